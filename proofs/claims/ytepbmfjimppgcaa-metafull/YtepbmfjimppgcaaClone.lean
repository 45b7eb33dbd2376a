/-
  A copy of a text is the text; nothing that was there is changed.
-/
import Derived.Test.YtepbmfjimppgcaaPutVar
import Derived.Lib.BufferWrite
namespace Go.Proofs.Ytepbmfjimppgcaa
open Go.RowKit

set_option maxHeartbeats 1000000 in
set_option maxRecDepth 20000 in
theorem inner_Clone (s : ByteArray) (w : World) (hs : s.size ≤ 140737488351232) :
    Calls Try.prog 58 #[.string s] w fun e w' => e = .returned (.string s) ∧ Below w.heap.size w w' := by
  by_cases h0 : s.size = 0
  · obtain rfl : s = ⟨#[]⟩ := ByteArray.ext (Array.eq_empty_of_size_eq_zero h0)
    clear hs h0
    go_enter Try.func58, Try.ntmps58
    go_wp2
    go_ret
    exact ⟨rfl, Below.refl _ _⟩
  · obtain ⟨i0, hi, hz0, hz1, hz2⟩ := info_parts info8
    have hinfo : (Try.prog.info? 5).map (·.size) = some 1 := by rw [hi]; simp [hz1]
    have hco : Try.prog.cellsOf 5 = 1 := by simp [Program.cellsOf, hi, hz1]
    have hll : s.data.toList.length = s.size := by simp
    obtain ⟨row, hrow⟩ : ∃ row, row = madeCells (Value.int .u8 0).cells (s.size * i0.size) := ⟨_, rfl⟩
    have hrs : row.size = s.size := by rw [hrow, size_madeCells, hz1]; omega
    have hmk : ∀ W : World, (Instr.makeSlice 51 (.int .i64 (s.size : Int)) (.int .i64 (s.size : Int))).run Try.prog W = .ok (.slice (some ⟨W.heap.size, 0, none⟩) s.size s.size) (W.alloc (.cells row 5)) := by
      intro W
      have h := run_make (P := Try.prog) W 51 5 i0 (.int .u8 0) Try.underlying51 hi hz0 .i64 .i64 (s.size : Int) (s.size : Int) (by omega) (by omega) (by rw [hz2]; omega) (by omega)
      simpa [← hrow] using h
    clear hrow
    obtain ⟨W1, hW1⟩ : ∃ W1, W1 = w.alloc (.cells row 5) := ⟨_, rfl⟩
    have hg1 : W1.heap[w.heap.size]? = some (.cells row 5 (0, 0)) := by rw [hW1]; exact heap_alloc_new w _
    have hcp := Lib.run_copy_row_string (P := Try.prog) W1 51 9 3 5 w.heap.size 0 s.size s.size s row 5 Try.underlying51 hinfo hg1 (Nat.le_refl _) (by omega)
    obtain ⟨Y, hY⟩ : ∃ Y, Y = (row.toList.take 0 ++ Lib.byteCells s.data.toList ++ row.toList.drop (0 + s.size)).toArray := ⟨_, rfl⟩
    rw [← hY] at hcp
    have hYl : Y.toList = Lib.byteCells s.data.toList := by
      rw [hY, List.toList_toArray, List.take_zero, List.nil_append, List.drop_of_length_le (by rw [Array.length_toList]; omega), List.append_nil]
    have hYs : Y.size = s.size := by rw [← Array.length_toList, hYl, Lib.byteCells_length, hll]
    have hg2 : (W1.setRow w.heap.size Y).heap[w.heap.size]? = some (.cells Y 5 (0, 0)) := setRow_heap _ _ row _ 5 (0, 0) hg1
    have hne : s.data.toList ≠ [] := by
      intro e
      rw [e] at hll
      simp at hll
      omega
    have hUS := Lib.run_unsafeString_row (P := Try.prog) (W1.setRow w.heap.size Y) 119 3 9 5 Try.underlying119 hco w.heap.size Y.size (by unfold World.shape?; rw [hg2]) s.data.toList hne (by omega) (by omega)
      (fun j x hx => by
        rw [addr_add0, Lib.cell_of_heap hg2, ← Array.getElem?_toList, hYl]
        simp [Lib.byteCells, hx])
    rw [hll] at hUS
    subst hW1
    clear hY hg1 hg2 hYl hne hYs hrs
    go_enter Try.func58, Try.ntmps58
    go_wp2
    go_ret
    have hb1 : Below w.heap.size w (w.alloc (.cells row 5)) := (Below.refl _ w).alloc (Nat.le_refl _) _
    have hb2 : Below w.heap.size (w.alloc (.cells row 5)) ((w.alloc (.cells row 5)).setRow w.heap.size Y) := ⟨rfl, rfl, rfl, by simp, fun k hk => setRow_other _ _ _ _ (by omega)⟩
    exact ⟨rfl, Lib.below_freeze (hb1.trans hb2) (p := ⟨w.heap.size, 0, none⟩) (Nat.le_refl _) _⟩

set_option maxHeartbeats 400000 in
theorem Clone_any (s : ByteArray) (w : World) (hs : s.size ≤ 140737488351232) :
    Calls Try.prog 39 #[.string s] w fun e w' => e = .returned (.string s) ∧ Below w.heap.size w w' := by
  go_enter Try.func39, Try.ntmps39
  go_wp2_with fail
  refine (inner_Clone s _ hs).mono ?_
  rintro e w1 ⟨rfl, hb⟩
  go_wp2
  go_ret
  exact ⟨rfl, hb⟩

end Go.Proofs.Ytepbmfjimppgcaa
