/-
  The writer of package command, in memory: a strings.Builder in a struct of its own.
-/
import Derived.Lib.FrozenHead
import Derived.Lib.UnsafeStr
import Derived.Laws.Externs
import Derived.Shelf.Strings.Builder1
import Derived.Test.YtnfjfhjhofaodaaDkRow
import Derived.Test.YtnfjfhjhofaodaaPutVar
import Derived.Test.YtnfjfhjhofaodaaClone
import Derived.Test.YtnfjfhjhofaodaaRows
namespace Go.Proofs.Ytnfjfhjhofaodaa
open Go.RowKit

/-- What was there, and is none of the blocks that 'own' tells, is as it was. -/
structure KeptO (own : Nat → Prop) (w w' : World) : Prop where
  os : w'.os = w.os
  tape : w'.tape = w.tape
  output : w'.output = w.output
  size : w.heap.size ≤ w'.heap.size
  block : ∀ k, k < w.heap.size → ¬ own k → w'.heap[k]? = w.heap[k]?

theorem KeptO.refl (own : Nat → Prop) (w : World) : KeptO own w w := ⟨rfl, rfl, rfl, Nat.le_refl _, fun _ _ _ => rfl⟩
theorem KeptO.trans {own own' : Nat → Prop} {a w w' : World} (h : KeptO own a w) (k : KeptO own' w w') (ho : ∀ k, k < a.heap.size → own' k → own k) : KeptO own a w' :=
  ⟨k.os.trans h.os, k.tape.trans h.tape, k.output.trans h.output, Nat.le_trans h.size k.size, fun i hi hn => (k.block i (Nat.lt_of_lt_of_le hi h.size) (fun x => hn (ho i hi x))).trans (h.block i hi hn)⟩
theorem KeptO.mono {own own' : Nat → Prop} {w w' : World} (h : KeptO own w w') (ho : ∀ k, k < w.heap.size → own k → own' k) : KeptO own' w w' :=
  ⟨h.os, h.tape, h.output, h.size, fun i hi hn => h.block i hi (fun x => hn (ho i hi x))⟩
theorem KeptO.of_below {own : Nat → Prop} {w w' : World} (h : Below w.heap.size w w') : KeptO own w w' := ⟨h.os, h.tape, h.output, h.size, fun k hk _ => h.block k hk⟩
theorem KeptO.below {own : Nat → Prop} {a w : World} {B : Nat} (h : KeptO own a w) (hB : B ≤ a.heap.size) (ho : ∀ k, own k → B ≤ k) : Below B a w :=
  ⟨h.os, h.tape, h.output, h.size, fun k hk => h.block k (by omega) (fun x => by have := ho k x; omega)⟩
theorem KeptO.cell {own : Nat → Prop} {w w' : World} (h : KeptO own w w') {p : Addr} (hp : p.block < w.heap.size) (hn : ¬ own p.block) : w'.cell? p = w.cell? p :=
  World.cell?_of_block (w := w) (h.block p.block hp hn)
theorem KeptO.frozen {own : Nat → Prop} {w w' : World} (h : KeptO own w w') {p : Addr} (hp : p.block < w.heap.size) (hn : ¬ own p.block) : w'.frozen? p = w.frozen? p :=
  World.frozen?_of_block (w := w) (h.block p.block hp hn)
theorem KeptO.setCell {own : Nat → Prop} {a w : World} (h : KeptO own a w) {p : Addr} (hp : p.block < a.heap.size → own p.block) (u : Value) : KeptO own a (w.setCell p u) :=
  ⟨h.os, h.tape, h.output, by simpa using h.size, fun k hk hn => by
    have : k ≠ p.block := fun e => hn (e ▸ hp (e ▸ hk))
    rw [Below.heap_setCell _ _ _ _ this]; exact h.block k hk hn⟩
theorem KeptO.drew {own : Nat → Prop} {a w : World} (h : KeptO own a w) : KeptO own a w.drew := ⟨h.os, h.tape, h.output, h.size, h.block⟩
theorem KeptO.alloc {own : Nat → Prop} {a w : World} (h : KeptO own a w) (o : Obj) : KeptO own a (w.alloc o) :=
  ⟨h.os, h.tape, h.output, by have := h.size; simp; omega, fun k hk hn => by rw [Below.heap_alloc _ _ _ (Nat.lt_of_lt_of_le hk h.size)]; exact h.block k hk hn⟩

/-- The writer in block B has the bytes l, in the row g. -/
def Wr (w : World) (B : Nat) (g : Option Nat) (l : List UInt8) : Prop :=
  ∃ p v, (p = .pointer none ∨ p = .pointer (some ⟨B, 0, none⟩)) ∧ w.heap[B]? = some (.cells #[p, v] 96 (0, 0)) ∧ OwnB w 0 5 v l ∧ v.ownBlock = g ∧ g ≠ some B

theorem OwnB.kept {w w' : World} {b u8 : Nat} {v : Value} {l : List UInt8} (h : OwnB w b u8 v l) (hk : ∀ k, v.ownBlock = some k → k < w.heap.size → w'.heap[k]? = w.heap[k]?) : OwnB w' b u8 v l := by
  obtain ⟨h1, h2 | ⟨g, cap, cur, hv, hg, hh, r⟩⟩ := h
  · exact ⟨h1, .inl h2⟩
  · have hlt : g < w.heap.size := by
      rcases Nat.lt_or_ge g w.heap.size with x | x
      · exact x
      · rw [Array.getElem?_eq_none x] at hh; cases hh
    exact ⟨h1, .inr ⟨g, cap, cur, hv, hg, by rw [hk g (by rw [hv]; rfl) hlt]; exact hh, r⟩⟩

theorem OwnB.shape {w : World} {b u8 : Nat} {v : Value} {l : List UInt8} (h : OwnB w b u8 v l) : ∃ p n c, v = .slice p n c := by
  obtain ⟨h1, h2 | ⟨g, cap, cur, hv, hg, hh, r⟩⟩ := h
  · exact ⟨_, _, _, h2.1⟩
  · exact ⟨_, _, _, hv⟩

theorem OwnB.lt {w : World} {b u8 : Nat} {v : Value} {l : List UInt8} (h : OwnB w b u8 v l) : ∀ k, v.ownBlock = some k → k < w.heap.size := by
  obtain ⟨h1, h2 | ⟨g, cap, cur, hv, hg, hh, r⟩⟩ := h
  · intro k hk; rw [h2.1] at hk; cases hk
  · intro k hk
    rw [hv] at hk
    simp [Value.ownBlock] at hk
    subst hk
    rcases Nat.lt_or_ge g w.heap.size with x | x
    · exact x
    · rw [Array.getElem?_eq_none x] at hh; cases hh

theorem Wr.lt {w : World} {B : Nat} {g : Option Nat} {l : List UInt8} (h : Wr w B g l) : B < w.heap.size := by
  obtain ⟨p, v, _, hh, _⟩ := h
  rcases Nat.lt_or_ge B w.heap.size with x | x
  · exact x
  · rw [Array.getElem?_eq_none x] at hh; cases hh

theorem Wr.row_lt {w : World} {B : Nat} {g : Option Nat} {l : List UInt8} (h : Wr w B g l) : ∀ k, g = some k → k < w.heap.size := by
  obtain ⟨p, v, _, _, ho, hg, _⟩ := h
  intro k hk
  exact ho.lt k (hg.trans hk)

/-- What the writer's own blocks are. -/
def WrO (B : Nat) (g : Option Nat) (k : Nat) : Prop := k = B ∨ g = some k

theorem Wr.kept {w w' : World} {B : Nat} {g : Option Nat} {l : List UInt8} (h : Wr w B g l) {own : Nat → Prop} (hk : KeptO own w w') (hB : ¬ own B) (hg : ∀ k, g = some k → ¬ own k) : Wr w' B g l := by
  have hlt := h.lt
  obtain ⟨p, v, hp, hh, ho, hv, hne⟩ := h
  refine ⟨p, v, hp, by rw [hk.block B hlt hB]; exact hh, ho.kept ?_, hv, hne⟩
  intro k e hlt
  exact hk.block k hlt (hg k (hv.symm.trans e))

theorem Wr.below {w w' : World} {B : Nat} {g : Option Nat} {l : List UInt8} (h : Wr w B g l) (hk : Below w.heap.size w w') : Wr w' B g l :=
  h.kept (KeptO.of_below (own := fun _ => False) hk) id (fun _ _ => id)

theorem wr_new (w : World) : Wr (w.alloc (.cells #[.pointer none, .slice none 0 0] 96)) w.heap.size none [] :=
  ⟨_, _, .inl rfl, heap_alloc_new _ _, OwnB.nil _ _ _, rfl, by simp⟩

set_option maxHeartbeats 1000000 in
set_option maxRecDepth 100000 in
theorem copyCheck_c {w : World} {B : Nat} {g : Option Nat} {l : List UInt8} (h : Wr w B g l) :
    Calls Try.prog 51 #[.pointer (some ⟨B, 0, none⟩)] w fun e w' => e = .returned (.tuple #[]) ∧ Wr w' B g l ∧ KeptO (WrO B g) w w' := by
  have hjj : (Try.prog.info? 94).map (·.size) = some 2 := by kernel_rfl
  obtain ⟨j, hj, hjs⟩ := Option.map_eq_some_iff.1 hjj
  have hlies : liesAt Try.prog Try.prog.depth 96 (2 / Try.prog.cellsOf 96) 0 94 1 = true := by kernel_rfl
  have hW := h
  obtain ⟨p, v, hp, hh, ho, hv, hne⟩ := h
  rcases hp with rfl | rfl
  · have h0 : w.cell? ⟨B, 0, none⟩ = some (.pointer none) := by rw [Lib.cell_of_heap hh]; rfl
    have hsh : w.shape? B = some (96, 2) := by unfold World.shape?; rw [hh]; rfl
    have hfz : w.frozen? ⟨B, 0, none⟩ = false := by simp [World.frozen?, hh]
    go_enter Try.func51, Try.ntmps51
    go_wp2
    rw [Lib.run_to_unsafe w ⟨B, 0, none⟩ Try.underlying92 Try.underlying140 hj (by rw [hjs]; decide) hsh (Nat.zero_lt_succ 1)]
    simp only [Result.andThen]
    rw [Oper.upon_value]
    go_wp2
    rw [run_callFunc_extern Try.func67 (by kernel_rfl) (by kernel_rfl) (by kernel_rfl) (e := Extern.AbiNoEscape.same) (by kernel_rfl)]
    rw [Lib.run_noEscape]
    simp only [Result.andThen]
    rw [Oper.upon_value]
    go_wp2
    rw [Lib.run_from_unsafe w ⟨B, 0, none⟩ Try.underlying140 Try.underlying92 hj hsh hlies]
    simp only [Result.andThen]
    rw [Oper.upon_value]
    go_wp2
    go_end0
    refine ⟨rfl, ⟨.pointer (some ⟨B, 0, none⟩), v, .inr rfl, ?_, ?_, hv, hne⟩, (KeptO.refl _ w).setCell (p := ⟨B, 0, none⟩) (fun _ => .inl rfl) _⟩
    · rw [heap_setCell_same _ _ _ _ _ _ hh]
      simp
    · refine ho.kept fun k hk hlt => Below.heap_setCell _ _ _ _ ?_
      rintro rfl
      exact hne (hv.symm.trans hk)
  · have h0 : w.cell? ⟨B, 0, none⟩ = some (.pointer (some ⟨B, 0, none⟩)) := by rw [Lib.cell_of_heap hh]; rfl
    go_enter Try.func51, Try.ntmps51
    go_wp2
    rw [Lib.run_neq_ptr_same w _ Try.underlying92 hj]
    go_wp2
    go_end0
    exact ⟨rfl, hW, KeptO.refl _ _⟩

set_option maxHeartbeats 1000000 in
set_option maxRecDepth 100000 in
/-- WriteString. -/
theorem wr_write {w : World} {B : Nat} {g : Option Nat} {l : List UInt8} (h : Wr w B g l) (s : ByteArray) (hl : l.length + s.size ≤ 140737488351232) :
    Calls Try.prog 42 #[.pointer (some ⟨B, 0, none⟩), .string s] w fun e w' => e = .returned (.tuple #[.int .i64 s.size, .nilIface]) ∧ ∃ g', Wr w' B g' (l ++ s.data.toList) ∧ KeptO (WrO B g) w w' ∧ (∀ k, g' = some k → g = some k ∨ w.heap.size ≤ k) := by
  go_enter Try.func42, Try.ntmps42
  go_wp2_with (go_at_call 51; refine (copyCheck_c h).mono ?_)
  rintro e w1 ⟨rfl, h1, hk1⟩
  obtain ⟨p, v, hp, hh, ho, hv, hne⟩ := h1
  have c0 : w1.cell? ⟨B, 0, none⟩ = some p := by rw [Lib.cell_of_heap hh]; rfl
  have c1 : w1.cell? ⟨B, 1, none⟩ = some v := by rw [Lib.cell_of_heap hh]; rfl
  have hB : B < w1.heap.size := Wr.lt ⟨p, v, hp, hh, ho, hv, hne⟩
  go_wp2_with (at_builtin; refine wpList_append_bytes rfl _ _ 63 9 5 rfl Try.underlying63 info8 0 v l rfl ho (.string s) s.data.toList rfl ?c3 ?c4 ?c5 ?_)
  case c3 => exact Src.ofString _ Try.underlying9 s
  case c4 => simp; omega
  case c5 => omega
  intro v' w2 ho2 hg2 hn2
  obtain ⟨pp, nn, cc, rfl⟩ := ho2.shape
  have hb2 : w2.heap[B]? = some (.cells #[p, v] 96 (0, 0)) := by
    rw [hg2.block B hB (fun e => hne e.symm)]; exact hh
  have d1 : w2.cell? ⟨B, 1, none⟩ = some v := by rw [Lib.cell_of_heap hb2]; rfl
  have hfz : w2.frozen? ⟨B, 1, none⟩ = false := by simp [World.frozen?, hb2]
  go_wp2
  go_ret2
  have hgs := h.row_lt
  have hne' : (Value.slice pp nn cc).ownBlock ≠ some B := by
    intro e
    rcases hn2 B e with x | x
    · exact hne x
    · omega
  refine ⟨rfl, (Value.slice pp nn cc).ownBlock, ⟨p, .slice pp nn cc, hp, by rw [heap_setCell_same _ _ _ _ _ _ hb2]; simp, ho2.kept (fun k hk _ => Below.heap_setCell _ _ _ _ (by rintro rfl; exact hne' hk)), rfl, hne'⟩, ?_, ?_⟩
  · refine (hk1.trans (own' := WrO B g) ⟨hg2.os, hg2.tape, hg2.output, hg2.size, fun k hk hn => hg2.block k hk (fun e => hn (.inr e.symm))⟩ (fun _ _ x => x)).setCell (p := ⟨B, 1, none⟩) (fun _ => .inl rfl) _
  · intro k hk
    rcases hn2 k hk with x | x
    · exact .inl x
    · exact .inr (Nat.le_trans hk1.size x)

theorem heap_freeze_other (w : World) (p : Addr) (n k : Nat) (h : k ≠ p.block) : (w.freeze p n).heap[k]? = w.heap[k]? := by
  unfold World.freeze
  split
  · rfl
  · simp only [Array.getElem?_modify]
    rw [if_neg (fun e => h e.symm)]
theorem size_freeze (w : World) (p : Addr) (n : Nat) : (w.freeze p n).heap.size = w.heap.size := by
  unfold World.freeze
  split <;> simp
theorem rfl_os_freeze (w : World) (p : Addr) (n : Nat) : (w.drew.freeze p n).os = w.os := by unfold World.freeze; split <;> rfl
theorem rfl_tape_freeze (w : World) (p : Addr) (n : Nat) : (w.drew.freeze p n).tape = w.tape := by unfold World.freeze; split <;> rfl
theorem rfl_output_freeze (w : World) (p : Addr) (n : Nat) : (w.drew.freeze p n).output = w.output := by unfold World.freeze; split <;> rfl

set_option maxHeartbeats 1000000 in
set_option maxRecDepth 100000 in
/-- String. -/
theorem wr_string {w : World} {B : Nat} {g : Option Nat} {l : List UInt8} (h : Wr w B g l) (h0 : l ≠ []) :
    Calls Try.prog 44 #[.pointer (some ⟨B, 0, none⟩)] w fun e w' => e = .returned (.string ⟨l.toArray⟩) ∧ KeptO (WrO B g) w w' := by
  obtain ⟨p, v, hp, hh, ho, hv, hne⟩ := h
  have hl0 : l.length ≠ 0 := by simpa using h0
  have hcells : Try.prog.cellsOf 5 = 1 := by kernel_rfl
  have ho' := ho
  obtain ⟨_, hz | ⟨g1, cap, cur, rfl, hbg, hg, hnc, hcm, hcs, htake⟩⟩ := ho
  · exact absurd hz.2 hl0
  simp [Value.ownBlock] at hv
  subst hv
  have c1 : w.drew.cell? ⟨B, 1, none⟩ = some (.slice (some ⟨g1, 0, none⟩) l.length cap) := by
    have : w.drew.heap[B]? = some (.cells #[p, .slice (some ⟨g1, 0, none⟩) l.length cap] 96 (0, 0)) := hh
    rw [Lib.cell_of_heap this]; rfl
  have hSD : (Builtin.unsafeSliceData_ #[63] 127 #[.slice (some ⟨g1, 0, none⟩) l.length cap]).run Try.prog w.drew = .ok (.pointer (some ⟨g1, 0, none⟩)) w.drew :=
    Lib.run_unsafeSliceData_row _ _ _ _ _ _ (by omega)
  have hUS : (Builtin.unsafeString_ #[127, 3] 9 #[.pointer (some ⟨g1, 0, none⟩), .int .i64 l.length]).run Try.prog w.drew = .ok (.string ⟨l.toArray⟩) (w.drew.freeze ⟨g1, 0, none⟩ l.length) := by
    refine Lib.run_unsafeString_row w.drew 127 3 9 5 Try.underlying127 hcells g1 cur.size (by have hg' : w.drew.heap[g1]? = some (.cells cur 5 (0, 0)) := hg; simp [World.shape?, hg']) l h0 (by omega) (by unfold maxLen at hcm; omega) ?_
    intro j x hx
    have hj : j < l.length := by
      rcases Nat.lt_or_ge j l.length with y | y
      · exact y
      · rw [List.getElem?_eq_none y] at hx; cases hx
    have hc := World.ownsRow.cellAt (w := w) (base := 0) (e := 5) (size := 1) (g := g1) (n := l.length) (cap := cap) (xs := Lib.byteCells l) ho' j (by omega)
    rw [addr_add0]
    show w.cell? ⟨g1, j, none⟩ = _
    rw [hc]
    simp [Lib.byteCells, hx]
  go_enter Try.func44, Try.ntmps44
  go_wp2
  go_region
  all_goals (go_wp2; go_ret; refine ⟨rfl, ?_⟩)
  all_goals
    refine ⟨rfl_os_freeze _ _ _, rfl_tape_freeze _ _ _, rfl_output_freeze _ _ _, by rw [size_freeze]; exact Nat.le_refl _, fun k hk hn => ?_⟩
    rw [heap_freeze_other _ _ _ _ (fun e => hn (.inr (by rw [e])))]
    rfl

end Go.Proofs.Ytnfjfhjhofaodaa
