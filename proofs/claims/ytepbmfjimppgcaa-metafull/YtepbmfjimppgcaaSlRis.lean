/-
  Slots, rising, each once; all of them.
-/
import Derived.Test.YtepbmfjimppgcaaSlSort
import Derived.Test.YtepbmfjimppgcaaSlRef
namespace Go.Proofs.Ytepbmfjimppgcaa
open Go.RowKit

/-- One number alone is as it is. -/
theorem Compact_1 (w : World) (p : Option Addr) (c : Nat) : Calls Try.prog 71 #[.slice p 1 c] w fun e w' => e = .returned (.slice p 1 c) ∧ w' = w := by
  go_enter Try.func71, Try.ntmps71
  go_wp2
  go_ret
  exact ⟨rfl, rfl⟩

/-- What lies in a row of the call's own. -/
def Lst (w X : World) (v : Value) (l : List Nat) : Prop := Below w.heap.size w X ∧ (l = [] ∧ v = .slice none 0 0 ∨ ∃ g c, v = .slice (some ⟨g, 0, none⟩) l.length c ∧ g < X.heap.size ∧ ∀ (i x : Nat), l[i]? = some x → X.cell? ⟨g, i, none⟩ = some (.int .i64 (x : Int)))

theorem rising_1 (w X : World) (h0 : Below w.heap.size w X) (a : Nat) : Calls Try.prog 60 #[.slice (some ⟨X.heap.size, 0, none⟩) 1 1] (X.alloc (.cells #[.int .i64 (a : Int)] 3)) fun e w' => ∃ v, e = .returned v ∧ Lst w w' v [a] := by
  obtain ⟨Z, hZ⟩ : ∃ Z, Z = X.alloc (.cells #[.int .i64 (a : Int)] 3) := ⟨_, rfl⟩
  obtain ⟨g, hg⟩ : ∃ g, g = X.heap.size := ⟨_, rfl⟩
  have hR : Row7 Z g [(a : Int)] Z := by
    refine ⟨KeptB.refl _ _ _, by rw [hZ, hg]; simp, fun j x hx => ?_, fun j _ => ?_⟩
    · match j, hx with
      | 0, hx =>
        injection hx with hx
        rw [← hx, hZ, hg]
        exact World.cell?_alloc_mark X _ _ _ 0
    · rw [hZ, hg, World.frozen?_alloc_mark]; simp
  have HS : Hid _ := Sort_c Z g 1 [(a : Int)] ⟨by simp, by simp⟩ hR
  have HC : Hid (∀ Y, Calls Try.prog 71 #[.slice (some ⟨g, 0, none⟩) 1 1] Y fun e w' => e = .returned (.slice (some ⟨g, 0, none⟩) 1 1) ∧ w' = Y) := fun Y => Compact_1 Y _ _
  have HEnd : Hid (∀ Y l, Row7 Z g l Y → l.Perm [(a : Int)] → Lst w Y (.slice (some ⟨g, 0, none⟩) 1 1) [a]) := fun Y l h1 h2 => by
    have e : l = [(a : Int)] := List.perm_singleton.1 h2
    subst e
    have hb : Below w.heap.size w Y := (h0.trans (by rw [hZ]; exact (sl_below_alloc X _).mono h0.size)).trans (h1.kept.below (by rw [hg]; exact h0.size) (fun _ q => q.elim) (by rw [hZ]; have := h0.size; simp; omega))
    refine ⟨hb, .inr ⟨g, 1, rfl, h1.lt, fun i x hx => ?_⟩⟩
    match i, hx with
    | 0, hx =>
      injection hx with hx
      rw [← hx]
      exact h1.c 0 _ rfl
  rw [← hZ, ← hg]
  clear hZ hg hR
  go_enter Try.func60, Try.ntmps60
  go_wp2_with fail
  refine Calls.mono HS.out ?_
  rintro e Y ⟨rfl, l, h1, h2, -⟩
  have HL : Hid _ := HEnd.out Y l h1 h2
  clear h1 h2
  go_wp2_with fail
  refine (HC.out _).mono ?_
  rintro e Y2 ⟨rfl, h⟩
  subst h
  go_wp2
  go_ret
  exact ⟨_, rfl, HL.out⟩

def row16 (n : Nat) : List Nat := List.range n
set_option maxHeartbeats 800000 in
theorem every_c (w : World) : Calls Try.prog 62 #[] w fun e w' => ∃ v, e = .returned v ∧ Lst w w' v (List.range 16) := by
  have hmk := run_makeN 16 (by omega) w
  rw [show ((16 : Nat) : Int) = 16 from rfl] at hmk
  obtain ⟨Z, hZ⟩ : ∃ Z, Z = w.alloc (.cells (noN 16) 3) := ⟨_, rfl⟩
  obtain ⟨g, hg⟩ : ∃ g, g = w.heap.size := ⟨_, rfl⟩
  have HZ : Hid (Below w.heap.size w Z ∧ g < Z.heap.size ∧ w.heap.size ≤ g ∧ (∀ j, j < 16 → ∃ x, Z.cell? ⟨g, j, none⟩ = some x) ∧ ∀ j, Z.frozen? ⟨g, j, none⟩ = false) := by
    refine ⟨by rw [hZ]; exact sl_below_alloc w _, by rw [hZ, hg]; simp, by omega, fun j hj => ⟨_, by rw [hZ, hg, World.cell?_alloc_mark]; exact noN_at 16 j hj⟩, fun j => by rw [hZ, hg, World.frozen?_alloc_mark]; simp⟩
  rw [← hZ, ← hg] at hmk
  go_enter Try.func62, Try.ntmps62
  go_wp2
  try rw [← hZ]
  try rw [← hg]
  clear hZ hg hmk
  go_loopw [6] (fun x wr => ∃ n : Nat, x = .int .i64 (n : Int) ∧ n ≤ 16 ∧ Hid (Below w.heap.size w wr ∧ g < wr.heap.size ∧ (∀ j, j < 16 → ∃ x, wr.cell? ⟨g, j, none⟩ = some x) ∧ (∀ j, wr.frozen? ⟨g, j, none⟩ = false) ∧ ∀ j, j < n → wr.cell? ⟨g, j, none⟩ = some (.int .i64 (j : Int)))) (fun x _ => 16 - (intOf x).toNat)
  case atStart => exact ⟨0, rfl, by omega, ⟨HZ.out.1, HZ.out.2.1, HZ.out.2.2.2.1, HZ.out.2.2.2.2, fun j h => by omega⟩⟩
  case round =>
    obtain ⟨n, rfl, hn, HR⟩ := hrel
    by_cases hlt : n < 16
    · obtain ⟨x, hx⟩ := HR.out.2.2.1 n hlt
      have hf := HR.out.2.2.2.1 n
      have HN : Hid (Below w.heap.size w (wr.setCell ⟨g, n, none⟩ (.int .i64 (n : Int))) ∧ g < (wr.setCell ⟨g, n, none⟩ (.int .i64 (n : Int))).heap.size ∧ (∀ j, j < 16 → ∃ x, (wr.setCell ⟨g, n, none⟩ (.int .i64 (n : Int))).cell? ⟨g, j, none⟩ = some x) ∧ (∀ j, (wr.setCell ⟨g, n, none⟩ (.int .i64 (n : Int))).frozen? ⟨g, j, none⟩ = false) ∧ ∀ j, j < n + 1 → (wr.setCell ⟨g, n, none⟩ (.int .i64 (n : Int))).cell? ⟨g, j, none⟩ = some (.int .i64 (j : Int))) := by
        refine ⟨HR.out.1.setCell HZ.out.2.2.1 _, by rw [sl_size_set6]; exact HR.out.2.1, fun j hj => ?_, fun j => by rw [World.frozen?_setCell]; exact HR.out.2.2.2.1 j, fun j hj => ?_⟩
        · rw [sl_cell_set6 _ hx]
          split
          · exact ⟨_, rfl⟩
          · exact HR.out.2.2.1 j hj
        · rw [sl_cell_set6 _ hx]
          by_cases e : j = n
          · rw [if_pos e, e]
          · rw [if_neg e]
            exact HR.out.2.2.2.2 j (by omega)
      go_wp2
      go_roundw
      case rel => exact ⟨n + 1, by go_num, by omega, HN⟩
      case measure => simp [intOf]; omega
    · obtain rfl : n = 16 := by omega
      go_wp2
      go_ret
      refine ⟨_, rfl, HR.out.1, .inr ⟨g, 16, rfl, HR.out.2.1, fun i x hx => ?_⟩⟩
      obtain ⟨h1, h2⟩ := List.getElem?_eq_some_iff.1 hx
      simp at h1 h2
      rw [← h2]
      exact HR.out.2.2.2.2 i h1

end Go.Proofs.Ytepbmfjimppgcaa
