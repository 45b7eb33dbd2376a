/-
  The letters in memory of their own again, once more places were emptied than are left.
-/
import Derived.Test.YtpopanfefpehnaaNnDel
namespace Go.Proofs.Ytpopanfefpehnaa
open Go.RowKit

section
variable {w : World} {B : Nat} {s : Q.St} {own : Nat → Prop} {n : Nat}

set_option maxHeartbeats 800000 in
theorem settle_c (h : Nn w B s own n) (hn : n ≤ 1099511627776) (d : Nat) (hd : d ≤ n) : Calls Try.prog 74 #[.pointer (some ⟨B, 0, none⟩), .int .i64 (d : Int)] w fun e w' => e = .returned (.tuple #[]) ∧ AftQ own w w' B s n := by
  obtain ⟨v, mb, em, h⟩ := h
  obtain ⟨p, c, hv, hc1, hc2⟩ := h.row.form
  have HH : Hid (NnV w B s own n v mb em) := h
  have h1 := h.c1
  have h3 := h.c3
  have f1 := h.fz 1 (by omega)
  have f3 := h.fz 3 (by omega)
  have hfew := h.few
  have hlen := h.len
  obtain ⟨m, hm⟩ : ∃ m, m = s.ls.length := ⟨_, rfl⟩
  have HM : Hid (m = s.ls.length) := hm
  rw [hv, ← hm] at h1
  have HV : Hid (v = .slice p m c) := by rw [hm]; exact hv
  rw [← hm] at hlen
  obtain ⟨j, hj⟩ : ∃ j, j = em + d := ⟨_, rfl⟩
  have hwr : IntKind.i64.wrap ((em : Int) + (d : Int)) = (j : Int) := by rw [IntKind.wrap_i64]; omega
  have hwr' : wrap64 ((em : Int) + (d : Int)) = (j : Int) := by rw [IntWalk.wrap64_in _ ⟨by omega, by omega⟩]; omega
  obtain ⟨X, hX⟩ : ∃ X, X = (w.setCell ⟨B, 3, none⟩ (.int .i64 (j : Int))).drew := ⟨_, rfl⟩
  have hBX : ∀ q, X.cell? ⟨B, q, none⟩ = if q = 3 then some (.int .i64 (j : Int)) else w.cell? ⟨B, q, none⟩ := fun q => by rw [hX]; exact cell_set6 _ h3 q
  have hFX : ∀ q, X.frozen? ⟨B, q, none⟩ = w.frozen? ⟨B, q, none⟩ := fun q => by rw [hX]; exact World.frozen?_setCell _ _ _ _
  have hKX : KeptB B own w X := by
    rw [hX]
    have := KeptB.setCell (KeptB.refl B own w) ⟨B, 3, none⟩ (.inl rfl) (.int .i64 (j : Int))
    exact ⟨this.os, this.tape, this.output, this.size, this.block⟩
  have hoX : ∀ k, own k → X.heap[k]? = w.heap[k]? := fun k hk => by rw [hX]; exact Below.heap_setCell _ _ _ _ (h.here k hk).2
  have hrX : RowC X 3 (.slice p m c) m (ltCells s.ls) := by
    have := h.row.carry (w' := X) (fun q hq => hoX q (h.mine q hq))
    rw [hv, ← hm] at this
    exact this
  have hmX : Mp X mb n (fun a b => (Q.cnt s.ls a b : Int)) := h.map.carry (hoX mb h.mmine)
  have hsX : X.heap.size = w.heap.size := by rw [hX]; simp [World.setCell]
  have x1 : X.cell? ⟨B, 1, none⟩ = some (.slice p m c) := by rw [hBX, if_neg (by omega)]; exact h1
  have x3 : X.cell? ⟨B, 3, none⟩ = some (.int .i64 (j : Int)) := by rw [hBX, if_pos rfl]
  have g1 : X.frozen? ⟨B, 1, none⟩ = false := by rw [hFX]; exact f1
  have g3 : X.frozen? ⟨B, 3, none⟩ = false := by rw [hFX]; exact f3
  by_cases t : m < j
  · have HC : Hid _ := LClone_c hrX (ltCells_one _) (by omega)
    have HF : Hid (∀ w1 p1 c1, RowC w1 3 (.slice p1 m c1) m (ltCells s.ls) → Below X.heap.size X w1 → (∀ k, cBlk (.slice p1 m c1) = some k → X.heap.size ≤ k) →
        (w1.cell? ⟨B, 1, none⟩ = some (.slice p m c) ∧ w1.cell? ⟨B, 3, none⟩ = some (.int .i64 (j : Int)) ∧ w1.frozen? ⟨B, 1, none⟩ = false ∧ w1.frozen? ⟨B, 3, none⟩ = false) ∧ Hid (AftQ own w ((w1.setCell ⟨B, 1, none⟩ (.slice p1 m c1)).setCell ⟨B, 3, none⟩ (.int .i64 0)) B s n)) := by
      intro w1 p1 c1 hr hb1 hk1
      have hlt := World.block_lt_of_cell? _ _ x1
      have y1 := (hb1.cell hlt).trans x1
      have y3 := (hb1.cell (p := ⟨B, 3, none⟩) hlt).trans x3
      have hne : ∀ q, cBlk (.slice p1 m c1) = some q → q ≠ B := fun q hq => by have := hk1 q hq; have : B < X.heap.size := hlt; omega
      have z3 : (w1.setCell ⟨B, 1, none⟩ (.slice p1 m c1)).cell? ⟨B, 3, none⟩ = some (.int .i64 (j : Int)) := by rw [cell_set6 _ y1, if_neg (by omega)]; exact y3
      have hc : ∀ q, ((w1.setCell ⟨B, 1, none⟩ (.slice p1 m c1)).setCell ⟨B, 3, none⟩ (.int .i64 0)).cell? ⟨B, q, none⟩ = if q = 3 then some (.int .i64 0) else if q = 1 then some (.slice p1 m c1) else w.cell? ⟨B, q, none⟩ := fun q => by
        rw [cell_set6 _ z3]
        split
        · rfl
        · rw [cell_set6 _ y1]
          split
          · rfl
          · rw [hb1.cell (p := ⟨B, q, none⟩) hlt, hBX, if_neg (by assumption)]
      refine ⟨⟨y1, y3, (hb1.frozen (p := ⟨B, 1, none⟩) hlt).trans g1, (hb1.frozen (p := ⟨B, 3, none⟩) hlt).trans g3⟩, ?_⟩
      have hpp := HH.out.put (s' := s) (n' := n) (v' := .slice p1 m c1) (em' := 0) ((hKX.trans (KeptB.ofBelow hb1 (own := own)) (fun _ _ e => e)).setCell ⟨B, 1, none⟩ (.inl rfl) (.slice p1 m c1) |>.setCell ⟨B, 3, none⟩ (.inl rfl) (.int .i64 0))
        (by rw [hc, if_neg (by omega), if_neg (by omega)]; exact HH.out.c0) (by rw [hc, if_neg (by omega), if_pos rfl]) (by rw [hc, if_neg (by omega), if_neg (by omega)]; exact HH.out.c2) (by rw [hc, if_pos rfl]; rfl)
        (fun q hq => by rw [World.frozen?_setCell, World.frozen?_setCell, hb1.frozen (p := ⟨B, q, none⟩) hlt, hFX]; exact HH.out.fz q hq)
        (by
          rw [← HM.out]
          exact hr.carry (fun q hq => by rw [Below.heap_setCell _ _ _ _ (hne q hq), Below.heap_setCell _ _ _ _ (hne q hq)]))
        (hmX.carry (by rw [Below.heap_setCell _ _ _ _ (HH.out.here mb HH.out.mmine).2, Below.heap_setCell _ _ _ _ (HH.out.here mb HH.out.mmine).2, hb1.block mb hmX.lt]))
        (fun q hq => .inr ⟨by have := hk1 q hq; omega, by rw [size_set6, size_set6]; exact hr.lt (by omega) hq⟩) (Nat.zero_le _) HH.out.len HH.out.ok
      exact ⟨⟨_, _, _, hpp.1⟩, hpp.2⟩
    have t' : (m : Int) < (j : Int) := by omega
    clear h hv hm hc1 hc2 hlen hfew hj hBX hFX hKX hoX hrX hmX hsX HH HM HV hd hn t
    go_enter Try.func74, Try.ntmps74
    go_wp2
    go_region
    go_wp2_with fail
    rw [← hX]
    clear hX h1 h3 f1 f3
    refine Calls.mono HC.out ?_
    rintro e w1 ⟨v', rfl, hr, hb1, hk1⟩
    obtain ⟨p1, c1, hv1, _, _⟩ := hr.form
    subst hv1
    obtain ⟨⟨y1, y3, e1, e3⟩, HA⟩ := HF.out w1 p1 c1 hr hb1 hk1
    clear hr hb1 hk1 x1 x3 g1 g3
    go_wp2
    exact bodyPost_end (v := .tuple #[]) (by simp [results, Try.results74]) rfl ⟨rfl, HA.out⟩
  · have HF : Hid (AftQ own w X B s n) := by
      have hpp := HH.out.put (s' := s) (n' := n) (v' := v) (em' := j) hKX
        (by rw [hBX, if_neg (by omega)]; exact HH.out.c0) (by rw [hBX, if_neg (by omega)]; exact HH.out.c1) (by rw [hBX, if_neg (by omega)]; exact HH.out.c2) x3
        (fun q hq => by rw [hFX]; exact HH.out.fz q hq) (by rw [HV.out, ← HM.out]; exact hrX) hmX (fun q hq => .inl (HH.out.mine q hq)) (by omega) HH.out.len HH.out.ok
      exact ⟨⟨_, _, _, hpp.1⟩, hpp.2⟩
    have t' : ¬ (m : Int) < (j : Int) := by omega
    clear h hv hm hc1 hc2 hlen hfew hj hBX hFX hKX hoX hrX hmX hsX HH HM HV hd hn t
    go_enter Try.func74, Try.ntmps74
    go_wp2
    go_region
    go_wp2
    rw [← hX]
    exact bodyPost_end (v := .tuple #[]) (by simp [results, Try.results74]) rfl ⟨rfl, HF.out⟩

end
end Go.Proofs.Ytpopanfefpehnaa
