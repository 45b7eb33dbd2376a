/-
  What a raft node saves; its records.
-/
import Derived.Test.YteaopnhjndnpnaaNdOne3
namespace Go.Proofs.Yteaopnhjndnpnaa
open Go.RowKit

section
variable {w : World} {B : Nat} {s : N.St} {own : Nat → Prop}

set_option maxHeartbeats 800000 in
/-- Records are handed out; the node has none then. -/
theorem Records_c (h : Nd w B s own) : Calls Try.prog 19 #[.pointer (some ⟨B, 0, none⟩)] w fun e w' => ∃ p c own', e = .returned (.slice p s.recs.length c) ∧ AftN own w w' B { s with recs := [] } own' ∧ RowC w' 6 (.slice p s.recs.length c) s.recs.length (recCells s.group s.recs) ∧ (∀ k, cBlk (.slice p s.recs.length c) = some k → ¬ own' k ∧ k ≠ B ∧ k < w'.heap.size) := by
  have HM : Hid _ := made_c h
  obtain ⟨LB, MB, ol, rv, hv⟩ := h
  obtain ⟨p, c, hrv, hc1, hc2⟩ := hv.row.form
  have k34 : w.cell? ⟨B, 34, none⟩ = some (.slice p s.recs.length c) := by rw [hv.cells, ndCells_rv hv.sz, hrv]
  have f34 := hv.fz 34 (by decide)
  have HO : Hid (∃ own', AftN own w (w.setCell ⟨B, 34, none⟩ (.slice none 0 0)) B { s with recs := [] } own' ∧ RowC (w.setCell ⟨B, 34, none⟩ (.slice none 0 0)) 6 (.slice p s.recs.length c) s.recs.length (recCells s.group s.recs) ∧ (∀ k, cBlk (.slice p s.recs.length c) = some k → ¬ own' k ∧ k ≠ B ∧ k < (w.setCell ⟨B, 34, none⟩ (.slice none 0 0)).heap.size)) := by
    obtain ⟨m1, m2⟩ := hv.reslice (w4 := w) (v' := .slice none 0 0) (l := []) (RowC.nil _ _ _) ⟨rfl, rfl, rfl, Nat.le_refl _, fun _ _ _ => rfl⟩ (fun k hk => by simp [cBlk] at hk)
    have hsz : (w.setCell ⟨B, 34, none⟩ (.slice none 0 0)).heap.size = w.heap.size := size_set6 _ _ _
    refine ⟨fun k => own k ∧ cBlk rv ≠ some k, ⟨⟨LB, MB, ol, .slice none 0 0, m1.lt, m1.cells, m1.fz, m1.map, m1.log, m1.row, ⟨hv.oL, fun e => (hv.srv _ e).1 rfl⟩, ⟨hv.oM, fun e => (hv.srv _ e).2.1 rfl⟩, fun k hk => ⟨hv.olo k hk, fun e => (hv.srv k e).2.2 hk⟩, fun k hk => by simp [cBlk] at hk, m1.sM, fun k hk => by simp [cBlk] at hk, fun k hk => by rw [hsz]; exact hv.here k hk.1, m1.sz⟩, m2, fun k hk => .inl hk.1⟩, ?_, fun k hk => ?_⟩
    · have := hv.row
      rw [hrv] at this
      exact this.carry (fun k hk => Below.heap_setCell _ _ _ _ (hv.here k (hv.orv k (by rw [hrv]; exact hk))).2)
    · rw [← hrv] at hk
      have := hv.here k (hv.orv k hk)
      exact ⟨fun q => q.2 hk, this.2, by rw [hsz]; exact this.1⟩
  generalize s.recs.length = n at *
  clear hv hrv hc1 hc2
  go_enter Try.func19, Try.ntmps19
  go_wp2_with fail
  refine Calls.mono HM.out ?_
  rintro e w1 ⟨rfl, hw⟩
  subst hw
  go_wp2
  go_ret
  obtain ⟨own', h1, h2, h3⟩ := HO.out
  exact ⟨p, c, own', rfl, h1, h2, h3⟩

end
end Go.Proofs.Yteaopnhjndnpnaa
