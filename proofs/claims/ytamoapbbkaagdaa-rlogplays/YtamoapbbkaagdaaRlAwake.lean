/-
  The law package's own 'awake'.
-/
import Derived.Test.YtamoapbbkaagdaaRlApp
namespace Go.Proofs.Ytamoapbbkaagdaa
open Go.RowKit

/-- A log that was made in this call, and used. -/
theorem Aft.fresh {w u w' : World} {s s' : G.L} (hb : Below w.heap.size w u) (_ : Lg u w.heap.size s' (fun k => w.heap.size < k ∧ k < u.heap.size)) (h : Aft (fun k => w.heap.size < k ∧ k < u.heap.size) u w' w.heap.size s) : Lg w' w.heap.size s (fun k => w.heap.size < k ∧ k < w'.heap.size) ∧ Below w.heap.size w w' := by
  refine ⟨h.1.wider (fun k hk => ?_) (fun k hk => ⟨hk.2, by omega⟩), ?_⟩
  · have := h.1.here k hk
    refine ⟨?_, this.1⟩
    rcases hk with e | e
    · exact e.1
    · have := hb.size
      have := h.1.here k (.inr e)
      omega
  · exact hb.trans (h.2.below (Nat.le_refl _) (fun k hk => by omega) hb.size)

set_option maxHeartbeats 800000 in
theorem awake_c (w : World) : Calls Try.prog 8 #[] w fun e w' => e = .returned (.bool true) ∧ Below w.heap.size w w' := by
  have HNew : Hid _ := New_yes w 5 2 (by omega)
  have HApp : Hid (∀ u own, Lg u w.heap.size ⟨5, 2, []⟩ own → Calls Try.prog 13 #[.pointer (some ⟨w.heap.size, 0, none⟩), .agg #[.int .i64 3, .string ⟨#[120]⟩]] u fun e w' => e = .returned (.tuple #[.int .i64 6, .int .i64 0]) ∧ Aft own u w' w.heap.size ⟨5, 2, [(3, ⟨#[120]⟩)]⟩) := by
    intro u own hu
    refine (Append_c hu (3, ⟨#[120]⟩)).mono ?_
    have e0 : G.appE ⟨5, 2, []⟩ (3, ⟨#[120]⟩) = 0 := by decide
    rintro e w' ⟨he, ha⟩
    unfold G.appA at he
    unfold G.app at ha
    rw [e0] at he ha
    exact ⟨he, ha⟩
  have HT : Hid (∀ u own, Lg u w.heap.size ⟨5, 2, [(3, ⟨#[120]⟩)]⟩ own → Calls Try.prog 18 #[.pointer (some ⟨w.heap.size, 0, none⟩), .int .i64 5] u fun e w' => e = .returned (.tuple #[.int .i64 2, .int .i64 0]) ∧ ∃ m, w' = u.drewN m) := fun u own hu => Term_c hu 5
  have HE : Hid (∀ u own, Lg u w.heap.size ⟨5, 2, [(3, ⟨#[120]⟩)]⟩ own → Calls Try.prog 20 #[.pointer (some ⟨w.heap.size, 0, none⟩), .int .i64 5] u fun e w' => e = .returned (.tuple #[.agg #[.int .i64 0, .string ⟨#[]⟩], .int .i64 60]) ∧ Below u.heap.size u w') := fun u own hu => Entry_c hu 5
  have HL : Hid (∀ u own, Lg u w.heap.size ⟨5, 2, [(3, ⟨#[120]⟩)]⟩ own → Calls Try.prog 16 #[.pointer (some ⟨w.heap.size, 0, none⟩)] u fun e w' => e = .returned (.int .i64 6) ∧ w' = u.drew) := fun u own hu => Last_c hu
  have HB : Hid (∀ u own, Lg u w.heap.size ⟨5, 2, [(3, ⟨#[120]⟩)]⟩ own → Calls Try.prog 17 #[.pointer (some ⟨w.heap.size, 0, none⟩)] u fun e w' => e = .returned (.int .i64 5) ∧ w' = u) := fun u own hu => Base_c hu
  go_enter Try.func8, Try.ntmps8
  go_wp2_with fail
  refine Calls.mono HNew.out ?_
  rintro e w1 ⟨rfl, hl, hb⟩
  have HL1 : Hid _ := hl
  have HB1 : Hid _ := hb
  clear hl hb
  go_wp2_with fail
  refine Calls.mono (HApp.out _ _ HL1.out) ?_
  rintro e w2 ⟨rfl, ha⟩
  have H2 : Hid (Lg w2 w.heap.size ⟨5, 2, [(3, ⟨#[120]⟩)]⟩ (fun k => w.heap.size < k ∧ k < w2.heap.size) ∧ Below w.heap.size w w2) := Aft.fresh HB1.out HL1.out ha
  clear ha
  go_wp2_with fail
  refine Calls.mono (HT.out _ _ H2.out.1) ?_
  rintro e w3 ⟨rfl, m, hw⟩
  subst hw
  go_wp2_with fail
  refine Calls.mono (HE.out _ _ (H2.out.1.drewN m)) ?_
  rintro e w4 ⟨rfl, hb4⟩
  have H4 : Hid (Lg w4 w.heap.size ⟨5, 2, [(3, ⟨#[120]⟩)]⟩ (fun k => w.heap.size < k ∧ k < w2.heap.size) ∧ Below w.heap.size w w4) := ⟨(H2.out.1.drewN m).below hb4, (H2.out.2.trans (Below.mono (below_drewN _ m) H2.out.2.size)).trans (Below.mono hb4 H2.out.2.size)⟩
  clear hb4
  go_wp2_with fail
  refine Calls.mono (HL.out _ _ (H4.out.1.below (below_alloc _ _))) ?_
  rintro e w5 ⟨rfl, hw⟩
  subst hw
  go_wp2_with fail
  refine Calls.mono (HB.out _ _ (H4.out.1.below (below_alloc _ _).drew)) ?_
  rintro e w6 ⟨rfl, hw⟩
  subst hw
  go_wp2
  go_ret
  exact ⟨rfl, H4.out.2.trans (Below.mono (below_alloc _ _).drew H4.out.2.size)⟩

end Go.Proofs.Ytamoapbbkaagdaa
