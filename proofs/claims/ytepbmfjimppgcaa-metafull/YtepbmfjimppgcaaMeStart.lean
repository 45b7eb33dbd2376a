/-
  The meta group's plans: how many were taken, start.
-/
import Derived.Test.YtepbmfjimppgcaaMePlan
namespace Go.Proofs.Ytepbmfjimppgcaa
open Go.RowKit

section
variable {w : World} {B n : Nat} {q : Me.St} {who : Nat → Nat}
theorem takenTo_le {s : Sl.St} (h : Sl.Ok s) : ∀ k, k ≤ 16 → 0 ≤ Me.takenTo s.E k ∧ Me.takenTo s.E k ≤ (k : Int) * 2147483647
  | 0, _ => ⟨by show (0 : Int) ≤ 0; omega, by show (0 : Int) ≤ _; omega⟩
  | k + 1, hk => by
    have h1 := h k (by omega)
    have h2 := takenTo_le h k (by omega)
    have e : Me.takenTo s.E (k + 1) = Me.takenTo s.E k + ((s.E k : Int) - 1) := rfl
    rw [e]
    push_cast
    omega
/-- How many plans came to their end. -/
theorem taken_c (h : Mt w B q who n) : Calls Try.prog 42 #[.pointer (some ⟨B, 0, none⟩)] w fun e w' => e = .returned (.int .i64 (Me.takenTo q.own.E 16)) ∧ Below w.heap.size w w' := by
  obtain ⟨h0, ob, tb, tm, wv, vb, eb, hq⟩ := h
  have HE : Hid (∀ k, k ≤ 16 → 0 ≤ Me.takenTo q.own.E k ∧ Me.takenTo q.own.E k ≤ (k : Int) * 2147483647) := takenTo_le hq.r.sm.ok
  have HK : Hid (∀ k, k < 16 → 1 ≤ q.own.E k ∧ q.own.E k ≤ 2147483647) := fun k hk => by have := hq.r.sm.ok k hk; exact ⟨this.2.2.1, this.2.2.2⟩
  have HO : Hid (∀ X, Below w.heap.size w X → X.cell? ⟨B, 1, none⟩ = some (.pointer (some ⟨ob, 0, none⟩)) ∧ ∀ i : Nat, i < 16 → Calls Try.prog 19 #[.pointer (some ⟨ob, 0, none⟩), .int .i64 (i : Int)] X fun e w' => e = .returned (.tuple #[.int .i64 (q.own.O i : Int), .int .i64 (q.own.E i : Int), .int .i64 0]) ∧ Below w.heap.size w w') := fun X hX => by
    have hb := hq.below h0.np hX
    refine ⟨hb.b.c1, fun i hi => (OwnerS_yes hb.r.sm i hi).mono ?_⟩
    rintro e w' ⟨rfl, hb2⟩
    exact ⟨rfl, hX.trans (hb2.mono hX.size)⟩
  have HW : Hid (Below w.heap.size w w) := Below.refl _ _
  clear h0 hq
  generalize q.own.E = E at HE HK HO ⊢
  generalize q.own.O = O at HO
  go_enter Try.func42, Try.ntmps42
  go_wp2
  go_loopw [8, 3] (fun x nv wr => ∃ i : Nat, x = .int .i64 (i : Int) ∧ i ≤ 16 ∧ nv = .int .i64 (Me.takenTo E i) ∧ Hid (Below w.heap.size w wr)) (fun x _ _ => 16 - (intOf x).toNat)
  case atStart => exact ⟨0, rfl, by omega, rfl, HW⟩
  case round =>
    clear HW
    obtain ⟨i, rfl, hi, rfl, HX⟩ := hrel
    by_cases hlt : i < 16
    · obtain ⟨c1, ho⟩ := HO.out wr HX.out
      have HC : Hid _ := ho i hlt
      have HT : Hid (Me.takenTo E (i + 1) = Me.takenTo E i + ((E i : Int) - 1)) := rfl
      have HV : Hid (IntKind.i64.wrap ((E i : Int) - 1) = (E i : Int) - 1 ∧ IntKind.i64.wrap (Me.takenTo E i + ((E i : Int) - 1)) = Me.takenTo E i + ((E i : Int) - 1)) := by
        have a1 := HK.out i hlt
        have a2 := HE.out i (by omega)
        exact ⟨by rw [IntKind.wrap_i64]; omega, by rw [IntKind.wrap_i64]; omega⟩
      clear ho
      go_wp2_with fail
      refine Calls.mono HC.out ?_
      rintro e w2 ⟨rfl, hb2⟩
      have HY : Hid _ := hb2
      clear hb2 c1
      obtain ⟨t, ht⟩ : ∃ t, t = Me.takenTo E i := ⟨_, rfl⟩
      obtain ⟨ev, hev⟩ : ∃ ev : Int, ev = (E i : Int) := ⟨_, rfl⟩
      have v1 : IntKind.i64.wrap (ev - 1) = ev - 1 := by rw [hev]; exact HV.out.1
      have v2 : IntKind.i64.wrap (t + (ev - 1)) = t + (ev - 1) := by rw [hev, ht]; exact HV.out.2
      have HTt : Hid (t + (ev - 1) = Me.takenTo E (i + 1)) := by rw [hev, ht]; rfl
      rw [← ht, ← hev]
      clear ht hev HT HV
      go_wp2
      go_roundw
      case rel => exact ⟨i + 1, by go_num, by omega, by rw [← HTt.out], HY⟩
      case measure => simp [intOf]; omega
    · obtain rfl : i = 16 := by omega
      go_wp2
      go_ret
      exact ⟨rfl, HX.out⟩
end
end Go.Proofs.Ytepbmfjimppgcaa
