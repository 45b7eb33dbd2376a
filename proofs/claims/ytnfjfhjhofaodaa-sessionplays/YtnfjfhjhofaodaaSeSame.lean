/-
  The document's own comparing of posts and replies, where they are the same.
-/
import Derived.Test.YtnfjfhjhofaodaaSeFind
namespace Go.Proofs.Ytnfjfhjhofaodaa
open Go.RowKit

theorem run_poNe (u t : ByteArray) (w : World) : (binOp .neq 74 (.agg #[.string u, .string t]) (.agg #[.string u, .string t])).run Try.prog w = .ok (.bool false) w := by
  go_simp

/-- Where an element lies. -/
theorem PoR.at {w : World} {p : Option Addr} {n c i : Nat} {ps : List Mo.Po} (h : PoR w (.slice p n c) ps) (hi : i < n) : ∃ g o, p = some ⟨g, o, none⟩ ∧ n = ps.length ∧ ∃ e, ps[i]? = some e ∧ w.cell? ⟨g, o + i * 2, none⟩ = some (.string e.user) ∧ w.cell? ⟨g, o + i * 2 + 1, none⟩ = some (.string e.text) := by
  obtain ⟨p', c', hv, h2, h3, h4, h5⟩ := h
  injection hv with e1 e2 e3
  subst e1 e2 e3
  cases p with
  | none => have := h4 rfl; omega
  | some a =>
    obtain ⟨b, off, spot⟩ := a
    have hat := poCells_at ps i ps[i] (List.getElem?_eq_getElem hi)
    have k0 := h5 _ rfl _ _ hat.1
    have k1 := h5 _ rfl _ _ hat.2
    have h0 := poCells_at ps 0 (ps[0]'(by omega)) (List.getElem?_eq_getElem (by omega))
    have hspot : spot = none := by
      have := h5 _ rfl _ _ h0.1
      simpa [Addr.add] using World.cell?_spot this
    subst hspot
    rw [Addr.add_lit] at k0 k1
    exact ⟨b, off, rfl, rfl, _, List.getElem?_eq_getElem hi, k0, by rw [Nat.add_assoc]; exact k1⟩

set_option maxHeartbeats 1000000 in
set_option maxRecDepth 20000 in
theorem SamePosts_eq {w : World} {v v' : Value} {ps : List Mo.Po} (h1 : PoR w v ps) (h2 : PoR w v' ps) :
    Calls Try.prog 30 #[v, v'] w fun e w' => e = .returned (.bool true) ∧ Below w.heap.size w w' := by
  obtain ⟨p, c, hv, hc1, hc2⟩ := h1.form
  obtain ⟨p', c', hv', _⟩ := h2.form
  subst hv hv'
  have HC : Hid (∀ i X, Below w.heap.size w X → i < ps.length → ∃ g o g' o' u t, p = some ⟨g, o, none⟩ ∧ p' = some ⟨g', o', none⟩ ∧ X.cell? ⟨g, o + i * 2, none⟩ = some (.string u) ∧ X.cell? ⟨g, o + i * 2 + 1, none⟩ = some (.string t) ∧ X.cell? ⟨g', o' + i * 2, none⟩ = some (.string u) ∧ X.cell? ⟨g', o' + i * 2 + 1, none⟩ = some (.string t)) := fun i X hX hi => by
    obtain ⟨g, o, hp, _, e, he, k0, k1⟩ := (h1.below hX).at hi
    obtain ⟨g', o', hp', _, e', he', k0', k1'⟩ := (h2.below hX).at hi
    rw [he] at he'
    injection he' with he'
    subst he'
    exact ⟨g, o, g', o', e.user, e.text, hp, hp', k0, k1, k0', k1'⟩
  have hlen : ps.length ≤ 9223372036854775807 := by unfold maxLen at hc2; omega
  generalize ps.length = n at HC hlen ⊢
  clear h1 h2 hc1 hc2
  have hne := run_poNe
  go_enter Try.func30, Try.ntmps30
  go_wp2
  go_loopw [5] (fun iv wr => ∃ i : Nat, iv = .int .i64 (i : Int) ∧ i ≤ n ∧ Hid (Below w.heap.size w wr)) (fun iv _ => n - (intOf iv).toNat)
  case atStart => exact ⟨0, rfl, Nat.zero_le _, Below.refl _ _⟩
  case round =>
    obtain ⟨i, rfl, hi, HB⟩ := hrel
    by_cases hlt : i < n
    · obtain ⟨g, o, g', o', u, t, hp, hp', k0, k1, k2, k3⟩ := HC.out i _ HB.out hlt
      subst hp hp'
      have hi0 : (0 : Int) ≤ (i : Int) := by omega
      have hi1 : (i : Int) < (n : Int) := by omega
      have HBd : Hid (Below w.heap.size w wr.drew) := HB.out.drew
      go_wp2
      go_region
      go_wp2
      go_roundw
      case rel => exact ⟨i + 1, by go_num, by omega, HBd⟩
      case measure => simp [intOf]; omega
    · obtain rfl : i = n := by omega
      go_wp2
      go_ret
      exact ⟨rfl, HB.out⟩

/-- Two replies that are the same. -/
theorem Same_eq {w : World} {v v' : Value} {ps : List Mo.Po} (e t : Int) (h1 : PoR w v ps) (h2 : PoR w v' ps) :
    Calls Try.prog 16 #[.agg #[.int .i64 e, .int .i64 t, v], .agg #[.int .i64 e, .int .i64 t, v']] w fun e w' => e = .returned (.bool true) ∧ Below w.heap.size w w' := by
  have HP : Hid (∀ X, Below w.heap.size w X → Calls Try.prog 30 #[v, v'] X fun e w' => e = .returned (.bool true) ∧ Below X.heap.size X w') := fun X hX => SamePosts_eq (h1.below hX) (h2.below hX)
  have HA : Hid (∀ o o', Below w.heap.size w ((w.alloc o).alloc o')) := fun o o' => (below_alloc w o).trans ((below_alloc _ o').mono (by simp))
  obtain ⟨p, c, hv, _⟩ := h1.form
  obtain ⟨p', c', hv', _⟩ := h2.form
  subst hv hv'
  generalize ps.length = n at HP ⊢
  clear h1 h2
  go_enter Try.func16, Try.ntmps16
  go_wp2_with fail
  refine (HP.out _ (HA.out _ _)).mono ?_
  rintro e w1 ⟨rfl, hb⟩
  have HB : Hid _ := hb
  clear hb
  go_wp2
  go_ret
  exact ⟨rfl, (HA.out _ _).trans (HB.out.mono (HA.out _ _).size)⟩

end Go.Proofs.Ytnfjfhjhofaodaa
