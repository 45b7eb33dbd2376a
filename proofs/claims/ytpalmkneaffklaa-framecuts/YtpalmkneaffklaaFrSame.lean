/-
  Whether two lists of texts are the same, where they are.
-/
import Derived.Test.YtpalmkneaffklaaFrScan
namespace Go.Proofs.Ytpalmkneaffklaa
open Go.RowKit

theorem Strs.at {w : World} {ao : Option Addr} {n c : Nat} {xs : List ByteArray} (h : xs = [] ∨ ∃ g o, ao = some ⟨g, o, none⟩ ∧ g < w.heap.size ∧ ∀ j (h : j < xs.length), w.cell? ⟨g, o + j, none⟩ = some (.string xs[j])) (hn : n < xs.length) (_hc : n ≤ c) :
    ∃ g o, ao = some ⟨g, o, none⟩ ∧ g < w.heap.size ∧ ∀ j (h : j < xs.length), w.cell? ⟨g, o + j, none⟩ = some (.string xs[j]) := by
  rcases h with h | h
  · rw [h] at hn; simp at hn
  · exact h

set_option maxHeartbeats 800000 in
theorem ref_Same_yes (w : World) (v1 v2 : Value) (xs : List ByteArray) (h1 : Strs w v1 xs) (h2 : Strs w v2 xs) :
    Calls Try.prog 16 #[v1, v2] w fun e w' => e = .returned (.bool true) ∧ Below w.heap.size w w' := by
  obtain ⟨a1, c1, rfl, q1, m1, s1, r1⟩ := h1
  obtain ⟨a2, c2, rfl, q2, m2, s2, r2⟩ := h2
  have hmx : xs.length ≤ 9223372036854775807 := by unfold maxLen at m1; omega
  have R1 : Hid _ := r1
  have R2 : Hid _ := r2
  clear m1 m2 s1 s2 r1 r2
  go_enter Try.func16, Try.ntmps16
  go_wp2
  go_loopw [5] (fun i wr => ∃ k : Nat, k ≤ xs.length ∧ i = .int .i64 (k : Int) ∧ Hid (Below w.heap.size w wr)) (fun i _ => xs.length - (intOf i).toNat)
  case atStart => exact ⟨0, Nat.zero_le _, rfl, Below.refl _ _⟩
  case round =>
    obtain ⟨k, hk, rfl, hb⟩ := hrel
    by_cases hlt : k < xs.length
    · obtain ⟨g1, o1, e1, l1, f1⟩ := Strs.at (c := c1) R1.out hlt (by omega)
      obtain ⟨g2, o2, e2, l2, f2⟩ := Strs.at (c := c2) R2.out hlt (by omega)
      subst e1 e2
      have d1 : wr.cell? ⟨g1, o1 + k, none⟩ = some (.string xs[k]) := by rw [hb.out.cell (p := ⟨g1, o1 + k, none⟩) l1]; exact f1 k hlt
      have d2 : wr.cell? ⟨g2, o2 + k, none⟩ = some (.string xs[k]) := by rw [hb.out.cell (p := ⟨g2, o2 + k, none⟩) l2]; exact f2 k hlt
      obtain ⟨t, ht⟩ : ∃ t, t = xs[k] := ⟨_, rfl⟩
      rw [← ht] at d1 d2
      have HB : Hid (Below w.heap.size w wr.drew) := hb.out.drew
      clear ht f1 f2 hb
      go_wp2
      go_region
      all_goals go_wp2
      all_goals go_roundw
      case rel => exact ⟨k + 1, by omega, by go_num, HB⟩
      case measure => simp [intOf]; omega
    · obtain rfl : k = xs.length := by omega
      go_wp2
      go_ret
      exact ⟨rfl, hb.out⟩

end Go.Proofs.Ytpalmkneaffklaa
