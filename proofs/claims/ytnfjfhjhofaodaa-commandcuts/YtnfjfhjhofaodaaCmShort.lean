/-
  Whether texts are short.
-/
import Derived.Test.YtnfjfhjhofaodaaCmSets
namespace Go.Proofs.Ytnfjfhjhofaodaa
open Go.RowKit

def lightB (s : ByteArray) : Bool := decide (s.size ≤ 4096) || decide (262144 < s.size)

set_option maxHeartbeats 1000000 in
set_option maxRecDepth 20000 in
theorem light_c (s : ByteArray) (w : World) : Calls Try.prog 20 #[.string s] w fun e w' => e = .returned (.bool (lightB s)) ∧ w' = w := by
  unfold lightB
  by_cases h1 : s.size ≤ 4096
  · have h2 : decide ((s.size : Int) ≤ 4096) = true := by simp; omega
    have h3 : (decide (s.size ≤ 4096) || decide (262144 < s.size)) = true := by simp [h1]
    rw [h3]
    clear h1 h3
    go_enter Try.func20, Try.ntmps20
    go_wp2
    go_ret
    exact ⟨rfl, rfl⟩
  · have h2 : decide ((s.size : Int) ≤ 4096) = false := by simp; omega
    by_cases h4 : 262144 < s.size
    · have h5 : decide ((262144 : Int) < (s.size : Int)) = true := by simp; omega
      have h3 : (decide (s.size ≤ 4096) || decide (262144 < s.size)) = true := by simp [h4]
      rw [h3]
      clear h1 h3 h4
      go_enter Try.func20, Try.ntmps20
      go_wp2
      go_ret
      exact ⟨rfl, rfl⟩
    · have h5 : decide ((262144 : Int) < (s.size : Int)) = false := decide_eq_false (by omega)
      have h3 : (decide (s.size ≤ 4096) || decide (262144 < s.size)) = false := by simp [h1, h4]
      rw [h3]
      clear h1 h3 h4
      go_enter Try.func20, Try.ntmps20
      go_wp2
      go_ret
      exact ⟨rfl, rfl⟩

def shortB (x : OpD) : Bool := lightB x.space && (lightB x.channel && (lightB x.user && (lightB x.text && (lightB x.toSpace && lightB x.to))))

set_option maxHeartbeats 1000000 in
set_option maxRecDepth 20000 in
theorem short_c (x : OpD) (w : World) : Calls Try.prog 19 #[.agg x.cells.toArray] w fun e w' => e = .returned (.bool (shortB x)) ∧ Below w.heap.size w w' := by
  have hb : Below w.heap.size w (w.alloc (.cells x.cells.toArray 53)) := (Below.refl _ w).alloc (Nat.le_refl _) _
  have HB := hidden hb
  clear hb
  unfold OpD.cells at *
  cases h0 : lightB x.space with
  | false =>
    have hs : shortB x = false := by simp [shortB, h0]
    rw [hs]
    clear hs
    go_enter Try.func19, Try.ntmps19
    go_wp2_with (go_at_call 20; refine (light_c _ _).mono ?_; rintro e w1 ⟨rfl, h1⟩; subst h1)
    go_ret
    exact ⟨rfl, HB.out⟩
  | true =>
    cases h1 : lightB x.channel with
    | false =>
      have hs : shortB x = false := by simp [shortB, h0, h1]
      rw [hs]
      clear hs
      go_enter Try.func19, Try.ntmps19
      go_wp2_with (go_at_call 20; refine (light_c _ _).mono ?_; rintro e w1 ⟨rfl, h1⟩; subst h1)
      go_ret
      exact ⟨rfl, HB.out⟩
    | true =>
      cases h2 : lightB x.user with
      | false =>
        have hs : shortB x = false := by simp [shortB, h0, h1, h2]
        rw [hs]
        clear hs
        go_enter Try.func19, Try.ntmps19
        go_wp2_with (go_at_call 20; refine (light_c _ _).mono ?_; rintro e w1 ⟨rfl, h1⟩; subst h1)
        go_ret
        exact ⟨rfl, HB.out⟩
      | true =>
        cases h3 : lightB x.text with
        | false =>
          have hs : shortB x = false := by simp [shortB, h0, h1, h2, h3]
          rw [hs]
          clear hs
          go_enter Try.func19, Try.ntmps19
          go_wp2_with (go_at_call 20; refine (light_c _ _).mono ?_; rintro e w1 ⟨rfl, h1⟩; subst h1)
          go_ret
          exact ⟨rfl, HB.out⟩
        | true =>
          cases h4 : lightB x.toSpace with
          | false =>
            have hs : shortB x = false := by simp [shortB, h0, h1, h2, h3, h4]
            rw [hs]
            clear hs
            go_enter Try.func19, Try.ntmps19
            go_wp2_with (go_at_call 20; refine (light_c _ _).mono ?_; rintro e w1 ⟨rfl, h1⟩; subst h1)
            go_ret
            exact ⟨rfl, HB.out⟩
          | true =>
            cases h5 : lightB x.to with
            | false =>
              have hs : shortB x = false := by simp [shortB, h0, h1, h2, h3, h4, h5]
              rw [hs]
              clear hs
              go_enter Try.func19, Try.ntmps19
              go_wp2_with (go_at_call 20; refine (light_c _ _).mono ?_; rintro e w1 ⟨rfl, h1⟩; subst h1)
              go_ret
              exact ⟨rfl, HB.out⟩
            | true =>
              have hs : shortB x = true := by simp [shortB, h0, h1, h2, h3, h4, h5]
              rw [hs]
              clear hs
              go_enter Try.func19, Try.ntmps19
              go_wp2_with (go_at_call 20; refine (light_c _ _).mono ?_; rintro e w1 ⟨rfl, h1⟩; subst h1)
              go_ret
              exact ⟨rfl, HB.out⟩

end Go.Proofs.Ytnfjfhjhofaodaa
