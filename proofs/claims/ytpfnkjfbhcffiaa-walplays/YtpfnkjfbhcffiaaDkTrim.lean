/-
  What Trim answers: the file has its first bytes, and those that were sure are.
-/
import Derived.Test.YtpfnkjfbhcffiaaDkCut
namespace Go.Proofs.Ytpfnkjfbhcffiaa
open Go.RowKit

theorem Trim_no (w : World) (d : Value) (k m : Int) (h : NotMade w d) : Calls Try.prog 61 #[d, .int .i64 k, .int .i64 m] w fun e w' => e = .returned (.int .i64 1) ∧ w' = w := by
  have hm := has_no w d k h
  clear h
  go_enter Try.func61, Try.ntmps61
  go_wp2_with fail
  refine hm.mono ?_
  rintro e w' ⟨rfl, rfl⟩
  go_wp2
  go_ret
  exact ⟨rfl, rfl⟩

theorem Trim_out {w : World} {b room : Nat} {A : Nat → List UInt8} {S : Nat → Nat} {own : Nat → Prop} (h : Dk w b room A S own) (k m : Int) (hk : isFile k = false ∨ m < 0) : Calls Try.prog 61 #[.pointer (some ⟨b, 0, none⟩), .int .i64 k, .int .i64 m] w fun e w' => e = .returned (.int .i64 1) ∧ w' = w := by
  have hm := has_yes h k
  clear h
  by_cases e : isFile k = false
  · rw [e] at hm
    clear hk e
    go_enter Try.func61, Try.ntmps61
    go_wp2_with fail
    refine hm.mono ?_
    rintro e w' ⟨rfl, rfl⟩
    go_wp2
    go_ret
    exact ⟨rfl, rfl⟩
  · rw [show isFile k = true by cases hq : isFile k; exact absurd hq e; rfl] at hm
    have t1 : decide (m < 0) = true := by rcases hk with q | q; exact absurd q e; simpa using q
    clear hk e
    go_enter Try.func61, Try.ntmps61
    go_wp2_with fail
    refine hm.mono ?_
    rintro e w' ⟨rfl, rfl⟩
    go_wp2
    go_ret
    exact ⟨rfl, rfl⟩

theorem Trim_past {w : World} {b room : Nat} {A : Nat → List UInt8} {S : Nat → Nat} {own : Nat → Prop} (h : Dk w b room A S own) (i m : Nat) (hi : i < 256) (hp : (A i).length < m) : Calls Try.prog 61 #[.pointer (some ⟨b, 0, none⟩), .int .i64 (i : Int), .int .i64 (m : Int)] w fun e w' => e = .returned (.int .i64 1) ∧ w' = w := by
  have hm := has_yes h i
  rw [isFile_nat hi] at hm
  obtain ⟨V, h⟩ := h
  have h0 := h.bytes i hi
  obtain ⟨ao, cap, hv⟩ := (h.row i hi).form
  rw [hv] at h0
  obtain ⟨n, hn⟩ : ∃ n, n = (A i).length := ⟨_, rfl⟩
  rw [← hn] at h0 hp
  have t0 : decide ((m : Int) < 0) = false := by simp
  have t1 : decide (n < m) = true := by simpa using hp
  clear h hv hn hp
  go_enter Try.func61, Try.ntmps61
  go_wp2_with fail
  refine hm.mono ?_
  rintro e w' ⟨rfl, rfl⟩
  go_wp2
  go_ret
  exact ⟨rfl, rfl⟩

theorem Trim_yes {w : World} {b room : Nat} {A : Nat → List UInt8} {S : Nat → Nat} {own : Nat → Prop} (h : Dk w b room A S own) (i m : Nat) (hi : i < 256) (hp : m ≤ (A i).length) :
    Calls Try.prog 61 #[.pointer (some ⟨b, 0, none⟩), .int .i64 (i : Int), .int .i64 (m : Int)] w fun e w' => e = .returned (.int .i64 0) ∧ Dk w' b room (upd A i ((A i).take m)) (upd S i (min (S i) m)) (since own w) ∧ Kept b own w w' := by
  have hm := has_yes h i
  have hc := cut_yes h i m hi hp
  rw [isFile_nat hi] at hm
  obtain ⟨V, h⟩ := h
  have h0 := h.bytes i hi
  obtain ⟨ao, cap, hv⟩ := (h.row i hi).form
  rw [hv] at h0
  obtain ⟨n, hn⟩ : ∃ n, n = (A i).length := ⟨_, rfl⟩
  rw [← hn] at h0 hp
  have t0 : decide ((m : Int) < 0) = false := by simp
  have t1 : decide (n < m) = false := by simpa using hp
  obtain ⟨A', hA'⟩ : ∃ A', A' = upd A i ((A i).take m) := ⟨_, rfl⟩
  obtain ⟨S', hS'⟩ : ∃ S', S' = upd S i (min (S i) m) := ⟨_, rfl⟩
  rw [← hA', ← hS'] at hc ⊢
  have HC : Hid _ := hc
  clear h hv hn hp hc hA' hS'
  go_enter Try.func61, Try.ntmps61
  go_wp2_with fail
  refine hm.mono ?_
  rintro e w' ⟨rfl, rfl⟩
  go_wp2_with fail
  refine Calls.mono HC.out ?_
  rintro e w1 ⟨rfl, h1, h2⟩
  have H1 : Hid _ := h1
  have H2 : Hid _ := h2
  clear h1 h2
  go_wp2
  go_ret
  exact ⟨rfl, H1.out, H2.out⟩

end Go.Proofs.Ytpfnkjfbhcffiaa
