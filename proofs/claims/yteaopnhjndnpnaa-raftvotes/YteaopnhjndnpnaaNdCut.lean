/-
  The law's own cut of a number.
-/
import Derived.Test.YteaopnhjndnpnaaNdLog
namespace Go.Proofs.Yteaopnhjndnpnaa
open Go.RowKit

/-- A number below another one. -/
def cutN (n : Int) (most : Nat) : Nat := (Int.tmod n (most : Int)).natAbs
theorem cutN_lt (n : Int) (most : Nat) (h0 : 0 < most) : cutN n most < most := by
  have a1 := Int.tmod_lt_of_pos n (show (0 : Int) < most by omega)
  have a2 := Int.lt_tmod_of_pos n (show (0 : Int) < most by omega)
  unfold cutN
  omega

theorem cut_v (w : World) (n : Int) (most : Nat) (h0 : 0 < most) (h1 : most ≤ 100000) :
    Calls Try.prog 14 #[.int .i64 n, .int .i64 (most : Int)] w fun e w' => e = .returned (.int .i64 (cutN n most : Int)) ∧ w' = w := by
  obtain ⟨k, hk⟩ : ∃ k, k = Int.tmod n most := ⟨_, rfl⟩
  have hb : -(most : Int) < k ∧ k < most := by
    rw [hk]
    have a1 := Int.tmod_lt_of_pos n (show (0 : Int) < most by omega)
    have a2 := Int.lt_tmod_of_pos n (show (0 : Int) < most by omega)
    omega
  have hw : IntKind.i64.wrap k = k := by rw [IntKind.wrap_i64]; omega
  have hz : ¬ ((most : Int) = 0) := by omega
  have hk' : Int.tmod n most = k := hk.symm
  have HC : Hid (cutN n most = k.natAbs) := by show _ = _; unfold cutN; rw [hk']
  have hw2 : IntKind.i64.wrap (0 - k) = 0 - k := by rw [IntKind.wrap_i64]; omega
  have hw3 : IntKind.i64.wrap (-k) = -k := by rw [IntKind.wrap_i64]; omega
  clear hk
  by_cases c : k < 0
  · have HCc : Hid (k < 0) := c
    clear hb
    go_enter Try.func14, Try.ntmps14
    go_wp2
    go_ret
    have := HCc.out
    refine ⟨?_, rfl⟩
    rw [HC.out, show ((k.natAbs : Nat) : Int) = -k by omega]
    rfl
  · have HCc : Hid (¬ k < 0) := c
    clear hb
    go_enter Try.func14, Try.ntmps14
    go_wp2
    go_ret
    have := HCc.out
    refine ⟨?_, rfl⟩
    rw [HC.out, show ((k.natAbs : Nat) : Int) = k by omega]
    rfl

end Go.Proofs.Yteaopnhjndnpnaa
