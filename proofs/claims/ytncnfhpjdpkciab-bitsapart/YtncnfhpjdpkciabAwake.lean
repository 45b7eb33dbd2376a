/-
  What PutText does, and that what must come whatever the arguments are comes.
-/
import Derived.Test.YtncnfhpjdpkciabPutVar
import Derived.Test.YtncnfhpjdpkciabValid
namespace Go.Proofs.Ytncnfhpjdpkciab
open Go.RowKit

set_option maxHeartbeats 400000 in
theorem bits_PutText_no (s : ByteArray) (w : World) (hs : s.size ≤ 140737488351232) (hv : valid s = false) :
    Calls Try.prog 6 #[.string s] w fun e w' => e = .returned (.tuple #[.string ⟨#[]⟩, .int .i64 11]) ∧ Below w.heap.size w w' := by
  have hm : s.size ≤ maxLen := by unfold maxLen; omega
  have HV : Hid (valid s = false) := hv
  clear hv
  go_enter Try.func6, Try.ntmps6
  go_wp2_with (go_at_call 10; refine (bits_Valid s _ hm).mono ?_; rw [HV.out]; rintro e w1 ⟨rfl, hb1⟩)
  go_ret2
  exact ⟨rfl, hb1⟩

set_option maxHeartbeats 400000 in
theorem bits_PutText_yes (s : ByteArray) (w : World) (hs : s.size ≤ 140737488351232) (hv : valid s = true) :
    Calls Try.prog 6 #[.string s] w fun e w' => e = .returned (.tuple #[.string (⟨(M.putVar s.size).toArray⟩ ++ s), .int .i64 0]) ∧ Below w.heap.size w w' := by
  have hm : s.size ≤ maxLen := by unfold maxLen; omega
  have HV : Hid (valid s = true) := hv
  have hlen : (M.putVar s.size).length ≤ 9 := M.putVar_length9 (by omega)
  clear hv
  go_enter Try.func6, Try.ntmps6
  go_wp2_with (first | (go_at_call 10; refine (bits_Valid s _ hm).mono ?_; rw [HV.out]; rintro e w1 ⟨rfl, hb1⟩) | (go_at_call 5; refine (bits_PutVar_yes s.size _ (by omega)).mono ?_; rintro e w2 ⟨rfl, hb2⟩))
  go_ret2
  exact ⟨rfl, hb1.trans (hb2.mono hb1.size)⟩

theorem put300 (w : World) : Calls Try.prog 5 #[.int .i64 300] w fun e w' => e = .returned (.tuple #[.string ⟨#[172, 2]⟩, .int .i64 0]) ∧ Below w.heap.size w w' := by
  have h := bits_PutVar_yes 300 w (by omega)
  have e1 : M.putVar 300 = [172, 2] := by
    rw [M.putVar_ge (by omega), M.putVar_lt (by omega)]; rfl
  rw [e1] at h
  exact h

theorem putHi (w : World) : Calls Try.prog 6 #[.string ⟨#[104, 105]⟩] w fun e w' => e = .returned (.tuple #[.string ⟨#[2, 104, 105]⟩, .int .i64 0]) ∧ Below w.heap.size w w' := by
  have h := bits_PutText_yes ⟨#[104, 105]⟩ w (by decide) (by decide)
  have e1 : M.putVar (ByteArray.size ⟨#[104, 105]⟩) = [2] := by
    rw [M.putVar_lt (by decide)]; rfl
  rw [e1] at h
  exact h

theorem valid1 (w : World) : Calls Try.prog 10 #[.string ⟨#[195, 169, 226, 130, 172]⟩] w fun e w' => e = .returned (.bool true) ∧ Below w.heap.size w w' := by
  have h := bits_Valid ⟨#[195, 169, 226, 130, 172]⟩ w (by decide)
  rw [show valid ⟨#[195, 169, 226, 130, 172]⟩ = true from by decide] at h
  exact h

theorem valid2 (w : World) : Calls Try.prog 10 #[.string ⟨#[192, 128]⟩] w fun e w' => e = .returned (.bool false) ∧ Below w.heap.size w w' := by
  have h := bits_Valid ⟨#[192, 128]⟩ w (by decide)
  rw [show valid ⟨#[192, 128]⟩ = false from by decide] at h
  exact h

set_option maxHeartbeats 400000 in
theorem awake (w : World) : Calls Try.prog 7 #[] w fun e w' => e = .returned (.bool true) ∧ Below w.heap.size w w' := by
  go_enter Try.func7, Try.ntmps7
  go_wp2_with fail
  refine (put300 _).mono ?_
  rintro e w1 ⟨rfl, hb1⟩
  go_wp2_with fail
  refine (putHi _).mono ?_
  rintro e w2 ⟨rfl, hb2⟩
  go_wp2_with fail
  refine (valid1 _).mono ?_
  rintro e w3 ⟨rfl, hb3⟩
  go_wp2_with fail
  refine (valid2 _).mono ?_
  rintro e w4 ⟨rfl, hb4⟩
  go_wp2
  go_ret
  exact ⟨rfl, hb1.trans ((hb2.trans ((hb3.trans (hb4.mono hb3.size)).mono hb2.size)).mono hb1.size)⟩
end Go.Proofs.Ytncnfhpjdpkciab
