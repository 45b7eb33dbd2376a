/-
  What the document's PutText and Text do: as the program's.
-/
import Derived.Test.YtncnfhpjdpkciaaRefValid
namespace Go.Proofs.Ytncnfhpjdpkciaa
open Go.RowKit

set_option maxHeartbeats 400000 in
theorem ref_PutText_no (s : ByteArray) (w : World) (hs : s.size ≤ 140737488351232) (hv : valid s = false) :
    Calls Try.prog 21 #[.string s] w fun e w' => e = .returned (.tuple #[.string ⟨#[]⟩, .int .i64 11]) ∧ Below w.heap.size w w' := by
  have HV : Hid (valid s = false) := hv
  clear hv
  go_enter Try.func21, Try.ntmps21
  go_wp2_with (go_at_call 19; refine (ref_Valid s _ hs).mono ?_; rw [HV.out]; rintro e w1 ⟨rfl, hb1⟩)
  go_ret2
  exact ⟨rfl, hb1⟩

set_option maxHeartbeats 400000 in
theorem ref_PutText_yes (s : ByteArray) (w : World) (hs : s.size ≤ 140737488351232) (hv : valid s = true) :
    Calls Try.prog 21 #[.string s] w fun e w' => e = .returned (.tuple #[.string (⟨(M.putVar s.size).toArray⟩ ++ s), .int .i64 0]) ∧ Below w.heap.size w w' := by
  have HV : Hid (valid s = true) := hv
  have hlen : (M.putVar s.size).length ≤ 9 := M.putVar_length9 (by omega)
  clear hv
  go_enter Try.func21, Try.ntmps21
  go_wp2_with (first | (go_at_call 19; refine (ref_Valid s _ hs).mono ?_; rw [HV.out]; rintro e w1 ⟨rfl, hb1⟩) | (go_at_call 10; refine (ref_PutVar_yes s.size _ (by omega)).mono ?_; rintro e w2 ⟨rfl, hb2⟩))
  go_ret2
  exact ⟨rfl, hb1.trans (hb2.mono hb1.size)⟩

set_option maxHeartbeats 400000 in
theorem ref_Text_a (s : ByteArray) (most : Int) (w : World) (h : most < 0) :
    Calls Try.prog 23 #[.string s, .int .i64 most] w fun e w' => e = .returned (.tuple #[.string ⟨#[]⟩, .int .i64 0, .int .i64 1]) ∧ Below w.heap.size w w' := by
  go_enter Try.func23, Try.ntmps23
  go_wp2
  go_ret3
  exact ⟨rfl, Below.refl _ _⟩

set_option maxHeartbeats 400000 in
theorem ref_Text_b (s : ByteArray) (most : Int) (w : World) (hs : s.size ≤ maxLen) (h : ¬ most < 0) (n k x : Nat) (hr : M.rdVar s.data.toList = (n, k, x)) (hx : x ≠ 0) :
    Calls Try.prog 23 #[.string s, .int .i64 most] w fun e w' => e = .returned (.tuple #[.string ⟨#[]⟩, .int .i64 0, .int .i64 (x : Int)]) ∧ Below w.heap.size w w' := by
  have HR : Hid (M.rdVar s.data.toList = (n, k, x)) := hr
  have hx' : ((x : Int) != 0) = true := by simp [hx]
  clear hr hx
  go_enter Try.func23, Try.ntmps23
  go_wp2_with (go_at_call 13; refine (ref_Var s _ hs).mono ?_; rw [HR.out]; rintro e w1 ⟨rfl, hw1⟩)
  go_ret3
  exact ⟨rfl, Below.refl _ _⟩

set_option maxHeartbeats 400000 in
theorem ref_Text_c (s : ByteArray) (most : Int) (w : World) (hs : s.size ≤ maxLen) (h : ¬ most < 0) (n k : Nat) (hr : M.rdVar s.data.toList = (n, k, 0)) (hn : most < (n : Int)) :
    Calls Try.prog 23 #[.string s, .int .i64 most] w fun e w' => e = .returned (.tuple #[.string ⟨#[]⟩, .int .i64 0, .int .i64 4]) ∧ Below w.heap.size w w' := by
  have HR : Hid (M.rdVar s.data.toList = (n, k, 0)) := hr
  clear hr
  go_enter Try.func23, Try.ntmps23
  go_wp2_with (go_at_call 13; refine (ref_Var s _ hs).mono ?_; rw [HR.out]; rintro e w1 ⟨rfl, hw1⟩)
  go_ret3
  exact ⟨rfl, Below.refl _ _⟩

set_option maxHeartbeats 400000 in
theorem ref_Text_d (s : ByteArray) (most : Int) (w : World) (hs : s.size ≤ 140737488351232) (h : ¬ most < 0) (n k : Nat) (hr : M.rdVar s.data.toList = (n, k, 0)) (hn : ¬ most < (n : Int)) (hk : k ≤ s.size) (hd : (s.size : Int) - (k : Int) < (n : Int)) :
    Calls Try.prog 23 #[.string s, .int .i64 most] w fun e w' => e = .returned (.tuple #[.string ⟨#[]⟩, .int .i64 0, .int .i64 5]) ∧ Below w.heap.size w w' := by
  have HR : Hid (M.rdVar s.data.toList = (n, k, 0)) := hr
  have hm : s.size ≤ maxLen := by unfold maxLen; omega
  clear hr
  go_enter Try.func23, Try.ntmps23
  go_wp2_with (go_at_call 13; refine (ref_Var s _ hm).mono ?_; rw [HR.out]; rintro e w1 ⟨rfl, hw1⟩)
  go_ret3
  exact ⟨rfl, Below.refl _ _⟩

set_option maxHeartbeats 400000 in
theorem ref_Text_e (s : ByteArray) (most : Int) (w : World) (hs : s.size ≤ 140737488351232) (h : ¬ most < 0) (n k : Nat) (hr : M.rdVar s.data.toList = (n, k, 0)) (hn : ¬ most < (n : Int)) (hk : k ≤ s.size) (hd : ¬ (s.size : Int) - (k : Int) < (n : Int))
    (hv : valid (s.extract k (k + n)) = false) :
    Calls Try.prog 23 #[.string s, .int .i64 most] w fun e w' => e = .returned (.tuple #[.string ⟨#[]⟩, .int .i64 0, .int .i64 11]) ∧ Below w.heap.size w w' := by
  have HR : Hid (M.rdVar s.data.toList = (n, k, 0)) := hr
  have HV : Hid (valid (s.extract k (k + n)) = false) := hv
  have hm : s.size ≤ maxLen := by unfold maxLen; omega
  have hm3 : (s.extract k (k + n)).size ≤ 140737488351232 := Nat.le_trans (size_extract_le _ _ _) hs
  clear hr hv
  go_enter Try.func23, Try.ntmps23
  go_wp2_with fail
  refine (ref_Var s _ hm).mono ?_
  rw [HR.out]
  rintro e w1 ⟨rfl, hw1⟩
  go_wp2_with fail
  refine (ref_Valid (s.extract k (k + n)) _ hm3).mono ?_
  rw [HV.out]
  rintro e w2 ⟨rfl, hb2⟩
  go_wp2
  go_ret3
  exact ⟨rfl, hb2⟩

set_option maxHeartbeats 400000 in
theorem ref_Text_f (s : ByteArray) (most : Int) (w : World) (hs : s.size ≤ 140737488351232) (h : ¬ most < 0) (n k : Nat) (hr : M.rdVar s.data.toList = (n, k, 0)) (hn : ¬ most < (n : Int)) (hk : k ≤ s.size) (hd : ¬ (s.size : Int) - (k : Int) < (n : Int))
    (hv : valid (s.extract k (k + n)) = true) :
    Calls Try.prog 23 #[.string s, .int .i64 most] w fun e w' => e = .returned (.tuple #[.string (s.extract k (k + n)), .int .i64 ((k + n : Nat) : Int), .int .i64 0]) ∧ Below w.heap.size w w' := by
  have HR : Hid (M.rdVar s.data.toList = (n, k, 0)) := hr
  have HV : Hid (valid (s.extract k (k + n)) = true) := hv
  have hm : s.size ≤ maxLen := by unfold maxLen; omega
  have hm3 : (s.extract k (k + n)).size ≤ 140737488351232 := Nat.le_trans (size_extract_le _ _ _) hs
  clear hr hv
  go_enter Try.func23, Try.ntmps23
  go_wp2_with fail
  refine (ref_Var s _ hm).mono ?_
  rw [HR.out]
  rintro e w1 ⟨rfl, hw1⟩
  go_wp2_with fail
  refine (ref_Valid (s.extract k (k + n)) _ hm3).mono ?_
  rw [HV.out]
  rintro e w2 ⟨rfl, hb2⟩
  go_wp2
  go_ret3
  exact ⟨rfl, hb2⟩

theorem ref_Text (s : ByteArray) (most : Int) (w : World) (hs : s.size ≤ 140737488351232) :
    Calls Try.prog 23 #[.string s, .int .i64 most] w fun e w' => e = .returned (.tuple #[.string (rdText s most).1, .int .i64 (rdText s most).2.1, .int .i64 (rdText s most).2.2]) ∧ Below w.heap.size w w' := by
  have hm : s.size ≤ maxLen := by unfold maxLen; omega
  unfold rdText
  by_cases h : most < 0
  · rw [if_pos h]; exact ref_Text_a s most w h
  · rw [if_neg h]
    cases hr : M.rdVar s.data.toList with
    | mk n kx =>
      obtain ⟨k, x⟩ := kx
      simp only
      by_cases hx : x = 0
      · subst hx
        obtain ⟨b1, b2, b3, b4⟩ := rdVar_bounds s hr
        rw [if_neg (by simp)]
        by_cases hn : most < (n : Int)
        · rw [if_pos hn]; exact ref_Text_c s most w hm h n k hr hn
        · rw [if_neg hn]
          by_cases hd : (s.size : Int) - (k : Int) < (n : Int)
          · rw [if_pos hd]; exact ref_Text_d s most w hs h n k hr hn b2 hd
          · rw [if_neg hd]
            by_cases hv : valid (s.extract k (k + n)) = false
            · rw [if_pos hv]; exact ref_Text_e s most w hs h n k hr hn b2 hd hv
            · rw [if_neg hv]; exact ref_Text_f s most w hs h n k hr hn b2 hd (by simpa using hv)
      · rw [if_pos hx]; exact ref_Text_b s most w hm h n k x hr hx

end Go.Proofs.Ytncnfhpjdpkciaa
