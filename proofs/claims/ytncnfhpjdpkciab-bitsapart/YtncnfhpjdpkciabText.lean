/-
  What the program's Text does: the text that bytes begin with, or why there is none.
-/
import Derived.Test.YtncnfhpjdpkciabAwake
import Derived.Test.YtncnfhpjdpkciabVar
import Derived.Test.YtncnfhpjdpkciabClone
namespace Go.Proofs.Ytncnfhpjdpkciab
open Go.RowKit

theorem M.varGo_bounds : ∀ (l : List UInt8) (i n : Nat), n < 128 ^ i → (M.varGo i n l).2.2 = 0 → i + 1 ≤ (M.varGo i n l).2.1 ∧ (M.varGo i n l).2.1 ≤ i + l.length ∧ (M.varGo i n l).2.1 ≤ 9 ∧ (M.varGo i n l).1 < 128 ^ 9
  | [], i, n, _, h => by
    unfold M.varGo at h
    split at h <;> simp at h
  | b :: r, i, n, hn, h => by
    unfold M.varGo at h ⊢
    by_cases h9 : 9 ≤ i
    · rw [if_pos h9] at h; simp at h
    · rw [if_neg h9] at h ⊢
      have hb : b.toNat < 256 := b.toNat_lt
      have hm := (shl_facts i n b.toNat (by omega) hn).2
      by_cases h1 : 128 ≤ b.toNat
      · rw [if_pos h1] at h ⊢
        have ih := M.varGo_bounds r (i + 1) _ hm h
        refine ⟨by omega, by simp; omega, ih.2.2.1, ih.2.2.2⟩
      · rw [if_neg h1] at h ⊢
        by_cases h2 : b.toNat = 0 ∧ 0 < i
        · rw [if_pos h2] at h; simp at h
        · rw [if_neg h2]
          rw [Nat.mod_eq_of_lt (by omega)] at hm
          have h3 : 128 ^ (i + 1) ≤ 128 ^ 9 := Nat.pow_le_pow_right (by omega) (by omega)
          refine ⟨Nat.le_refl _, by simp, by simp; omega, ?_⟩
          show n + b.toNat * 128 ^ i < 128 ^ 9
          omega

theorem rdVar_bounds (s : ByteArray) {n k : Nat} (h : M.rdVar s.data.toList = (n, k, 0)) : 1 ≤ k ∧ k ≤ s.size ∧ k ≤ 9 ∧ n < 9223372036854775808 := by
  have hb := M.varGo_bounds s.data.toList 0 0 (by simp) (by show (M.rdVar s.data.toList).2.2 = 0; rw [h])
  have e : M.varGo 0 0 s.data.toList = (n, k, 0) := h
  rw [e] at hb
  have e9 : (128 : Nat) ^ 9 = 9223372036854775808 := by decide
  rw [e9] at hb
  simpa using hb

/-- The text that bytes begin with: the text, how many bytes, the error. -/
def rdText (s : ByteArray) (most : Int) : ByteArray × Int × Int :=
  if most < 0 then (⟨#[]⟩, 0, 1)
  else if (M.rdVar s.data.toList).2.2 ≠ 0 then (⟨#[]⟩, 0, ((M.rdVar s.data.toList).2.2 : Int))
  else if most < ((M.rdVar s.data.toList).1 : Int) then (⟨#[]⟩, 0, 4)
  else if (s.size : Int) - ((M.rdVar s.data.toList).2.1 : Int) < ((M.rdVar s.data.toList).1 : Int) then (⟨#[]⟩, 0, 5)
  else if valid (s.extract (M.rdVar s.data.toList).2.1 ((M.rdVar s.data.toList).2.1 + (M.rdVar s.data.toList).1)) = false then (⟨#[]⟩, 0, 11)
  else (s.extract (M.rdVar s.data.toList).2.1 ((M.rdVar s.data.toList).2.1 + (M.rdVar s.data.toList).1), (((M.rdVar s.data.toList).2.1 + (M.rdVar s.data.toList).1 : Nat) : Int), 0)

set_option maxHeartbeats 400000 in
theorem bits_Text_a (s : ByteArray) (most : Int) (w : World) (h : most < 0) :
    Calls Try.prog 8 #[.string s, .int .i64 most] w fun e w' => e = .returned (.tuple #[.string ⟨#[]⟩, .int .i64 0, .int .i64 1]) ∧ Below w.heap.size w w' := by
  go_enter Try.func8, Try.ntmps8
  go_wp2
  go_ret3
  exact ⟨rfl, Below.refl _ _⟩

set_option maxHeartbeats 400000 in
theorem bits_Text_b (s : ByteArray) (most : Int) (w : World) (hs : s.size ≤ maxLen) (h : ¬ most < 0) (n k x : Nat) (hr : M.rdVar s.data.toList = (n, k, x)) (hx : x ≠ 0) :
    Calls Try.prog 8 #[.string s, .int .i64 most] w fun e w' => e = .returned (.tuple #[.string ⟨#[]⟩, .int .i64 0, .int .i64 (x : Int)]) ∧ Below w.heap.size w w' := by
  have HR : Hid (M.rdVar s.data.toList = (n, k, x)) := hr
  have hx' : ((x : Int) != 0) = true := by simp [hx]
  clear hr hx
  go_enter Try.func8, Try.ntmps8
  go_wp2_with (go_at_call 11; refine (bits_Var s _ hs).mono ?_; rw [HR.out]; rintro e w1 ⟨rfl, hw1⟩)
  go_ret3
  exact ⟨rfl, Below.refl _ _⟩

set_option maxHeartbeats 400000 in
theorem bits_Text_c (s : ByteArray) (most : Int) (w : World) (hs : s.size ≤ maxLen) (h : ¬ most < 0) (n k : Nat) (hr : M.rdVar s.data.toList = (n, k, 0)) (hn : most < (n : Int)) :
    Calls Try.prog 8 #[.string s, .int .i64 most] w fun e w' => e = .returned (.tuple #[.string ⟨#[]⟩, .int .i64 0, .int .i64 4]) ∧ Below w.heap.size w w' := by
  have HR : Hid (M.rdVar s.data.toList = (n, k, 0)) := hr
  clear hr
  go_enter Try.func8, Try.ntmps8
  go_wp2_with (go_at_call 11; refine (bits_Var s _ hs).mono ?_; rw [HR.out]; rintro e w1 ⟨rfl, hw1⟩)
  go_ret3
  exact ⟨rfl, Below.refl _ _⟩

set_option maxHeartbeats 400000 in
theorem bits_Text_d (s : ByteArray) (most : Int) (w : World) (hs : s.size ≤ 562949953421312) (h : ¬ most < 0) (n k : Nat) (hr : M.rdVar s.data.toList = (n, k, 0)) (hn : ¬ most < (n : Int)) (hk : k ≤ s.size) (hd : (s.size : Int) - (k : Int) < (n : Int)) :
    Calls Try.prog 8 #[.string s, .int .i64 most] w fun e w' => e = .returned (.tuple #[.string ⟨#[]⟩, .int .i64 0, .int .i64 5]) ∧ Below w.heap.size w w' := by
  have HR : Hid (M.rdVar s.data.toList = (n, k, 0)) := hr
  have hm : s.size ≤ maxLen := by unfold maxLen; omega
  clear hr
  go_enter Try.func8, Try.ntmps8
  go_wp2_with (go_at_call 11; refine (bits_Var s _ hm).mono ?_; rw [HR.out]; rintro e w1 ⟨rfl, hw1⟩)
  go_ret3
  exact ⟨rfl, Below.refl _ _⟩

theorem size_extract_le (s : ByteArray) (a b : Nat) : (s.extract a b).size ≤ s.size := by
  rw [ByteArray.size_extract]; omega

set_option maxHeartbeats 400000 in
theorem bits_Text_e (s : ByteArray) (most : Int) (w : World) (hs : s.size ≤ 562949953421312) (h : ¬ most < 0) (n k : Nat) (hr : M.rdVar s.data.toList = (n, k, 0)) (hn : ¬ most < (n : Int)) (hk : k ≤ s.size) (hd : ¬ (s.size : Int) - (k : Int) < (n : Int))
    (hv : valid (s.extract k (k + n)) = false) :
    Calls Try.prog 8 #[.string s, .int .i64 most] w fun e w' => e = .returned (.tuple #[.string ⟨#[]⟩, .int .i64 0, .int .i64 11]) ∧ Below w.heap.size w w' := by
  have HR : Hid (M.rdVar s.data.toList = (n, k, 0)) := hr
  have HV : Hid (valid (s.extract k (k + n)) = false) := hv
  have hm : s.size ≤ maxLen := by unfold maxLen; omega
  have hm2 : (s.extract k (k + n)).size ≤ maxLen := Nat.le_trans (size_extract_le _ _ _) hm
  clear hr hv
  go_enter Try.func8, Try.ntmps8
  go_wp2_with fail
  refine (bits_Var s _ hm).mono ?_
  rw [HR.out]
  rintro e w1 ⟨rfl, hw1⟩
  go_wp2_with fail
  refine (bits_Valid (s.extract k (k + n)) _ hm2).mono ?_
  rw [HV.out]
  rintro e w2 ⟨rfl, hb2⟩
  go_wp2
  go_ret3
  exact ⟨rfl, hb2⟩

set_option maxHeartbeats 400000 in
theorem bits_Text_f (s : ByteArray) (most : Int) (w : World) (hs : s.size ≤ 562949953421312) (hc : most ≤ 140737488351232 ∨ s.size ≤ 140737488351232) (h : ¬ most < 0) (n k : Nat) (hr : M.rdVar s.data.toList = (n, k, 0)) (hn : ¬ most < (n : Int)) (hk : k ≤ s.size) (hd : ¬ (s.size : Int) - (k : Int) < (n : Int))
    (hv : valid (s.extract k (k + n)) = true) :
    Calls Try.prog 8 #[.string s, .int .i64 most] w fun e w' => e = .returned (.tuple #[.string (s.extract k (k + n)), .int .i64 ((k + n : Nat) : Int), .int .i64 0]) ∧ Below w.heap.size w w' := by
  have HR : Hid (M.rdVar s.data.toList = (n, k, 0)) := hr
  have HV : Hid (valid (s.extract k (k + n)) = true) := hv
  have hm : s.size ≤ maxLen := by unfold maxLen; omega
  have hm2 : (s.extract k (k + n)).size ≤ maxLen := Nat.le_trans (size_extract_le _ _ _) hm
  have hm3 : (s.extract k (k + n)).size ≤ 140737488351232 := by
    rw [ByteArray.size_extract]
    omega
  clear hc
  clear hr hv
  go_enter Try.func8, Try.ntmps8
  go_wp2_with fail
  refine (bits_Var s _ hm).mono ?_
  rw [HR.out]
  rintro e w1 ⟨rfl, hw1⟩
  go_wp2_with fail
  refine (bits_Valid (s.extract k (k + n)) _ hm2).mono ?_
  rw [HV.out]
  rintro e w2 ⟨rfl, hb2⟩
  go_wp2_with fail
  refine (Clone_any (s.extract k (k + n)) _ hm3).mono ?_
  rintro e w3 ⟨rfl, hb3⟩
  go_wp2
  go_ret3
  exact ⟨rfl, hb2.trans (hb3.mono hb2.size)⟩

theorem bits_Text (s : ByteArray) (most : Int) (w : World) (hs : s.size ≤ 562949953421312) (hc : most ≤ 140737488351232 ∨ s.size ≤ 140737488351232) :
    Calls Try.prog 8 #[.string s, .int .i64 most] w fun e w' => e = .returned (.tuple #[.string (rdText s most).1, .int .i64 (rdText s most).2.1, .int .i64 (rdText s most).2.2]) ∧ Below w.heap.size w w' := by
  have hm : s.size ≤ maxLen := by unfold maxLen; omega
  unfold rdText
  by_cases h : most < 0
  · rw [if_pos h]; exact bits_Text_a s most w h
  · rw [if_neg h]
    cases hr : M.rdVar s.data.toList with
    | mk n kx =>
      obtain ⟨k, x⟩ := kx
      simp only
      by_cases hx : x = 0
      · subst hx
        obtain ⟨b1, b2, b3, b4⟩ := rdVar_bounds s hr
        rw [if_neg (by simp)]
        by_cases hn : most < (n : Int)
        · rw [if_pos hn]; exact bits_Text_c s most w hm h n k hr hn
        · rw [if_neg hn]
          by_cases hd : (s.size : Int) - (k : Int) < (n : Int)
          · rw [if_pos hd]; exact bits_Text_d s most w hs h n k hr hn b2 hd
          · rw [if_neg hd]
            by_cases hv : valid (s.extract k (k + n)) = false
            · rw [if_pos hv]; exact bits_Text_e s most w hs h n k hr hn b2 hd hv
            · rw [if_neg hv]; exact bits_Text_f s most w hs hc h n k hr hn b2 hd (by simpa using hv)
      · rw [if_pos hx]; exact bits_Text_b s most w hm h n k x hr hx

end Go.Proofs.Ytncnfhpjdpkciab
