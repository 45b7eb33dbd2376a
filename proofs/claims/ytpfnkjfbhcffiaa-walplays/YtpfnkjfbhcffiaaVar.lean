/-
  What Var does, the program's and the document's: the number that bytes begin with, how many bytes, the error; nothing is changed.
-/
import Derived.Test.YtpfnkjfbhcffiaaRows
import Derived.Test.YtpfnkjfbhcffiaaOwn
import Derived.Test.YtpfnkjfbhcffiaaMath
namespace Go.Proofs.Ytpfnkjfbhcffiaa
open Go.RowKit

theorem shl_facts (k n b : Nat) (hk : k < 9) (hn : n < 128 ^ k) :
    bits BinOp.or IntKind.i64 (n : Int) (wrap64 ((b : Int) % 128 * 2 ^ (7 * k))) = ((n + b % 128 * 128 ^ k : Nat) : Int) ∧ n + b % 128 * 128 ^ k < 128 ^ (k + 1) := by
  have e1 : (2 : Int) ^ (7 * k) = ((128 ^ k : Nat) : Int) := by
    rw [Int.pow_mul]; simp
  have e2 : (b : Int) % 128 * 2 ^ (7 * k) = ((b % 128 * 128 ^ k : Nat) : Int) := by
    rw [e1]; simp
  have h1 : b % 128 * 128 ^ k ≤ 127 * 128 ^ k := Nat.mul_le_mul_right _ (by omega)
  have h2 : 128 ^ (k + 1) = 128 * 128 ^ k := by rw [Nat.pow_succ, Nat.mul_comm]
  have h3 : 128 ^ (k + 1) ≤ 128 ^ 9 := Nat.pow_le_pow_right (by omega) (by omega)
  have h4 : (128 : Nat) ^ 9 = 9223372036854775808 := by decide
  have h5 : (2 : Int) ^ 63 = 9223372036854775808 := by decide
  have h6 : n + b % 128 * 128 ^ k < 128 ^ (k + 1) := by omega
  have hw : wrap64 ((b : Int) % 128 * 2 ^ (7 * k)) = (b : Int) % 128 * 2 ^ (7 * k) := IntWalk.wrap64_in _ ⟨by rw [e2]; omega, by rw [e2]; omega⟩
  refine ⟨?_, h6⟩
  rw [hw, or64' (7 * k) _ _ (by rw [e2]; omega) (Int.mul_emod_left _ _) (by rw [e2]; omega) (by omega) (by rw [e1]; omega) (by omega), e2]
  omega

theorem or_nought {n k x : Nat} {r : Int} (h0 : x = 0) (h : bits BinOp.or IntKind.i64 (n : Int) (wrap64 ((x : Int) % 128 * 2 ^ (7 * k))) = r) : bits BinOp.or IntKind.i64 (n : Int) (wrap64 0) = r := by
  subst h0
  simpa using h

theorem vg_more {s : ByteArray} {k n : Nat} {r : Nat × Nat × Nat} (h : k < s.size) (h9 : k < 9) (e : M.varGo k n (s.data.toList.drop k) = r) (hb : 128 ≤ s[k].toNat) :
    M.varGo (k + 1) (n + s[k].toNat % 128 * 128 ^ k) (s.data.toList.drop (k + 1)) = r := by
  rw [show s.data.toList.drop k = s[k] :: s.data.toList.drop (k + 1) from by rw [List.drop_eq_getElem_cons (by simpa using h)]; rfl, M.varGo, if_neg (by omega), if_pos hb] at e
  exact e

theorem vg_bad {s : ByteArray} {k n : Nat} {r : Nat × Nat × Nat} (h : k < s.size) (h9 : k < 9) (e : M.varGo k n (s.data.toList.drop k) = r) (hb : s[k].toNat = 0) (hk : 0 < k) : (0, 0, 10) = r := by
  rw [show s.data.toList.drop k = s[k] :: s.data.toList.drop (k + 1) from by rw [List.drop_eq_getElem_cons (by simpa using h)]; rfl, M.varGo, if_neg (by omega), if_neg (by omega), if_pos ⟨hb, hk⟩] at e
  exact e

theorem vg_last {s : ByteArray} {k n : Nat} {r : Nat × Nat × Nat} (h : k < s.size) (h9 : k < 9) (e : M.varGo k n (s.data.toList.drop k) = r) (hb : s[k].toNat < 128) (hk : ¬ (s[k].toNat = 0 ∧ 0 < k)) :
    (n + s[k].toNat % 128 * 128 ^ k, k + 1, 0) = r := by
  rw [show s.data.toList.drop k = s[k] :: s.data.toList.drop (k + 1) from by rw [List.drop_eq_getElem_cons (by simpa using h)]; rfl, M.varGo, if_neg (by omega), if_neg (by omega), if_neg hk] at e
  rw [← e, Nat.mod_eq_of_lt hb]

theorem vg_end {s : ByteArray} {k n : Nat} {r : Nat × Nat × Nat} (h : ¬ (k < s.size ∧ k < 9)) (hk : k ≤ s.size) (h9 : k ≤ 9) (e : M.varGo k n (s.data.toList.drop k) = r) : (if s.size < 9 then (0, 0, 5) else (0, 0, 10)) = r := by
  by_cases hk9 : k = 9
  · subst hk9
    rw [if_neg (by omega), ← e]
    cases s.data.toList.drop 9 <;> simp [M.varGo]
  · rw [List.drop_of_length_le (by simp; omega), M.varGo, if_neg (by omega)] at e
    rw [if_pos (by omega), e]

theorem ret3 {a b c a' b' c' : Int} (h1 : a = a') (h2 : b = b') (h3 : c = c') : Ending.returned (.tuple #[.int .i64 a, .int .i64 b, .int .i64 c]) = .returned (.tuple #[.int .i64 a', .int .i64 b', .int .i64 c']) := by rw [h1, h2, h3]

set_option maxHeartbeats 400000 in
set_option maxRecDepth 20000 in
theorem bits_Var (s : ByteArray) (w : World) (hs : s.size ≤ maxLen) :
    Calls Try.prog 87 #[.string s] w fun e w' => e = .returned (.tuple #[.int .i64 ((M.rdVar s.data.toList).1 : Int), .int .i64 ((M.rdVar s.data.toList).2.1 : Int), .int .i64 ((M.rdVar s.data.toList).2.2 : Int)]) ∧ w' = w := by
  unfold maxLen at hs
  obtain ⟨r, hr⟩ : ∃ r, r = M.rdVar s.data.toList := ⟨_, rfl⟩
  rw [← hr]
  have HR : Hid (r = M.rdVar s.data.toList) := hr
  clear hr
  go_enter Try.func87, Try.ntmps87
  go_wp2
  all_goals
    go_loop [5, 11] (fun t i => ∃ (k n : Nat), k ≤ s.size ∧ k ≤ 9 ∧ i = .int .i64 (k : Int) ∧ t = .int .i64 (n : Int) ∧ Hid (n < 128 ^ k) ∧ Hid (M.varGo k n (s.data.toList.drop k) = r)) (fun _ i => 9 - (intOf i).toNat)
    case atStart => exact ⟨0, 0, by omega, by omega, rfl, rfl, Nat.one_pos, HR.out.symm⟩
    case round =>
      obtain ⟨k, n, hk, hk9, rfl, rfl, hn, he⟩ := hrel
      by_cases hks : k < s.size ∧ k < 9
      · obtain ⟨h1, h2⟩ := hks
        have hbt : s[k].toNat < 256 := s[k].toNat_lt
        obtain ⟨hX, hn'⟩ := shl_facts k n s[k].toNat h2 hn.out
        have HX : Hid (bits BinOp.or IntKind.i64 (n : Int) (wrap64 ((s[k].toNat : Int) % 128 * 2 ^ (7 * k))) = ((n + s[k].toNat % 128 * 128 ^ k : Nat) : Int)) := hX
        have HN : Hid (n + s[k].toNat % 128 * 128 ^ k < 128 ^ (k + 1)) := hn'
        clear hX hn'
        by_cases hb1 : 128 ≤ s[k].toNat
        · have HE : Hid (M.varGo (k + 1) (n + s[k].toNat % 128 * 128 ^ k) (s.data.toList.drop (k + 1)) = r) := vg_more h1 h2 he.out hb1
          go_wp2
          go_round
          case rel => exact ⟨k + 1, n + s[k].toNat % 128 * 128 ^ k, by omega, by omega, by go_num, by rw [HX.out], HN, HE⟩
          case measure => simp [intOf]; omega
        · have hb2 : (s[k].toNat : Int) < 128 := by omega
          by_cases hb3 : s[k].toNat = 0 ∧ 0 < k
          · have HE : Hid ((0, 0, 10) = r) := vg_bad h1 h2 he.out hb3.1 hb3.2
            have hb4 : ((s[k].toNat : Int) == 0) = true := by simp [hb3.1]
            have hk0 : 0 < (k : Int) := by omega
            clear hb3 hb1
            go_wp2
            go_ret3
            exact ⟨ret3 (by rw [← HE.out]; rfl) (by rw [← HE.out]; rfl) (by rw [← HE.out]; rfl), rfl⟩
          · have HE : Hid ((n + s[k].toNat % 128 * 128 ^ k, k + 1, 0) = r) := vg_last h1 h2 he.out (by omega) hb3
            go_wp2
            all_goals go_ret3
            all_goals exact ⟨ret3 (by rw [← HE.out]; first | exact HX.out | exact or_nought (by assumption) HX.out) (by rw [← HE.out]; rfl) (by rw [← HE.out]; rfl), rfl⟩
      · have HE : Hid ((if s.size < 9 then (0, 0, 5) else (0, 0, 10)) = r) := vg_end hks hk hk9 he.out
        go_wp2
        all_goals go_ret3
        all_goals exact ⟨ret3 (by rw [← HE.out]; split <;> rfl) (by rw [← HE.out]; split <;> rfl) (by rw [← HE.out]; first | (rw [if_pos (by omega)]; rfl) | (rw [if_neg (by omega)]; rfl)), rfl⟩
end Go.Proofs.Ytpfnkjfbhcffiaa
