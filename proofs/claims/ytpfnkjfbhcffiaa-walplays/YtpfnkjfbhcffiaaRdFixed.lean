/-
  What Fixed does, the program's and the document's: the number of the first so many bytes, or why there is none.
-/
import Derived.Test.YtpfnkjfbhcffiaaFixed
namespace Go.Proofs.Ytpfnkjfbhcffiaa
open Go.RowKit

theorem orw (A B : Nat) (hA : A < 18446744073709551616) (hB : B < 18446744073709551616) : bits BinOp.or IntKind.i64 (wrap64 (A : Int)) (wrap64 (B : Int)) = wrap64 ((A ||| B : Nat) : Int) := by
  have h : ∀ C : Nat, C < 18446744073709551616 → (BitVec.ofInt IntKind.i64.bits (wrap64 (C : Int))).toNat = C := by
    intro C hC
    rw [show IntKind.i64.bits = 64 from rfl, BitVec.toNat_ofInt]
    have e : ((2 : Nat) ^ 64 : Nat) = 18446744073709551616 := by decide
    rw [e]
    unfold wrap64
    omega
  unfold bits
  simp only [BitVec.toNat_or, h A hA, h B hB]
  exact IntWalk.i64_left _

theorem fx_or (k A b : Nat) (hk : k < 8) (hA : A < 256 ^ k) (hb : b < 256) (x : Int) (hx : x = wrap64 (A : Int)) :
    bits BinOp.or IntKind.i64 x (wrap64 ((b : Int) * 2 ^ (8 * k))) = wrap64 ((A + b * 256 ^ k : Nat) : Int) := by
  have e1 : (2 : Int) ^ (8 * k) = ((256 ^ k : Nat) : Int) := by
    rw [Int.pow_mul]; simp
  have e2 : (b : Int) * 2 ^ (8 * k) = ((b * 256 ^ k : Nat) : Int) := by
    rw [e1]; simp
  have h1 : b * 256 ^ k ≤ 255 * 256 ^ k := Nat.mul_le_mul_right _ (by omega)
  have h2 : 256 ^ (k + 1) = 256 * 256 ^ k := by rw [Nat.pow_succ, Nat.mul_comm]
  have h3 : 256 ^ (k + 1) ≤ 256 ^ 8 := Nat.pow_le_pow_right (by omega) (by omega)
  have h4 : (256 : Nat) ^ 8 = 18446744073709551616 := by decide
  rw [hx, e2, orw A (b * 256 ^ k) (by omega) (by omega)]
  have h5 : b * 256 ^ k = 2 ^ (8 * k) * b := by rw [Nat.pow_mul, Nat.mul_comm]
  have h6 : A < 2 ^ (8 * k) := by rw [Nat.pow_mul]; exact hA
  rw [Nat.or_comm, h5, ← Nat.two_pow_add_eq_or_of_lt h6, Nat.add_comm]

theorem rd_take_snoc (s : ByteArray) (k : Nat) (h : k < s.size) : s.data.toList.take (k + 1) = s.data.toList.take k ++ [s[k]] := by
  rw [List.take_succ_eq_append_getElem (by simpa using h)]; rfl

theorem le_take (s : ByteArray) (k : Nat) (h : k < s.size) : M.le (s.data.toList.take (k + 1)) = M.le (s.data.toList.take k) + s[k].toNat * 256 ^ k := by
  rw [rd_take_snoc s k h, M.le_snoc, List.length_take, show min k s.data.toList.length = k from by simp; omega]

theorem le_take_lt (s : ByteArray) (k : Nat) (h : k ≤ s.size) : M.le (s.data.toList.take k) < 256 ^ k := by
  have := M.le_lt (s.data.toList.take k)
  rw [List.length_take, show min k s.data.toList.length = k from by simp; omega] at this
  exact this

theorem ret2 {a b a' b' : Int} (h1 : a = a') (h2 : b = b') : Ending.returned (.tuple #[.int .i64 a, .int .i64 b]) = .returned (.tuple #[.int .i64 a', .int .i64 b']) := by rw [h1, h2]

set_option maxHeartbeats 400000 in
theorem bits_Fixed_a (s : ByteArray) (m : Int) (w : World) (h : m < 1 ∨ 8 < m) :
    Calls Try.prog 91 #[.string s, .int .i64 m] w fun e w' => e = .returned (.tuple #[.int .i64 0, .int .i64 1]) ∧ w' = w := by
  rcases h with h | h
  · go_enter Try.func91, Try.ntmps91
    go_wp2
    go_ret2
    exact ⟨rfl, rfl⟩
  · go_enter Try.func91, Try.ntmps91
    go_wp2
    go_ret2
    exact ⟨rfl, rfl⟩

set_option maxHeartbeats 400000 in
theorem bits_Fixed_b (s : ByteArray) (m : Nat) (w : World) (h1 : 1 ≤ m) (h8 : m ≤ 8) (h : s.size < m) :
    Calls Try.prog 91 #[.string s, .int .i64 (m : Int)] w fun e w' => e = .returned (.tuple #[.int .i64 0, .int .i64 5]) ∧ w' = w := by
  go_enter Try.func91, Try.ntmps91
  go_wp2
  go_ret2
  exact ⟨rfl, rfl⟩

set_option maxHeartbeats 400000 in
set_option maxRecDepth 20000 in
theorem bits_Fixed_c (s : ByteArray) (m : Nat) (w : World) (h1 : 1 ≤ m) (h8 : m ≤ 8) (h : m ≤ s.size) :
    Calls Try.prog 91 #[.string s, .int .i64 (m : Int)] w fun e w' => e = .returned (.tuple #[.int .i64 ((if M.le (s.data.toList.take m) < 9223372036854775808 then M.le (s.data.toList.take m) else 0 : Nat) : Int), .int .i64 ((if M.le (s.data.toList.take m) < 9223372036854775808 then 0 else 10 : Nat) : Int)]) ∧ w' = w := by
  obtain ⟨R, hR⟩ : ∃ R, R = M.le (s.data.toList.take m) := ⟨_, rfl⟩
  rw [← hR]
  obtain ⟨ra, hra⟩ : ∃ ra : Nat, ra = (if R < 9223372036854775808 then R else 0) := ⟨_, rfl⟩
  obtain ⟨rb, hrb⟩ : ∃ rb : Nat, rb = (if R < 9223372036854775808 then 0 else 10) := ⟨_, rfl⟩
  rw [← hra, ← hrb]
  have hlt : R < 18446744073709551616 := by
    have e1 := le_take_lt s m h
    have e2 : 256 ^ m ≤ 256 ^ 8 := Nat.pow_le_pow_right (by omega) h8
    have e3 : (256 : Nat) ^ 8 = 18446744073709551616 := by decide
    omega
  have HR : Hid (R = M.le (s.data.toList.take m) ∧ ra = (if R < 9223372036854775808 then R else 0) ∧ rb = (if R < 9223372036854775808 then 0 else 10) ∧ R < 18446744073709551616) := ⟨hR, hra, hrb, hlt⟩
  clear hR hra hrb hlt
  go_enter Try.func91, Try.ntmps91
  go_wp2
  go_loop [6, 19] (fun t i => ∃ (k : Nat) (x : Int), k ≤ m ∧ i = .int .i64 (k : Int) ∧ t = .int .i64 x ∧ Hid (x = wrap64 ((M.le (s.data.toList.take k) : Nat) : Int))) (fun _ i => m - (intOf i).toNat)
  case atStart => exact ⟨0, 0, Nat.zero_le _, rfl, rfl, by unfold Hid; simp [M.le, wrap64]⟩
  case round =>
    obtain ⟨k, x, hk, rfl, rfl, hx⟩ := hrel
    by_cases hkm : k < m
    · have hks : k < s.size := by omega
      have hbt : s[k].toNat < 256 := s[k].toNat_lt
      have HX : Hid (bits BinOp.or IntKind.i64 x (wrap64 ((s[k].toNat : Int) * 2 ^ (8 * k))) = wrap64 ((M.le (s.data.toList.take (k + 1)) : Nat) : Int)) := by
        unfold Hid
        rw [fx_or k _ _ (by omega) (le_take_lt s k (by omega)) hbt x hx.out, le_take s k hks]
      go_wp2
      go_round
      case rel => exact ⟨k + 1, _, by omega, by go_num, rfl, HX⟩
      case measure => simp [intOf]; omega
    · obtain rfl : k = m := by omega
      obtain ⟨hR, hra, hrb, hlt⟩ := HR.out
      have hx' := hx.out
      rw [← hR] at hx'
      by_cases hbig : R < 9223372036854775808
      · have hxR : x = (R : Int) := by rw [hx']; unfold wrap64; omega
        have hx0 : ¬ x < 0 := by omega
        have HF : Hid (x = ra ∧ (0 : Int) = rb) := by rw [hra, hrb, if_pos hbig, if_pos hbig]; exact ⟨hxR, rfl⟩
        clear hR hra hrb hlt hx' hxR
        go_wp2
        go_ret2
        exact ⟨ret2 HF.out.1 HF.out.2, rfl⟩
      · have hx0 : x < 0 := by rw [hx']; unfold wrap64; omega
        have HF : Hid ((0 : Int) = ra ∧ (10 : Int) = rb) := by rw [hra, hrb, if_neg hbig, if_neg hbig]; exact ⟨rfl, rfl⟩
        clear hR hra hrb hlt hx'
        go_wp2
        go_ret2
        exact ⟨ret2 HF.out.1 HF.out.2, rfl⟩

theorem bits_Fixed (s : ByteArray) (m : Int) (w : World) :
    Calls Try.prog 91 #[.string s, .int .i64 m] w fun e w' => e = .returned (.tuple #[.int .i64 ((M.rdFix s.data.toList m).1 : Int), .int .i64 ((M.rdFix s.data.toList m).2 : Int)]) ∧ w' = w := by
  by_cases h : m < 1 ∨ 8 < m
  · have e : M.rdFix s.data.toList m = (0, 1) := by unfold M.rdFix; rw [if_pos h]
    rw [e]
    exact bits_Fixed_a s m w h
  · obtain ⟨n, rfl⟩ := Int.eq_ofNat_of_zero_le (show 0 ≤ m by omega)
    have hl : s.data.toList.length = s.size := by simp
    by_cases h5 : s.size < n
    · have e : M.rdFix s.data.toList (n : Int) = (0, 5) := by unfold M.rdFix; rw [if_neg h, if_pos (by omega)]
      rw [e]
      exact bits_Fixed_b s n w (by omega) (by omega) h5
    · have e : M.rdFix s.data.toList (n : Int) = (if M.le (s.data.toList.take n) < 9223372036854775808 then M.le (s.data.toList.take n) else 0, if M.le (s.data.toList.take n) < 9223372036854775808 then 0 else 10) := by
        unfold M.rdFix; rw [if_neg h, if_neg (by omega), Int.toNat_natCast]; split <;> rfl
      rw [e]
      exact bits_Fixed_c s n w (by omega) (by omega) (by omega)

/-- The number of the bytes from the j-th on, of the first m. -/
def leFrom (s : ByteArray) (m j : Nat) : Nat := M.le ((s.data.toList.take m).drop j)

theorem leFrom_step (s : ByteArray) (m j : Nat) (hm : m ≤ s.size) (hj : j < m) (hs : j < s.size) : leFrom s m j = leFrom s m (j + 1) * 256 + s[j].toNat := by
  unfold leFrom
  have hl : j < (s.data.toList.take m).length := by simp; omega
  rw [List.drop_eq_getElem_cons hl, M.le]
  have e : (s.data.toList.take m)[j] = s[j] := by simp; rfl
  rw [e]
  omega

theorem leFrom_end (s : ByteArray) (m : Nat) (hm : m ≤ s.size) : leFrom s m m = 0 := by
  unfold leFrom
  rw [List.drop_of_length_le (by simp; omega), M.le]

theorem leFrom_low : ∀ (j : Nat) (s : ByteArray) (m : Nat), leFrom s m j * 256 ^ j ≤ leFrom s m 0
  | 0, s, m => by simp
  | j + 1, s, m => by
    have ih := leFrom_low j s m
    by_cases hl : j < (s.data.toList.take m).length
    · have e : leFrom s m j = ((s.data.toList.take m)[j]).toNat + 256 * leFrom s m (j + 1) := by
        unfold leFrom
        rw [List.drop_eq_getElem_cons hl, M.le]
      have h1 : leFrom s m (j + 1) * 256 ≤ leFrom s m j := by omega
      have h2 := Nat.mul_le_mul_right (256 ^ j) h1
      rw [Nat.pow_succ, Nat.mul_comm (256 ^ j) 256, ← Nat.mul_assoc]
      omega
    · have e : leFrom s m (j + 1) = 0 := by
        unfold leFrom
        rw [List.drop_of_length_le (by omega), M.le]
      rw [e]
      omega

theorem leFrom_big (s : ByteArray) (m j : Nat) (h : 36028797018963968 ≤ leFrom s m (j + 1)) : ¬ leFrom s m 0 < 9223372036854775808 := by
  have h1 := leFrom_low (j + 1) s m
  have h2 : 1 ≤ 256 ^ j := Nat.pow_pos (by omega)
  have h3 := Nat.mul_le_mul_left (leFrom s m (j + 1) * 256) h2
  rw [Nat.pow_succ, Nat.mul_comm (256 ^ j) 256, ← Nat.mul_assoc] at h1
  omega

theorem fx_join (n b : Nat) (hn : n < 36028797018963968) (hb : b < 256) : bits BinOp.or IntKind.i64 ((n : Int) * 256) (b : Int) = ((n * 256 + b : Nat) : Int) := by
  have h2 : (2 : Int) ^ 63 = 9223372036854775808 := by decide
  have h8 : (2 : Int) ^ 8 = 256 := by decide
  rw [or64 8 _ _ (by omega) (by rw [h8]; omega) (by omega) (by omega) (by omega) (by omega)]
  omega


end Go.Proofs.Ytpfnkjfbhcffiaa
