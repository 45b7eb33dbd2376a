/-
  What Take does, the program's and the document's: the record that any bytes begin with, or the error.
-/
import Derived.Test.YtpfnkjfbhcffiaaFrPut
import Derived.Test.YtpfnkjfbhcffiaaRdFixed
import Derived.Test.YtpfnkjfbhcffiaaClone
namespace Go.Proofs.Ytpfnkjfbhcffiaa
open Go.RowKit

/-- The number that four bytes are. -/
theorem rdFix4 (l : List UInt8) (h : 4 ≤ l.length) : M.rdFix l 4 = (M.le (l.take 4), 0) := by
  have hl := M.le_lt (l.take 4)
  rw [List.length_take, Nat.min_eq_left h] at hl
  have e : (256 : Nat) ^ 4 = 4294967296 := by decide
  unfold M.rdFix
  rw [if_neg (by decide), if_neg (by omega)]
  show (if M.le (l.take 4) < 9223372036854775808 then (M.le (l.take 4), 0) else (0, 10)) = _
  rw [if_pos (by omega)]

theorem len4 (s : ByteArray) (k : Nat) (h : k + 4 ≤ s.size) : M.rdFix (s.extract k s.size).data.toList 4 = (M.le ((s.data.toList.drop k).take 4), 0) := by
  rw [F.toL_extract, rdFix4 _ (by rw [List.length_take, List.length_drop, F.toL_length]; omega), List.take_take, Nat.min_eq_left (by omega)]

theorem bits_len (s : ByteArray) (w : World) (h : 9 ≤ s.size) :
    Calls Try.prog 91 #[.string (s.extract 1 s.size), .int .i64 4] w fun e w' => e = .returned (.tuple #[.int .i64 (F.lenOf s : Int), .int .i64 0]) ∧ w' = w := by
  have := bits_Fixed (s.extract 1 s.size) 4 w
  rw [len4 s 1 (by omega)] at this
  exact this
theorem bits_sum (s : ByteArray) (w : World) (h : 9 ≤ s.size) :
    Calls Try.prog 91 #[.string (s.extract 5 s.size), .int .i64 4] w fun e w' => e = .returned (.tuple #[.int .i64 (F.sumOf s : Int), .int .i64 0]) ∧ w' = w := by
  have := bits_Fixed (s.extract 5 s.size) 4 w
  rw [len4 s 5 (by omega)] at this
  exact this

theorem head_of {s : ByteArray} (h : 0 < s.size) : s.data.toList.head? = some s[0] := by
  rw [List.head?_eq_getElem?, List.getElem?_eq_getElem (by rw [F.toL_length]; exact h)]
  rfl

/-- What Take answers. -/
abbrev tookEnd (x : ByteArray × Nat × Nat) : Ending := .returned (.tuple #[.string x.1, .int .i64 (x.2.1 : Int), .int .i64 (x.2.2 : Int)])

set_option maxHeartbeats 400000 in
theorem frame_Take_a (s : ByteArray) (w : World) (h : s.size = 0) :
    Calls Try.prog 86 #[.string s] w fun e w' => e = .returned (.tuple #[.string ⟨#[]⟩, .int .i64 0, .int .i64 5]) ∧ w' = w := by
  have hd : ((s.size : Int) == 0) = true := by rw [h]; rfl
  clear h
  go_enter Try.func86, Try.ntmps86
  go_wp2
  go_ret3
  exact ⟨rfl, rfl⟩

set_option maxHeartbeats 400000 in
theorem frame_Take_b (s : ByteArray) (w : World) (h : 0 < s.size) (h2 : s[0].toNat ≠ 82) :
    Calls Try.prog 86 #[.string s] w fun e w' => e = .returned (.tuple #[.string ⟨#[]⟩, .int .i64 0, .int .i64 40]) ∧ w' = w := by
  have hd : ((s.size : Int) == 0) = false := by simpa using Nat.ne_of_gt h
  have hd2 : ((s[0].toNat : Int) != 82) = true := by simp; omega
  go_enter Try.func86, Try.ntmps86
  go_wp2
  go_ret3
  exact ⟨rfl, rfl⟩

set_option maxHeartbeats 400000 in
theorem frame_Take_c (s : ByteArray) (w : World) (h : 0 < s.size) (h2 : s[0].toNat = 82) (h3 : s.size < 9) :
    Calls Try.prog 86 #[.string s] w fun e w' => e = .returned (.tuple #[.string ⟨#[]⟩, .int .i64 0, .int .i64 5]) ∧ w' = w := by
  have hd : ((s.size : Int) == 0) = false := by simpa using Nat.ne_of_gt h
  have hd2 : ((s[0].toNat : Int) != 82) = false := by simp; omega
  go_enter Try.func86, Try.ntmps86
  go_wp2
  go_ret3
  exact ⟨rfl, rfl⟩

set_option maxHeartbeats 400000 in
theorem frame_Take_d (s : ByteArray) (w : World) (h : 9 ≤ s.size) (h2 : s[0].toNat = 82) (h4 : 262144 < F.lenOf s) :
    Calls Try.prog 86 #[.string s] w fun e w' => e = .returned (.tuple #[.string ⟨#[]⟩, .int .i64 0, .int .i64 40]) ∧ w' = w := by
  have hd : ((s.size : Int) == 0) = false := beq_eq_false_iff_ne.2 (by omega)
  have hd2 : ((s[0].toNat : Int) != 82) = false := by simp; omega
  have hd3 : decide ((262144 : Int) < (F.lenOf s : Int)) = true := decide_eq_true (by omega)
  have H1 : Hid _ := bits_len s w h
  have H2 : Hid _ := bits_sum s w h
  clear h4 h2
  go_enter Try.func86, Try.ntmps86
  go_wp2_with fail
  refine Calls.mono H1.out ?_
  rintro e w1 ⟨rfl, hw1⟩
  subst hw1
  go_wp2_with fail
  refine Calls.mono H2.out ?_
  rintro e w2 ⟨rfl, hw2⟩
  subst hw2
  go_wp2
  go_ret3
  exact ⟨rfl, rfl⟩

set_option maxHeartbeats 400000 in
theorem frame_Take_e (s : ByteArray) (w : World) (h : 9 ≤ s.size) (h2 : s[0].toNat = 82) (h4 : F.lenOf s ≤ 262144) (h5 : s.size < 9 + F.lenOf s) :
    Calls Try.prog 86 #[.string s] w fun e w' => e = .returned (.tuple #[.string ⟨#[]⟩, .int .i64 0, .int .i64 5]) ∧ w' = w := by
  have hd : ((s.size : Int) == 0) = false := beq_eq_false_iff_ne.2 (by omega)
  have hd2 : ((s[0].toNat : Int) != 82) = false := by simp; omega
  have hd3 : decide ((262144 : Int) < (F.lenOf s : Int)) = false := decide_eq_false (by omega)
  have hd4 : decide ((s.size : Int) - 9 < (F.lenOf s : Int)) = true := decide_eq_true (by omega)
  have H1 : Hid _ := bits_len s w h
  have H2 : Hid _ := bits_sum s w h
  have HB : s.size ≤ 9 + 262144 := by omega
  clear h4 h2
  go_enter Try.func86, Try.ntmps86
  go_wp2_with fail
  refine Calls.mono H1.out ?_
  rintro e w1 ⟨rfl, hw1⟩
  subst hw1
  go_wp2_with fail
  refine Calls.mono H2.out ?_
  rintro e w2 ⟨rfl, hw2⟩
  subst hw2
  go_wp2
  go_ret3
  exact ⟨rfl, rfl⟩

set_option maxHeartbeats 800000 in
theorem frame_Take_f (s : ByteArray) (w : World) (h : 9 ≤ s.size) (h2 : s[0].toNat = 82) (h4 : F.lenOf s ≤ 262144) (h5 : 9 + F.lenOf s ≤ s.size) (hs : s.size ≤ 1000000000) (h6 : F.crcB (s.extract 1 5 ++ F.body s) ≠ F.sumOf s) :
    Calls Try.prog 86 #[.string s] w fun e w' => e = .returned (.tuple #[.string ⟨#[]⟩, .int .i64 0, .int .i64 40]) ∧ Below w.heap.size w w' := by
  have hd : ((s.size : Int) == 0) = false := beq_eq_false_iff_ne.2 (by omega)
  have hd2 : ((s[0].toNat : Int) != 82) = false := by simp; omega
  have hd3 : decide ((262144 : Int) < (F.lenOf s : Int)) = false := decide_eq_false (by omega)
  have hd4 : decide ((s.size : Int) - 9 < (F.lenOf s : Int)) = false := decide_eq_false (by omega)
  have H1 : Hid _ := bits_len s w h
  have H2 : Hid _ := bits_sum s w h
  have H3 : Hid _ := crc_call (s.extract 1 5 ++ F.body s) w (by rw [ByteArray.size_append, ← F.toL_length, ← F.toL_length, F.body, F.toL_extract, F.toL_extract, List.length_take, List.length_take]; omega)
  obtain ⟨c, hc⟩ : ∃ c, c = F.crcB (s.extract 1 5 ++ F.body s) := ⟨_, rfl⟩
  rw [← hc] at H3 h6
  have hd5 : ((c : Int) != (F.sumOf s : Int)) = true := by simp; omega
  unfold F.body at H3
  obtain ⟨n, hn⟩ : ∃ n, n = F.lenOf s := ⟨_, rfl⟩
  rw [← hn] at hd3 hd4 H1 H3 h4 h5
  have hh : s.size < 9223372036854775808 := by omega
  clear h2 hc h6 hn
  go_enter Try.func86, Try.ntmps86
  go_wp2_with fail
  refine Calls.mono H1.out ?_
  rintro e w1 ⟨rfl, hw1⟩
  subst hw1
  go_wp2_with fail
  refine Calls.mono H2.out ?_
  rintro e w2 ⟨rfl, hw2⟩
  subst hw2
  go_wp2_with fail
  refine Calls.mono H3.out ?_
  rintro e w3 ⟨rfl, hb3⟩
  go_wp2
  go_ret3
  exact ⟨rfl, hb3⟩

set_option maxHeartbeats 800000 in
theorem frame_Take_g (s : ByteArray) (w : World) (h : 9 ≤ s.size) (h2 : s[0].toNat = 82) (h4 : F.lenOf s ≤ 262144) (h5 : 9 + F.lenOf s ≤ s.size) (hs : s.size ≤ 1000000000) (h6 : F.crcB (s.extract 1 5 ++ F.body s) = F.sumOf s) :
    Calls Try.prog 86 #[.string s] w fun e w' => e = .returned (.tuple #[.string (F.body s), .int .i64 ((9 + F.lenOf s : Nat) : Int), .int .i64 0]) ∧ Below w.heap.size w w' := by
  have hd : ((s.size : Int) == 0) = false := beq_eq_false_iff_ne.2 (by omega)
  have hd2 : ((s[0].toNat : Int) != 82) = false := by simp; omega
  have hd3 : decide ((262144 : Int) < (F.lenOf s : Int)) = false := decide_eq_false (by omega)
  have hd4 : decide ((s.size : Int) - 9 < (F.lenOf s : Int)) = false := decide_eq_false (by omega)
  have H1 : Hid _ := bits_len s w h
  have H2 : Hid _ := bits_sum s w h
  have H3 : Hid _ := crc_call (s.extract 1 5 ++ F.body s) w (by rw [ByteArray.size_append, ← F.toL_length, ← F.toL_length, F.body, F.toL_extract, F.toL_extract, List.length_take, List.length_take]; omega)
  have H4 : Hid _ := fun w => Clone_any (F.body s) w (by rw [← F.toL_length, F.body, F.toL_extract, List.length_take]; omega)
  rw [h6] at H3
  have hd5 : ((F.sumOf s : Int) != (F.sumOf s : Int)) = false := by simp
  unfold F.body at H3 H4 ⊢
  obtain ⟨n, hn⟩ : ∃ n, n = F.lenOf s := ⟨_, rfl⟩
  rw [← hn] at hd3 hd4 H1 H3 H4 h4 h5 ⊢
  have hh : s.size < 9223372036854775808 := by omega
  clear h2 h6 hn
  go_enter Try.func86, Try.ntmps86
  go_wp2_with fail
  refine Calls.mono H1.out ?_
  rintro e w1 ⟨rfl, hw1⟩
  subst hw1
  go_wp2_with fail
  refine Calls.mono H2.out ?_
  rintro e w2 ⟨rfl, hw2⟩
  subst hw2
  go_wp2_with fail
  refine Calls.mono H3.out ?_
  rintro e w3 ⟨rfl, hb3⟩
  go_wp2_with fail
  refine (H4.out _).mono ?_
  rintro e w4 ⟨rfl, hb4⟩
  go_wp2
  go_ret3
  exact ⟨by first | rfl | (rw [show ((9 + n : Nat) : Int) = 9 + (n : Int) by omega]; rfl), hb3.trans (hb4.mono hb3.size)⟩

theorem frame_Take (s : ByteArray) (w : World) (hs : s.size ≤ 1000000000) :
    Calls Try.prog 86 #[.string s] w fun e w' => e = tookEnd (F.take s) ∧ Below w.heap.size w w' := by
  have same : ∀ {x : Ending}, (Calls Try.prog 86 #[.string s] w fun e w' => e = x ∧ w' = w) → Calls Try.prog 86 #[.string s] w fun e w' => e = x ∧ Below w.heap.size w w' := by
    intro x h
    refine Calls.mono h ?_
    rintro e w1 ⟨rfl, hw⟩
    subst hw
    exact ⟨rfl, Below.refl _ _⟩
  unfold F.take
  by_cases h1 : s.size = 0
  · rw [if_pos h1]; exact same (frame_Take_a s w h1)
  rw [if_neg h1]
  have h0 : 0 < s.size := by omega
  by_cases h2 : s.data.toList.head? ≠ some 82
  · rw [if_pos h2]
    refine same (frame_Take_b s w h0 ?_)
    intro e
    rw [head_of h0] at h2
    exact h2 (congrArg some (UInt8.toNat_inj.1 e))
  rw [if_neg h2]
  have h2' : s[0].toNat = 82 := by
    have := Classical.not_not.1 h2
    rw [head_of h0] at this
    rw [Option.some.inj this]; rfl
  by_cases h3 : s.size < 9
  · rw [if_pos h3]; exact same (frame_Take_c s w h0 h2' h3)
  rw [if_neg h3]
  by_cases h4 : 262144 < F.lenOf s
  · rw [if_pos h4]; exact same (frame_Take_d s w (by omega) h2' h4)
  rw [if_neg h4]
  by_cases h5 : s.size < 9 + F.lenOf s
  · rw [if_pos h5]; exact same (frame_Take_e s w (by omega) h2' (by omega) h5)
  rw [if_neg h5]
  by_cases h6 : F.crcB (s.extract 1 5 ++ F.body s) ≠ F.sumOf s
  · rw [if_pos h6]; exact frame_Take_f s w (by omega) h2' (by omega) (by omega) hs h6
  · rw [if_neg h6]; exact frame_Take_g s w (by omega) h2' (by omega) (by omega) hs (Classical.not_not.1 h6)

end Go.Proofs.Ytpfnkjfbhcffiaa
