/-
  What the document's Take and Scan do: as the program's.
-/
import Derived.Test.YtpalmkneaffklaaFrScan
import Derived.Deep.RegionLaw
import Derived.Deep.QuietTactic
namespace Go.Proofs.Ytpalmkneaffklaa
open Go.RowKit

theorem ref_len (s : ByteArray) (w : World) (h : 9 ≤ s.size) :
    Calls Try.prog 23 #[.string (s.extract 1 s.size), .int .i64 4] w fun e w' => e = .returned (.tuple #[.int .i64 (F.lenOf s : Int), .int .i64 0]) ∧ w' = w := by
  have := ref_Fixed (s.extract 1 s.size) 4 w
  rw [len4 s 1 (by omega)] at this
  exact this
theorem ref_sum (s : ByteArray) (w : World) (h : 9 ≤ s.size) :
    Calls Try.prog 23 #[.string (s.extract 5 s.size), .int .i64 4] w fun e w' => e = .returned (.tuple #[.int .i64 (F.sumOf s : Int), .int .i64 0]) ∧ w' = w := by
  have := ref_Fixed (s.extract 5 s.size) 4 w
  rw [len4 s 5 (by omega)] at this
  exact this

set_option maxHeartbeats 400000 in
theorem ref_Take_a (s : ByteArray) (w : World) (h : s.size = 0) :
    Calls Try.prog 13 #[.string s] w fun e w' => e = .returned (.tuple #[.string ⟨#[]⟩, .int .i64 0, .int .i64 5]) ∧ w' = w := by
  obtain rfl : s = ⟨#[]⟩ := ByteArray.ext (Array.eq_empty_of_size_eq_zero h)
  clear h
  go_enter Try.func13, Try.ntmps13
  go_wp2
  go_ret3
  exact ⟨rfl, rfl⟩

theorem not_empty {s : ByteArray} (h : 0 < s.size) : s.toList.isEmpty = false := by
  rw [ByteArray.toList_eq, List.isEmpty_eq_false_iff]
  intro e
  have := F.toL_length s
  rw [e] at this
  simp at this
  omega

set_option maxHeartbeats 400000 in
theorem ref_Take_b (s : ByteArray) (w : World) (h : 0 < s.size) (h2 : s[0].toNat ≠ 82) :
    Calls Try.prog 13 #[.string s] w fun e w' => e = .returned (.tuple #[.string ⟨#[]⟩, .int .i64 0, .int .i64 40]) ∧ w' = w := by
  have hd : s.toList.isEmpty = false := not_empty h
  have hd2 : ((s[0].toNat : Int) != 82) = true := by simp; omega
  go_enter Try.func13, Try.ntmps13
  go_wp2
  go_ret3
  exact ⟨rfl, rfl⟩

set_option maxHeartbeats 400000 in
theorem ref_Take_c (s : ByteArray) (w : World) (h : 0 < s.size) (h2 : s[0].toNat = 82) (h3 : s.size < 9) :
    Calls Try.prog 13 #[.string s] w fun e w' => e = .returned (.tuple #[.string ⟨#[]⟩, .int .i64 0, .int .i64 5]) ∧ w' = w := by
  have hd : s.toList.isEmpty = false := not_empty h
  have hd2 : ((s[0].toNat : Int) != 82) = false := by simp; omega
  go_enter Try.func13, Try.ntmps13
  go_wp2
  go_ret3
  exact ⟨rfl, rfl⟩

set_option maxHeartbeats 400000 in
theorem ref_Take_d (s : ByteArray) (w : World) (h : 9 ≤ s.size) (h2 : s[0].toNat = 82) (h4 : 262144 < F.lenOf s) :
    Calls Try.prog 13 #[.string s] w fun e w' => e = .returned (.tuple #[.string ⟨#[]⟩, .int .i64 0, .int .i64 40]) ∧ w' = w := by
  have hd : s.toList.isEmpty = false := not_empty (by omega)
  have hd2 : ((s[0].toNat : Int) != 82) = false := by simp; omega
  have hd3 : decide ((262144 : Int) < (F.lenOf s : Int)) = true := decide_eq_true (by omega)
  have H1 : Hid _ := ref_len s w h
  clear h4 h2
  go_enter Try.func13, Try.ntmps13
  go_wp2_with fail
  refine Calls.mono H1.out ?_
  rintro e w1 ⟨rfl, hw1⟩
  subst hw1
  go_wp2
  go_ret3
  exact ⟨rfl, rfl⟩

set_option maxHeartbeats 400000 in
theorem ref_Take_e (s : ByteArray) (w : World) (h : 9 ≤ s.size) (h2 : s[0].toNat = 82) (h4 : F.lenOf s ≤ 262144) (h5 : s.size < 9 + F.lenOf s) :
    Calls Try.prog 13 #[.string s] w fun e w' => e = .returned (.tuple #[.string ⟨#[]⟩, .int .i64 0, .int .i64 5]) ∧ w' = w := by
  have hd : s.toList.isEmpty = false := not_empty (by omega)
  have hd2 : ((s[0].toNat : Int) != 82) = false := by simp; omega
  have hd3 : decide ((262144 : Int) < (F.lenOf s : Int)) = false := decide_eq_false (by omega)
  have hd4 : decide ((s.size : Int) < 9 + (F.lenOf s : Int)) = true := decide_eq_true (by omega)
  have H1 : Hid _ := ref_len s w h
  clear h2
  go_enter Try.func13, Try.ntmps13
  go_wp2_with fail
  refine Calls.mono H1.out ?_
  rintro e w1 ⟨rfl, hw1⟩
  subst hw1
  go_wp2
  go_ret3
  exact ⟨rfl, rfl⟩

theorem run_cut (s : ByteArray) (i j : Int) (a b : Nat) (hi : i = (a : Int)) (hj : j = (b : Int)) (hab : a ≤ b) (hb : b ≤ s.size) (W : World) :
    (Instr.slice 9 (.string s) (some (.int .i64 i)) (some (.int .i64 j)) none).run Try.prog W = .ok (.string (s.extract a b)) W := by
  subst hi hj
  rw [run_slice_string_if (h := Try.underlying9), if_pos (by omega), if_pos (by omega), Int.toNat_natCast, Int.toNat_natCast]

set_option maxHeartbeats 1000000 in
theorem ref_Take_f (s : ByteArray) (w : World) (h : 9 ≤ s.size) (h2 : s[0].toNat = 82) (h4 : F.lenOf s ≤ 262144) (h5 : 9 + F.lenOf s ≤ s.size) (hs : s.size ≤ 1000000000) (h6 : F.crcB (s.extract 1 5 ++ F.body s) ≠ F.sumOf s) :
    Calls Try.prog 13 #[.string s] w fun e w' => e = .returned (.tuple #[.string ⟨#[]⟩, .int .i64 0, .int .i64 40]) ∧ Below w.heap.size w w' := by
  have hd : s.toList.isEmpty = false := not_empty (by omega)
  have hd2 : ((s[0].toNat : Int) != 82) = false := by simp; omega
  have hd3 : decide ((262144 : Int) < (F.lenOf s : Int)) = false := decide_eq_false (by omega)
  have hd4 : decide ((s.size : Int) < 9 + (F.lenOf s : Int)) = false := decide_eq_false (by omega)
  have H1 : Hid _ := ref_len s w h
  have H2 : Hid _ := ref_sum s w h
  have H3 : Hid _ := fun w => ref_crc_call (s.extract 1 5 ++ F.body s) w (by rw [ByteArray.size_append, ← F.toL_length, ← F.toL_length, F.body, F.toL_extract, F.toL_extract, List.length_take, List.length_take]; omega)
  obtain ⟨c, hc⟩ : ∃ c, c = F.crcB (s.extract 1 5 ++ F.body s) := ⟨_, rfl⟩
  rw [← hc] at H3 h6
  have hd5 : ((F.sumOf s : Int) != (c : Int)) = true := by simp; omega
  unfold F.body at H3
  obtain ⟨n, hn⟩ : ∃ n, n = F.lenOf s := ⟨_, rfl⟩
  rw [← hn] at hd3 hd4 H1 H3 h4 h5
  have hx1 := run_cut s 1 5 1 5 rfl rfl (by decide) (by omega)
  have hx2 := run_cut s 9 (IntKind.i64.wrap (9 + (n : Int))) 9 (9 + n) rfl (by rw [wraps_i64 _ (by omega) (by rw [pow63]; omega)]; omega) (by omega) (by omega)
  obtain ⟨x, hx⟩ : ∃ x, x = s.extract 1 5 := ⟨_, rfl⟩
  obtain ⟨y, hy⟩ : ∃ y, y = s.extract 9 (9 + n) := ⟨_, rfl⟩
  have hxs : x.size ≤ 4 := by rw [hx, ← F.toL_length, F.toL_extract, List.length_take]; omega
  have hys : y.size ≤ 262144 := by rw [hy, ← F.toL_length, F.toL_extract, List.length_take]; omega
  rw [← hx] at hx1 H3
  rw [← hy] at hx2 H3
  have hadd : ∀ W, (Op.stringOp .add x y).run Try.prog W = .ok (.string (x ++ y)) W := fun W => run_string_add_sum (P := Try.prog) (w := W) x y (by omega)
  have HB : Hid (∀ k, Below w.heap.size w (w.drewN k)) := fun _ => ⟨rfl, rfl, rfl, Nat.le_refl _, fun _ _ => rfl⟩
  clear h2 hc h6 hn hx hy
  go_enter Try.func13, Try.ntmps13
  go_wp2_with fail
  refine Calls.mono H1.out ?_
  rintro e w1 ⟨rfl, hw1⟩
  subst hw1
  go_wp2_with fail
  refine Calls.mono H2.out ?_
  rintro e w2 ⟨rfl, hw2⟩
  subst hw2
  go_wp2
  go_quiet (first | (go_at_call 20; exact Calls.quiet_of_same (H3.out _)))
  go_wp2
  go_ret3
  exact ⟨rfl, HB.out _⟩

set_option maxHeartbeats 1000000 in
theorem ref_Take_g (s : ByteArray) (w : World) (h : 9 ≤ s.size) (h2 : s[0].toNat = 82) (h4 : F.lenOf s ≤ 262144) (h5 : 9 + F.lenOf s ≤ s.size) (hs : s.size ≤ 1000000000) (h6 : F.crcB (s.extract 1 5 ++ F.body s) = F.sumOf s) :
    Calls Try.prog 13 #[.string s] w fun e w' => e = .returned (.tuple #[.string (F.body s), .int .i64 ((9 + F.lenOf s : Nat) : Int), .int .i64 0]) ∧ Below w.heap.size w w' := by
  have hd : s.toList.isEmpty = false := not_empty (by omega)
  have hd2 : ((s[0].toNat : Int) != 82) = false := by simp; omega
  have hd3 : decide ((262144 : Int) < (F.lenOf s : Int)) = false := decide_eq_false (by omega)
  have hd4 : decide ((s.size : Int) < 9 + (F.lenOf s : Int)) = false := decide_eq_false (by omega)
  have H1 : Hid _ := ref_len s w h
  have H2 : Hid _ := ref_sum s w h
  have H3 : Hid _ := fun w => ref_crc_call (s.extract 1 5 ++ F.body s) w (by rw [ByteArray.size_append, ← F.toL_length, ← F.toL_length, F.body, F.toL_extract, F.toL_extract, List.length_take, List.length_take]; omega)
  obtain ⟨c, hc⟩ : ∃ c, c = F.crcB (s.extract 1 5 ++ F.body s) := ⟨_, rfl⟩
  rw [← hc] at H3 h6
  have hd5 : ((F.sumOf s : Int) != (c : Int)) = false := by rw [h6]; simp
  unfold F.body at H3 ⊢
  obtain ⟨n, hn⟩ : ∃ n, n = F.lenOf s := ⟨_, rfl⟩
  rw [← hn] at hd3 hd4 H1 H3 h4 h5 ⊢
  have hx1 := run_cut s 1 5 1 5 rfl rfl (by decide) (by omega)
  have hx2 := run_cut s 9 (IntKind.i64.wrap (9 + (n : Int))) 9 (9 + n) rfl (by rw [wraps_i64 _ (by omega) (by rw [pow63]; omega)]; omega) (by omega) (by omega)
  have hxs : (s.extract 1 5).size ≤ 4 := by rw [← F.toL_length, F.toL_extract, List.length_take]; omega
  have hys : (s.extract 9 (9 + n)).size ≤ 262144 := by rw [← F.toL_length, F.toL_extract, List.length_take]; omega
  have hadd : ∀ W, (Op.stringOp .add (s.extract 1 5) (s.extract 9 (9 + n))).run Try.prog W = .ok (.string ((s.extract 1 5) ++ (s.extract 9 (9 + n)))) W := fun W => run_string_add_sum (P := Try.prog) (w := W) (s.extract 1 5) (s.extract 9 (9 + n)) (by omega)
  have HB : Hid (∀ k, Below w.heap.size w (w.drewN k)) := fun _ => ⟨rfl, rfl, rfl, Nat.le_refl _, fun _ _ => rfl⟩
  have hnn : ((9 + n : Nat) : Int) = 9 + (n : Int) := by omega
  rw [hnn]
  clear h2 hc h6 hn hnn
  go_enter Try.func13, Try.ntmps13
  go_wp2_with fail
  refine Calls.mono H1.out ?_
  rintro e w1 ⟨rfl, hw1⟩
  subst hw1
  go_wp2_with fail
  refine Calls.mono H2.out ?_
  rintro e w2 ⟨rfl, hw2⟩
  subst hw2
  go_wp2
  go_quiet (first | (go_at_call 20; exact Calls.quiet_of_same (H3.out _)))
  go_wp2
  go_ret3
  exact ⟨rfl, HB.out _⟩

theorem ref_Take (s : ByteArray) (w : World) (hs : s.size ≤ 1000000000) :
    Calls Try.prog 13 #[.string s] w fun e w' => e = tookEnd (F.take s) ∧ Below w.heap.size w w' := by
  have same : ∀ {x : Ending}, (Calls Try.prog 13 #[.string s] w fun e w' => e = x ∧ w' = w) → Calls Try.prog 13 #[.string s] w fun e w' => e = x ∧ Below w.heap.size w w' := by
    intro x h
    refine Calls.mono h ?_
    rintro e w1 ⟨rfl, hw⟩
    subst hw
    exact ⟨rfl, Below.refl _ _⟩
  unfold F.take
  by_cases h1 : s.size = 0
  · rw [if_pos h1]; exact same (ref_Take_a s w h1)
  rw [if_neg h1]
  have h0 : 0 < s.size := by omega
  by_cases h2 : s.data.toList.head? ≠ some 82
  · rw [if_pos h2]
    refine same (ref_Take_b s w h0 ?_)
    intro e
    rw [head_of h0] at h2
    exact h2 (congrArg some (UInt8.toNat_inj.1 e))
  rw [if_neg h2]
  have h2' : s[0].toNat = 82 := by
    have := Classical.not_not.1 h2
    rw [head_of h0] at this
    rw [Option.some.inj this]; rfl
  by_cases h3 : s.size < 9
  · rw [if_pos h3]; exact same (ref_Take_c s w h0 h2' h3)
  rw [if_neg h3]
  by_cases h4 : 262144 < F.lenOf s
  · rw [if_pos h4]; exact same (ref_Take_d s w (by omega) h2' h4)
  rw [if_neg h4]
  by_cases h5 : s.size < 9 + F.lenOf s
  · rw [if_pos h5]; exact same (ref_Take_e s w (by omega) h2' (by omega) h5)
  rw [if_neg h5]
  by_cases h6 : F.crcB (s.extract 1 5 ++ F.body s) ≠ F.sumOf s
  · rw [if_pos h6]; exact ref_Take_f s w (by omega) h2' (by omega) (by omega) hs h6
  · rw [if_neg h6]; exact ref_Take_g s w (by omega) h2' (by omega) (by omega) hs (Classical.not_not.1 h6)

end Go.Proofs.Ytpalmkneaffklaa
