/-
  What the document's Valid asks of bytes that go on, and of signs of one byte and of two.
-/
import Derived.Test.YtkioeahlajjmiaaValid
import Derived.Test.YtkioeahlajjmiaaMathUtf
namespace Go.Proofs.Ytkioeahlajjmiaa
open Go.RowKit

theorem more_step {s : ByteArray} {a j : Nat} (h : a + j < s.size) (e : ((s.data.toList.drop a).take j).all M.cont = true) (hc : M.cont s[a + j] = true) : ((s.data.toList.drop a).take (j + 1)).all M.cont = true := by
  have hl : j < (s.data.toList.drop a).length := by simp; omega
  rw [List.take_succ_eq_append_getElem hl, List.all_append, e]
  have e2 : (s.data.toList.drop a)[j] = s[a + j] := by simp; rfl
  simp [e2, hc]

theorem more_stop {s : ByteArray} {a j n : Nat} (h : a + j < s.size) (hj : j < n) (hc : M.cont s[a + j] = false) : M.moreL (s.data.toList.drop a) n = false := by
  unfold M.moreL
  have hl : j < (s.data.toList.drop a).length := by simp; omega
  have e2 : (s.data.toList.drop a)[j] = s[a + j] := by simp; rfl
  cases hq : ((s.data.toList.drop a).take n).all M.cont with
  | false => simp
  | true =>
    exfalso
    rw [List.all_eq_true] at hq
    have := hq s[a + j] (by rw [← e2]; exact List.mem_take_iff_getElem.2 ⟨j, by omega, rfl⟩)
    rw [hc] at this
    cases this

theorem more_end {s : ByteArray} {a n : Nat} (h : a + n ≤ s.size) (e : ((s.data.toList.drop a).take n).all M.cont = true) : M.moreL (s.data.toList.drop a) n = true := by
  unfold M.moreL
  rw [e]
  simp; omega

theorem more_short {s : ByteArray} {a n : Nat} (h : s.size - a < n) : M.moreL (s.data.toList.drop a) n = false := by
  unfold M.moreL
  have hq : ¬ n ≤ (s.data.toList.drop a).length := by simp; omega
  rw [decide_eq_false hq, Bool.false_and]

theorem cont_lo {b : UInt8} (h : b.toNat < 128) : M.cont b = false := by simp [M.cont]; omega
theorem cont_hi {b : UInt8} (h : 191 < b.toNat) : M.cont b = false := by simp [M.cont]; omega
theorem cont_in {b : UInt8} (h1 : 128 ≤ b.toNat) (h2 : b.toNat ≤ 191) : M.cont b = true := by simp [M.cont]; omega

set_option maxHeartbeats 400000 in
theorem ref_more (s : ByteArray) (a n : Nat) (w : World) (hs : s.size ≤ 140737488351232) (ha : a ≤ s.size) (hn : n ≤ 3) :
    Calls Try.prog 92 #[.string s, .int .i64 (a : Int), .int .i64 (n : Int)] w fun e w' => e = .returned (.bool (M.moreL (s.data.toList.drop a) n)) ∧ w' = w := by
  obtain ⟨r, hr⟩ : ∃ r, r = M.moreL (s.data.toList.drop a) n := ⟨_, rfl⟩
  rw [← hr]
  have HR : Hid (r = M.moreL (s.data.toList.drop a) n) := hr
  clear hr
  by_cases hsh : s.size - a < n
  · have HF : Hid (false = r) := by unfold Hid; rw [HR.out, more_short hsh]
    have hsh' : (s.size : Int) - (a : Int) < (n : Int) := by omega
    go_enter Try.func92, Try.ntmps92
    go_wp2
    go_ret
    exact ⟨ret_bool HF.out, rfl⟩
  · have hsh' : ¬ (s.size : Int) - (a : Int) < (n : Int) := by omega
    go_enter Try.func92, Try.ntmps92
    go_wp2
    go_loop [7] (fun i => ∃ j : Nat, j ≤ n ∧ i = .int .i64 ((a + j : Nat) : Int) ∧ Hid (((s.data.toList.drop a).take j).all M.cont = true)) (fun i => a + n - (intOf i).toNat)
    case atStart => exact ⟨0, Nat.zero_le _, rfl, by unfold Hid; simp⟩
    case round =>
      obtain ⟨j, hj, rfl, he⟩ := hrel
      by_cases hjn : j < n
      · have hks : a + j < s.size := by omega
        have hbt : s[a + j].toNat < 256 := s[a + j].toNat_lt
        by_cases h1 : s[a + j].toNat < 128
        · have HF : Hid (false = r) := by unfold Hid; rw [HR.out, more_stop hks hjn (cont_lo h1)]
          go_wp2
          go_ret
          exact ⟨ret_bool HF.out, rfl⟩
        · by_cases h2 : 191 < s[a + j].toNat
          · have HF : Hid (false = r) := by unfold Hid; rw [HR.out, more_stop hks hjn (cont_hi h2)]
            go_wp2
            go_ret
            exact ⟨ret_bool HF.out, rfl⟩
          · have HE : Hid (((s.data.toList.drop a).take (j + 1)).all M.cont = true) := more_step hks he.out (cont_in (by omega) (by omega))
            go_wp2
            go_round
            case rel => exact ⟨j + 1, by omega, by go_num, HE⟩
            case measure => simp [intOf]; omega
      · obtain rfl : j = n := by omega
        have HF : Hid (true = r) := by unfold Hid; rw [HR.out, more_end (by omega) he.out]
        go_wp2
        go_ret
        exact ⟨ret_bool HF.out, rfl⟩

theorem ref_more' (s : ByteArray) (x y : Int) (w : World) (a n : Nat) (ex : x = (a : Int)) (ey : y = (n : Int)) (hs : s.size ≤ 140737488351232) (ha : a ≤ s.size) (hn : n ≤ 3) :
    Calls Try.prog 92 #[.string s, .int .i64 x, .int .i64 y] w fun e w' => e = .returned (.bool (M.moreL (s.data.toList.drop a) n)) ∧ w' = w := by
  subst ex ey
  exact ref_more s a n w hs ha hn

set_option maxHeartbeats 400000 in
set_option maxRecDepth 20000 in
theorem one_1 (s : ByteArray) (a : Nat) (w : World) (ha : a < s.size) (hb : s[a].toNat < 128) :
    Calls Try.prog 82 #[.string s, .int .i64 (a : Int)] w fun e w' => e = .returned (.int .i64 1) ∧ Below w.heap.size w w' := by
  go_enter Try.func82, Try.ntmps82
  go_wp2
  go_ret
  exact ⟨rfl, Below.refl _ _⟩

set_option maxHeartbeats 400000 in
set_option maxRecDepth 20000 in
theorem one_0 (s : ByteArray) (a : Nat) (w : World) (ha : a < s.size) (hb : (128 ≤ s[a].toNat ∧ s[a].toNat < 192) ∨ 248 ≤ s[a].toNat) :
    Calls Try.prog 82 #[.string s, .int .i64 (a : Int)] w fun e w' => e = .returned (.int .i64 0) ∧ Below w.heap.size w w' := by
  have hbt : s[a].toNat < 256 := s[a].toNat_lt
  rcases hb with ⟨h1, h2⟩ | h1
  · go_enter Try.func82, Try.ntmps82
    go_wp2
    go_ret
    exact ⟨rfl, Below.refl _ _⟩
  · go_enter Try.func82, Try.ntmps82
    go_wp2
    go_ret
    exact ⟨rfl, Below.refl _ _⟩

set_option maxHeartbeats 400000 in
set_option maxRecDepth 20000 in
theorem one_2n (s : ByteArray) (a : Nat) (w : World) (hs : s.size ≤ 140737488351232) (ha : a < s.size) (h1 : 192 ≤ s[a].toNat) (h2 : s[a].toNat < 224) (hm : M.moreL (s.data.toList.drop (a + 1)) 1 = false) :
    Calls Try.prog 82 #[.string s, .int .i64 (a : Int)] w fun e w' => e = .returned (.int .i64 0) ∧ Below w.heap.size w w' := by
  have HM : Hid (M.moreL (s.data.toList.drop (a + 1)) 1 = false) := hm
  clear hm
  go_enter Try.func82, Try.ntmps82
  go_wp2_with (go_at_call 92; refine (ref_more' s _ _ _ (a + 1) 1 (by omega) rfl hs (by omega) (by omega)).mono ?_; rw [HM.out]; rintro e w1 ⟨rfl, hw1⟩)
  go_ret
  exact ⟨rfl, Below.refl _ _⟩

set_option maxHeartbeats 400000 in
set_option maxRecDepth 20000 in
theorem one_3n (s : ByteArray) (a : Nat) (w : World) (hs : s.size ≤ 140737488351232) (ha : a < s.size) (h1 : 224 ≤ s[a].toNat) (h2 : s[a].toNat < 240) (hm : M.moreL (s.data.toList.drop (a + 1)) 2 = false) :
    Calls Try.prog 82 #[.string s, .int .i64 (a : Int)] w fun e w' => e = .returned (.int .i64 0) ∧ Below w.heap.size w w' := by
  have HM : Hid (M.moreL (s.data.toList.drop (a + 1)) 2 = false) := hm
  clear hm
  go_enter Try.func82, Try.ntmps82
  go_wp2_with (go_at_call 92; refine (ref_more' s _ _ _ (a + 1) 2 (by omega) rfl hs (by omega) (by omega)).mono ?_; rw [HM.out]; rintro e w1 ⟨rfl, hw1⟩)
  go_ret
  exact ⟨rfl, Below.refl _ _⟩

set_option maxHeartbeats 400000 in
set_option maxRecDepth 20000 in
theorem one_4n (s : ByteArray) (a : Nat) (w : World) (hs : s.size ≤ 140737488351232) (ha : a < s.size) (h1 : 240 ≤ s[a].toNat) (h2 : s[a].toNat < 248) (hm : M.moreL (s.data.toList.drop (a + 1)) 3 = false) :
    Calls Try.prog 82 #[.string s, .int .i64 (a : Int)] w fun e w' => e = .returned (.int .i64 0) ∧ Below w.heap.size w w' := by
  have HM : Hid (M.moreL (s.data.toList.drop (a + 1)) 3 = false) := hm
  clear hm
  go_enter Try.func82, Try.ntmps82
  go_wp2_with (go_at_call 92; refine (ref_more' s _ _ _ (a + 1) 3 (by omega) rfl hs (by omega) (by omega)).mono ?_; rw [HM.out]; rintro e w1 ⟨rfl, hw1⟩)
  go_ret
  exact ⟨rfl, Below.refl _ _⟩

/-- 's[i]' within the bounds. -/
theorem run_at (s : ByteArray) (i : Int) (j : Nat) (hi : i = (j : Int)) (hj : j < s.size) (W : World) :
    (Instr.index 9 (.string s) (.int .i64 i)).run Try.prog W = .ok (.int .u8 (s[j].toNat : Int)) W := by
  subst hi
  have h := run_index_string (P := Try.prog) W 9 s .i64 (j : Int) Try.underlying9
  rw [h]
  simp [hj]

theorem ret_i {a b : Int} {w w' : World} (h : a = b) (hb : Below w.heap.size w w') : Ending.returned (.int .i64 a) = .returned (.int .i64 b) ∧ Below w.heap.size w w' := ⟨by rw [h], hb⟩

set_option maxHeartbeats 400000 in
set_option maxRecDepth 20000 in
theorem one_2 (s : ByteArray) (a : Nat) (w : World) (hs : s.size ≤ 140737488351232) (ha : a < s.size) (ha1 : a + 1 < s.size) (h1 : 192 ≤ s[a].toNat) (h2 : s[a].toNat < 224) (hm : M.moreL (s.data.toList.drop (a + 1)) 1 = true) :
    Calls Try.prog 82 #[.string s, .int .i64 (a : Int)] w fun e w' => e = .returned (.int .i64 ((if 128 ≤ s[a].toNat % 32 * 64 + s[a + 1].toNat % 64 then 2 else 0 : Nat) : Int)) ∧ Below w.heap.size w w' := by
  have HM : Hid (M.moreL (s.data.toList.drop (a + 1)) 1 = true) := hm
  have hb1 : s[a + 1].toNat < 256 := s[a + 1].toNat_lt
  clear hm
  by_cases hq : 128 ≤ s[a].toNat % 32 * 64 + s[a + 1].toNat % 64
  · rw [if_pos hq]
    go_enter Try.func82, Try.ntmps82
    go_wp2_with (go_at_call 92; refine (ref_more' s _ _ _ (a + 1) 1 (by omega) rfl hs (by omega) (by omega)).mono ?_; rw [HM.out]; rintro e w1 ⟨rfl, hw1⟩)
    go_ret
    exact ⟨rfl, Below.refl _ _⟩
  · rw [if_neg hq]
    go_enter Try.func82, Try.ntmps82
    go_wp2_with (go_at_call 92; refine (ref_more' s _ _ _ (a + 1) 1 (by omega) rfl hs (by omega) (by omega)).mono ?_; rw [HM.out]; rintro e w1 ⟨rfl, hw1⟩)
    go_ret
    exact ⟨rfl, Below.refl _ _⟩

end Go.Proofs.Ytkioeahlajjmiaa
