/-
  What the document's Valid, PutText and Text do: as the program's.
-/
import Derived.Test.YtkioeahlajjmiaaRefOne
import Derived.Test.YtkioeahlajjmiaaValid
namespace Go.Proofs.Ytkioeahlajjmiaa
open Go.RowKit

theorem dropAt (s : ByteArray) (k : Nat) (h : k < s.size) : s.data.toList.drop k = s[k] :: s.data.toList.drop (k + 1) := byteAt s k h

theorem more_len {s : ByteArray} {a n : Nat} (h : M.moreL (s.data.toList.drop a) n = true) (hn : 0 < n) : a + n ≤ s.size := by
  unfold M.moreL at h
  simp at h
  omega

theorem ref_one (s : ByteArray) (a : Nat) (w : World) (hs : s.size ≤ 140737488351232) (ha : a < s.size) :
    Calls Try.prog 82 #[.string s, .int .i64 (a : Int)] w fun e w' => e = .returned (.int .i64 ((M.oneL (s.data.toList.drop a) : Nat) : Int)) ∧ Below w.heap.size w w' := by
  rw [dropAt s a ha, M.oneL_cons]
  have hbt : s[a].toNat < 256 := s[a].toNat_lt
  by_cases h1 : s[a].toNat < 128
  · rw [if_pos h1]
    exact one_1 s a w ha h1
  · rw [if_neg h1]
    by_cases h2 : 192 ≤ s[a].toNat ∧ s[a].toNat < 224
    · rw [if_pos h2]
      cases hm : M.moreL (s.data.toList.drop (a + 1)) 1 with
      | false => exact one_2n s a w hs ha h2.1 h2.2 hm
      | true =>
        have hl := more_len hm (by omega)
        have h := one_2 s a w hs ha (by omega) h2.1 h2.2 hm
        rw [dropAt s (a + 1) (by omega)]
        exact h
    · rw [if_neg h2]
      by_cases h3 : 224 ≤ s[a].toNat ∧ s[a].toNat < 240
      · rw [if_pos h3]
        cases hm : M.moreL (s.data.toList.drop (a + 1)) 2 with
        | false => exact one_3n s a w hs ha h3.1 h3.2 hm
        | true =>
          have hl := more_len hm (by omega)
          have h := one_3 s a w hs ha (by omega) (by omega) h3.1 h3.2 hm
          rw [dropAt s (a + 1) (by omega), dropAt s (a + 1 + 1) (by omega)]
          exact h
      · rw [if_neg h3]
        by_cases h4 : 240 ≤ s[a].toNat ∧ s[a].toNat < 248
        · rw [if_pos h4]
          cases hm : M.moreL (s.data.toList.drop (a + 1)) 3 with
          | false => exact one_4n s a w hs ha h4.1 h4.2 hm
          | true =>
            have hl := more_len hm (by omega)
            have h := one_4 s a w hs ha (by omega) (by omega) (by omega) h4.1 h4.2 hm
            rw [dropAt s (a + 1) (by omega), dropAt s (a + 1 + 1) (by omega), dropAt s (a + 1 + 1 + 1) (by omega)]
            exact h
        · rw [if_neg h4]
          exact one_0 s a w ha (by omega)

theorem one_le4 : ∀ l : List UInt8, M.oneL l ≤ 4
  | [] => by simp [M.oneL]
  | b :: r => by
    rw [M.oneL_cons]
    repeat' split
    all_goals omega

theorem one_len : ∀ l : List UInt8, M.oneL l ≤ l.length
  | [] => by simp [M.oneL]
  | b :: r => by
    rw [M.oneL_cons]
    repeat' split
    all_goals subst_vars
    all_goals first | (simp; done) | (simp; omega)

theorem rv_step {s : ByteArray} {a : Nat} (h : a < s.size) (h0 : M.oneL (s.data.toList.drop a) ≠ 0) {r : Bool} (e : M.mValid ⟨0, 0, 0⟩ (s.data.toList.drop a) = r) : M.mValid ⟨0, 0, 0⟩ (s.data.toList.drop (a + M.oneL (s.data.toList.drop a))) = r := by
  rw [← List.drop_drop]
  rw [dropAt s a h] at e h0 ⊢
  rw [M.mv_step1, if_neg h0] at e
  exact e

theorem rv_stop {s : ByteArray} {a : Nat} (h : a < s.size) (h0 : M.oneL (s.data.toList.drop a) = 0) {r : Bool} (e : M.mValid ⟨0, 0, 0⟩ (s.data.toList.drop a) = r) : false = r := by
  rw [dropAt s a h] at e h0
  rw [M.mv_step1, if_pos h0] at e
  exact e

theorem rv_end {s : ByteArray} {a : Nat} (h : ¬ a < s.size) {r : Bool} (e : M.mValid ⟨0, 0, 0⟩ (s.data.toList.drop a) = r) : true = r := by
  rw [List.drop_of_length_le (by simp; omega)] at e
  exact e

set_option maxHeartbeats 1000000 in
theorem ref_Valid (s : ByteArray) (w : World) (hs : s.size ≤ 140737488351232) :
    Calls Try.prog 62 #[.string s] w fun e w' => e = .returned (.bool (valid s)) ∧ Below w.heap.size w w' := by
  obtain ⟨r, hr⟩ : ∃ r, r = valid s := ⟨_, rfl⟩
  rw [← hr]
  have HR : Hid (r = valid s) := hr
  clear hr
  go_enter Try.func62, Try.ntmps62
  go_wp2
  go_loopw [3] (fun i wr => ∃ a : Nat, a ≤ s.size ∧ i = .int .i64 (a : Int) ∧ Hid (M.mValid ⟨0, 0, 0⟩ (s.data.toList.drop a) = r) ∧ Below w.heap.size w wr) (fun i _ => s.size - (intOf i).toNat)
  case atStart => exact ⟨0, Nat.zero_le _, rfl, HR.out.symm, Below.refl _ _⟩
  case round =>
    obtain ⟨a, ha, rfl, he, hb⟩ := hrel
    by_cases hlt : a < s.size
    · obtain ⟨q, hq⟩ : ∃ q, q = M.oneL (s.data.toList.drop a) := ⟨_, rfl⟩
      have HQ : Hid (q = M.oneL (s.data.toList.drop a)) := hq
      have hq4 : q ≤ 4 := by rw [hq]; exact one_le4 _
      have hql : a + q ≤ s.size := by
        have := one_len (s.data.toList.drop a)
        rw [← hq] at this
        simp at this
        omega
      have hc : ∀ W, Calls Try.prog 82 #[.string s, .int .i64 (a : Int)] W fun e w' => e = .returned (.int .i64 (q : Int)) ∧ Below W.heap.size W w' := by
        intro W
        rw [hq]
        exact ref_one s a W hs hlt
      have HC : Hid (∀ W, Calls Try.prog 82 #[.string s, .int .i64 (a : Int)] W fun e w' => e = .returned (.int .i64 (q : Int)) ∧ Below W.heap.size W w') := hc
      clear hc
      by_cases h0 : q = 0
      · have HF : Hid (false = r) := rv_stop hlt (by rw [← hq]; exact h0) he.out
        have h0' : ((q : Int) == 0) = true := by simp [h0]
        clear hq h0
        go_wp2_with (go_at_call 82; refine (HC.out _).mono ?_; rintro e w1 ⟨rfl, hb1⟩)
        go_ret
        exact ⟨ret_bool HF.out, hb.trans (hb1.mono hb.size)⟩
      · have HE : Hid (M.mValid ⟨0, 0, 0⟩ (s.data.toList.drop (a + q)) = r) := by
          unfold Hid
          rw [hq]
          exact rv_step hlt (by rw [← hq]; exact h0) he.out
        have h0' : ((q : Int) == 0) = false := by simp [h0]
        clear hq
        go_wp2_with (go_at_call 82; refine (HC.out _).mono ?_; rintro e w1 ⟨rfl, hb1⟩)
        go_roundw
        case rel => exact ⟨a + q, hql, by go_num, HE, hb.trans (hb1.mono hb.size)⟩
        case measure => simp [intOf]; omega
    · have HF : Hid (true = r) := rv_end hlt he.out
      go_wp2
      go_ret
      exact ⟨ret_bool HF.out, hb⟩

end Go.Proofs.Ytkioeahlajjmiaa
