/-
  Whether a text is a label, as the document has it; the slot of a channel, as the document has it.
-/
import Derived.Test.YtmdnegjpdedcnaaSlOf
namespace Go.Proofs.Ytmdnegjpdedcnaa
open Go.RowKit

theorem label_long {s : ByteArray} (h : ¬ (1 ≤ s.size ∧ s.size ≤ 16)) : Mo.label s = false := by
  unfold Mo.label
  by_cases h1 : 1 ≤ s.size
  · have : ¬ s.size ≤ 16 := fun e => h ⟨h1, e⟩
    simp [this]
  · simp [h1]

set_option maxHeartbeats 1600000 in
set_option maxRecDepth 20000 in
theorem rLabel_c (s : ByteArray) (hs : s.size ≤ 9223372036854775807) (w : World) : Calls Try.prog 26 #[.string s] w fun e w' => e = .returned (.bool (Mo.label s)) ∧ w' = w := by
  go_enter Try.func26, Try.ntmps26
  go_wp2
  go_loop [3] (fun i => ∃ k : Nat, k ≤ s.size ∧ i = .int .i64 (k : Int) ∧ Hid (Mo.allOk (s.data.toList.take k) = true)) (fun i => s.size - (intOf i).toNat)
  case atStart => exact ⟨0, Nat.zero_le _, rfl, rfl⟩
  case round =>
    obtain ⟨k, hk, rfl, HA⟩ := hrel
    by_cases hlt : k < s.size
    · have hb8 : s[k].toNat < 256 := s[k].toNat_lt
      cases hq : Mo.byteOk s[k].toNat with
      | true =>
        have HN : Hid (Mo.allOk (s.data.toList.take (k + 1)) = true) := by show _ = _; rw [allOk_take s k hlt, HA.out, hq]; rfl
        obtain ⟨b, hb⟩ : ∃ b, b = s[k].toNat := ⟨_, rfl⟩
        rw [← hb] at hq hb8
        have hb0 : s[k].toNat = b := hb.symm
        have hcs : (97 ≤ b ∧ b ≤ 122) ∨ (48 ≤ b ∧ b ≤ 57) ∨ b = 45 := by unfold Mo.byteOk at hq; simp at hq; omega
        clear hb hq
        rcases hcs with h1 | h1 | h1
        · have t1 : ¬ (b : Int) < 97 := by omega
          have t2 : ¬ (b : Int) > 122 := by omega
          go_wp2
          go_round
          case rel => exact ⟨k + 1, by omega, by go_num, HN⟩
          case measure => simp [intOf]; omega
        · have t1 : (b : Int) < 97 := by omega
          have t3 : ¬ (b : Int) < 48 := by omega
          have t4 : ¬ (b : Int) > 57 := by omega
          go_wp2
          go_round
          case rel => exact ⟨k + 1, by omega, by go_num, HN⟩
          case measure => simp [intOf]; omega
        · subst h1
          go_wp2
          go_round
          case rel => exact ⟨k + 1, by omega, by go_num, HN⟩
          case measure => simp [intOf]; omega
      | false =>
        have HN : Hid (Mo.label s = false) := by
          have := allOk_stop s k hlt hq
          show _ = _
          unfold Mo.label
          rw [this]
          simp
        obtain ⟨b, hb⟩ : ∃ b, b = s[k].toNat := ⟨_, rfl⟩
        rw [← hb] at hq hb8
        have hb0 : s[k].toNat = b := hb.symm
        have hcs : (b < 97 ∨ 122 < b) ∧ (b < 48 ∨ 57 < b) ∧ b ≠ 45 := by unfold Mo.byteOk at hq; simp at hq; omega
        have t5 : ((b : Int) != 45) = true := by simp; omega
        have t6 : ((b : Int) == 45) = false := by simp; omega
        clear hb hq
        obtain ⟨h1, h2, h3⟩ := hcs
        rcases h1 with h1 | h1
        · have t1 : (b : Int) < 97 := by omega
          rcases h2 with h2 | h2
          · have t3 : (b : Int) < 48 := by omega
            go_wp2
            go_ret
            exact ⟨ret_bool HN.out.symm, rfl⟩
          · have t3 : ¬ (b : Int) < 48 := by omega
            have t4 : (b : Int) > 57 := by omega
            go_wp2
            go_ret
            exact ⟨ret_bool HN.out.symm, rfl⟩
        · have t1 : ¬ (b : Int) < 97 := by omega
          have t2 : (b : Int) > 122 := by omega
          have t3 : ¬ (b : Int) < 48 := by omega
          have t4 : (b : Int) > 57 := by omega
          go_wp2
          go_ret
          exact ⟨ret_bool HN.out.symm, rfl⟩
    · obtain rfl : k = s.size := by omega
      have HL : Hid (Mo.label s = (decide (1 ≤ s.size) && decide (s.size ≤ 16))) := by
        have := HA.out
        rw [List.take_of_length_le (by simp)] at this
        show _ = _
        unfold Mo.label
        rw [this, Bool.and_true]
      by_cases h1 : 1 ≤ s.size
      · by_cases h2 : s.size ≤ 16
        · have t1 : (s.size : Int) ≥ 1 := by omega
          have t2 : (s.size : Int) ≤ 16 := by omega
          go_wp2
          go_ret
          exact ⟨ret_bool (by rw [HL.out]; simp [h1, h2]), rfl⟩
        · have t1 : (s.size : Int) ≥ 1 := by omega
          have t2 : ¬ (s.size : Int) ≤ 16 := by omega
          go_wp2
          go_ret
          exact ⟨ret_bool (by rw [HL.out]; simp [h1, h2]), rfl⟩
      · have t1 : ¬ (s.size : Int) ≥ 1 := by omega
        go_wp2
        go_ret
        exact ⟨ret_bool (by rw [HL.out]; simp [h1]), rfl⟩

theorem rOf_c (x y : ByteArray) (hx : x.size ≤ 9223372036854775807) (hy : y.size ≤ 9223372036854775807) (w : World) : Calls Try.prog 10 #[.string x, .string y] w fun e w' => e = .returned (.tuple #[.int .i64 (if ofE x y = true then (slotOf x y : Int) else 0), .int .i64 (if ofE x y = true then 0 else 1)]) ∧ w' = w := by
  have HX : Hid _ := rLabel_c x hx w
  have HY : Hid _ := rLabel_c y hy w
  unfold ofE
  cases h1 : Mo.label x with
  | false =>
    rw [h1] at HX
    clear h1 hx hy
    go_enter Try.func10, Try.ntmps10
    go_wp2_with fail
    refine Calls.mono HX.out ?_
    rintro e w1 ⟨rfl, h⟩
    subst h
    go_wp2
    go_ret2
    exact ⟨rfl, rfl⟩
  | true =>
    rw [h1] at HX
    cases h2 : Mo.label y with
    | false =>
      rw [h2] at HY
      clear h1 h2 hx hy
      go_enter Try.func10, Try.ntmps10
      go_wp2_with fail
      refine Calls.mono HX.out ?_
      rintro e w1 ⟨rfl, h⟩
      subst h
      go_wp2_with fail
      refine Calls.mono HY.out ?_
      rintro e w1 ⟨rfl, h⟩
      subst h
      go_wp2
      go_ret2
      exact ⟨rfl, rfl⟩
    | true =>
      rw [h2] at HY
      have lx := Mo.label_size h1
      have ly := Mo.label_size h2
      have hs : (joined x y).size ≤ maxLen := by unfold joined maxLen; rw [ByteArray.size_append, ByteArray.size_append]; show x.size + 1 + y.size ≤ _; omega
      obtain ⟨r, hr⟩ : ∃ r, r = slotOf x y := ⟨_, rfl⟩
      have HS : Hid (Calls Try.prog 27 #[.string (x ++ ⟨#[47]⟩ ++ y)] w fun e w' => e = .returned (.int .i64 (r : Int)) ∧ w' = w) := by rw [hr]; exact ref_Slot (joined x y) w hs
      rw [← hr]
      clear h1 h2 hx hy hs hr
      go_enter Try.func10, Try.ntmps10
      go_wp2_with fail
      refine Calls.mono HX.out ?_
      rintro e w1 ⟨rfl, h⟩
      subst h
      go_wp2_with fail
      refine Calls.mono HY.out ?_
      rintro e w1 ⟨rfl, h⟩
      subst h
      go_wp2_with fail
      refine Calls.mono HS.out ?_
      rintro e w1 ⟨rfl, h⟩
      subst h
      go_wp2
      go_ret2
      exact ⟨rfl, rfl⟩

end Go.Proofs.Ytmdnegjpdedcnaa
