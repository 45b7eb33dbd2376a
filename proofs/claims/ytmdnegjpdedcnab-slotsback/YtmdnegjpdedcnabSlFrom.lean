/-
  The map of bytes: the program's From.
-/
import Derived.Test.YtmdnegjpdedcnabSlByt
import Derived.Test.YtmdnegjpdedcnabSlMath2
import Derived.Test.YtmdnegjpdedcnabVar
namespace Go.Proofs.Ytmdnegjpdedcnab
open Go.RowKit

theorem toL_cut (s : ByteArray) (k : Nat) (_h : k ≤ s.size) : (s.extract k s.size).data.toList = s.data.toList.drop k := by
  have e : (s.extract k s.size).data = s.data.extract k s.size := by simp [ByteArray.data_extract]
  rw [e, Array.toList_extract]
  simp [List.extract]
  have : s.data.size = s.size := rfl
  rw [List.take_of_length_le (by simp)]
theorem size_cut (s : ByteArray) (k : Nat) (_h : k ≤ s.size) : (s.extract k s.size).size = s.size - k := by simp [ByteArray.size_extract]
theorem toL_cons (s : ByteArray) (h : 0 < s.size) : s.data.toList = s[0] :: s.data.toList.drop 1 := by
  have h' : 0 < s.data.toList.length := by simpa using h
  have := List.drop_eq_getElem_cons h'
  rw [List.drop_zero] at this
  exact this
theorem varGo_top : ∀ (l : List UInt8) (i n : Nat), n < 128 ^ i → i ≤ 9 → (M.varGo i n l).1 < 128 ^ 9 ∧ (M.varGo i n l).2.1 ≤ i + l.length ∧ (M.varGo i n l).2.1 ≤ 9 ∧ (M.varGo i n l).2.2 ≤ 10
  | [], i, n, hn, hi => by unfold M.varGo; split <;> simp
  | b :: r, i, n, hn, hi => by
    unfold M.varGo
    by_cases h9 : 9 ≤ i
    · rw [if_pos h9]; simp
    · rw [if_neg h9]
      have hb : b.toNat < 256 := b.toNat_lt
      have hm := (shl_facts i n b.toNat (by omega) hn).2
      by_cases h1 : 128 ≤ b.toNat
      · rw [if_pos h1]
        have ih := varGo_top r (i + 1) _ hm (by omega)
        refine ⟨ih.1, by simp; omega, ih.2.2.1, ih.2.2.2⟩
      · rw [if_neg h1]
        by_cases h2 : b.toNat = 0 ∧ 0 < i
        · rw [if_pos h2]; simp
        · rw [if_neg h2]
          rw [Nat.mod_eq_of_lt (by omega)] at hm
          have h3 : 128 ^ (i + 1) ≤ 128 ^ 9 := Nat.pow_le_pow_right (by omega) (by omega)
          exact ⟨by omega, by simp, by simp; omega, by simp⟩
theorem rdVar_top (l : List UInt8) : (M.rdVar l).1 < 9223372036854775808 ∧ (M.rdVar l).2.1 ≤ l.length ∧ (M.rdVar l).2.1 ≤ 9 ∧ (M.rdVar l).2.2 ≤ 10 := by
  have := varGo_top l 0 0 (by simp) (by omega)
  have e9 : (128 : Nat) ^ 9 = 9223372036854775808 := by decide
  rw [e9] at this
  simpa [M.rdVar] using this

def ownO (l : List UInt8) : Ending := match Sl.own1 l with
  | none => .returned (.tuple #[.agg #[.int .i64 0, .int .i64 0], .int .i64 0, .bool false])
  | some (g, e, k) => .returned (.tuple #[.agg #[.int .i64 (g : Int), .int .i64 (e : Int)], .int .i64 (k : Int), .bool true])

set_option maxHeartbeats 1600000 in
set_option maxRecDepth 20000 in
theorem firstOwner_c (s : ByteArray) (hs : s.size ≤ 140737488351232) (w : World) : Calls Try.prog 34 #[.string s] w fun e w' => e = ownO s.data.toList ∧ Below w.heap.size w w' := by
  have HBl : Hid (∀ o, Below w.heap.size w (w.alloc o)) := fun o => below_alloc w o
  by_cases h0 : s.size = 0
  · have e0 : s = ⟨#[]⟩ := by
      apply ByteArray.ext
      exact Array.eq_empty_of_size_eq_zero h0
    subst e0
    have hE : ownO ((⟨#[]⟩ : ByteArray).data.toList) = .returned (.tuple #[.agg #[.int .i64 0, .int .i64 0], .int .i64 0, .bool false]) := rfl
    rw [hE]
    clear h0 hs
    go_enter Try.func34, Try.ntmps34
    go_wp2
    exact bodyPost_ret (v := .tuple #[.agg #[.int .i64 0, .int .i64 0], .int .i64 0, .bool false]) (by simp [results, Try.results34, go_sem]) rfl ⟨rfl, HBl.out _⟩
  · have hlt : 0 < s.size := by omega
    have hcut := toL_cut s 1 (by omega)
    have hem : s.toList.isEmpty = false := by
      rw [ByteArray.toList_eq]
      cases hd : s.data.toList with
      | nil => exact absurd (by show s.data.size = 0; rw [← Array.length_toList, hd]; rfl) h0
      | cons a l => rfl
    obtain ⟨t, ht⟩ : ∃ t, t = s.extract 1 s.size := ⟨_, rfl⟩
    have htl : t.size ≤ maxLen := by rw [ht, size_cut s 1 (by omega)]; unfold maxLen; omega
    have HV : Hid (∀ X, Calls Try.prog 68 #[.string t] X fun e w' => e = .returned (.tuple #[.int .i64 ((M.rdVar t.data.toList).1 : Int), .int .i64 ((M.rdVar t.data.toList).2.1 : Int), .int .i64 ((M.rdVar t.data.toList).2.2 : Int)]) ∧ w' = X) := fun X => bits_Var t X htl
    have hO : ownO s.data.toList = if (M.rdVar t.data.toList).2.2 = 0 ∧ 1 ≤ s[0].toNat ∧ s[0].toNat ≤ 8 ∧ 1 ≤ (M.rdVar t.data.toList).1 ∧ (M.rdVar t.data.toList).1 ≤ 2147483647 then .returned (.tuple #[.agg #[.int .i64 (s[0].toNat : Int), .int .i64 ((M.rdVar t.data.toList).1 : Int)], .int .i64 ((1 + (M.rdVar t.data.toList).2.1 : Nat) : Int), .bool true]) else .returned (.tuple #[.agg #[.int .i64 0, .int .i64 0], .int .i64 0, .bool false]) := by
      rw [ht, hcut]
      conv => lhs; rw [toL_cons s hlt]
      unfold ownO
      rw [Sl.own1]
      split <;> rename_i hq <;> split at hq
      · cases hq
      · rw [if_neg (by assumption)]
      · rw [if_pos (by assumption)]
        simp only [Option.some.injEq, Prod.mk.injEq] at hq
        obtain ⟨rfl, rfl, rfl⟩ := hq
        rfl
      · cases hq
    obtain ⟨hn, hkl, hk9, hx10⟩ := rdVar_top t.data.toList
    obtain ⟨n, hn'⟩ : ∃ n, n = (M.rdVar t.data.toList).1 := ⟨_, rfl⟩
    obtain ⟨k, hk'⟩ : ∃ k, k = (M.rdVar t.data.toList).2.1 := ⟨_, rfl⟩
    obtain ⟨x, hx'⟩ : ∃ x, x = (M.rdVar t.data.toList).2.2 := ⟨_, rfl⟩
    obtain ⟨b, hb'⟩ : ∃ b, b = s[0].toNat := ⟨_, rfl⟩
    rw [← hn', ← hk', ← hx', ← hb'] at hO
    rw [← hn', ← hk', ← hx'] at HV
    rw [← hn'] at hn
    rw [← hk'] at hk9
    rw [hO]
    have hb8 : b < 256 := by rw [hb']; exact s[0].toNat_lt
    have HG : Hid (∀ X, Calls Try.prog 26 #[.int .i64 (b : Int)] X fun e w' => e = .returned (.bool (decide ((1 : Int) ≤ (b : Int)) && decide ((b : Int) ≤ 8))) ∧ w' = X) := fun X => isGroup_c b X
    have hb0 : s[0].toNat = b := hb'.symm
    have htt : s.extract 1 s.size = t := ht.symm
    clear hcut htl hO hkl hx10 hn' hk' hx' hb' ht h0
    by_cases hx : x = 0
    · subst hx
      by_cases hg : 1 ≤ b ∧ b ≤ 8
      · have hg1 : decide ((1 : Int) ≤ (b : Int)) = true := by simp; omega
        have hg2 : decide ((b : Int) ≤ 8) = true := by simp; omega
        by_cases hn1 : n < 1
        · rw [if_neg (by omega)]
          have hn1' : (n : Int) < 1 := by omega
          clear hn
          go_enter Try.func34, Try.ntmps34
          go_wp2_with fail
          refine (HV.out _).mono ?_
          rintro e w2 ⟨rfl, h2⟩
          subst h2
          go_wp2_with fail
          refine (HG.out _).mono ?_
          rintro e w2 ⟨rfl, h2⟩
          subst h2
          go_wp2
          exact bodyPost_ret (v := .tuple #[.agg #[.int .i64 0, .int .i64 0], .int .i64 0, .bool false]) (by simp [results, Try.results34, go_sem]) rfl ⟨rfl, HBl.out _⟩
        · have hn1' : ¬ (n : Int) < 1 := by omega
          by_cases hn2 : n > 2147483647
          · rw [if_neg (by omega)]
            have hn2' : (n : Int) > 2147483647 := by omega
            have hn2'' : decide ((2147483647 : Int) < (n : Int)) = true := by simp; omega
            clear hn hn2
            go_enter Try.func34, Try.ntmps34
            go_wp2_with fail
            refine (HV.out _).mono ?_
            rintro e w2 ⟨rfl, h2⟩
            subst h2
            go_wp2_with fail
            refine (HG.out _).mono ?_
            rintro e w2 ⟨rfl, h2⟩
            subst h2
            go_wp2
            exact bodyPost_ret (v := .tuple #[.agg #[.int .i64 0, .int .i64 0], .int .i64 0, .bool false]) (by simp [results, Try.results34, go_sem]) rfl ⟨rfl, HBl.out _⟩
          · rw [if_pos (by omega)]
            have hn2' : ¬ (n : Int) > 2147483647 := by omega
            have hn2'' : decide ((2147483647 : Int) < (n : Int)) = false := by simp; omega
            clear hn hn2
            go_enter Try.func34, Try.ntmps34
            go_wp2_with fail
            refine (HV.out _).mono ?_
            rintro e w2 ⟨rfl, h2⟩
            subst h2
            go_wp2_with fail
            refine (HG.out _).mono ?_
            rintro e w2 ⟨rfl, h2⟩
            subst h2
            go_wp2
            exact bodyPost_ret (v := .tuple #[.agg #[.int .i64 (b : Int), .int .i64 (n : Int)], .int .i64 (1 + (k : Int)), .bool true]) (by simp [results, Try.results34, go_sem]) rfl ⟨rfl, HBl.out _⟩
      · rw [if_neg (by omega)]
        have hq : (decide ((1 : Int) ≤ (b : Int)) && decide ((b : Int) ≤ 8)) = false := by simp; omega
        clear hn hg
        go_enter Try.func34, Try.ntmps34
        go_wp2_with fail
        refine (HV.out _).mono ?_
        rintro e w2 ⟨rfl, h2⟩
        subst h2
        go_wp2_with fail
        refine (HG.out _).mono ?_
        rintro e w2 ⟨rfl, h2⟩
        subst h2
        go_wp2
        exact bodyPost_ret (v := .tuple #[.agg #[.int .i64 0, .int .i64 0], .int .i64 0, .bool false]) (by simp [results, Try.results34, go_sem]) rfl ⟨rfl, HBl.out _⟩
    · rw [if_neg (by omega)]
      have hx' : ((x : Int) != 0) = true := by simpa using hx
      have hx'' : ((x : Int) == 0) = false := by simpa using hx
      clear hn
      go_enter Try.func34, Try.ntmps34
      go_wp2_with fail
      refine (HV.out _).mono ?_
      rintro e w2 ⟨rfl, h2⟩
      subst h2
      go_wp2
      exact bodyPost_ret (v := .tuple #[.agg #[.int .i64 0, .int .i64 0], .int .i64 0, .bool false]) (by simp [results, Try.results34, go_sem]) rfl ⟨rfl, HBl.out _⟩

end Go.Proofs.Ytmdnegjpdedcnab
