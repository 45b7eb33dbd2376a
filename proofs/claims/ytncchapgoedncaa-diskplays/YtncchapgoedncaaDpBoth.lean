/-
  Each call on both sides, the program's disk and the document's: the same answer, and the same disk behind it.
-/
import Derived.Test.YtncchapgoedncaaRfNew
import Derived.Test.YtncchapgoedncaaRfSwap2
import Derived.Test.YtncchapgoedncaaDkSwapS
import Derived.Test.YtncchapgoedncaaDkTrim
import Derived.Test.YtncchapgoedncaaDkSurv
namespace Go.Proofs.Ytncchapgoedncaa
open Go.RowKit

/-- The document's disk, written out. -/
abbrev rv (room x1 x2 d1 d2 : Nat) : Value := .agg #[.int .i64 (room : Int), .slice (some ⟨x1, 0, none⟩) 256 d1, .slice (some ⟨x2, 0, none⟩) 256 d2]

/-- A disk of the document's that is as it was, or new. -/
def Rnew (W : World) (room g1 g2 : Nat) (A' : Nat → List UInt8) (S' : Nat → Nat) (w' : World) (x1 x2 d1 d2 : Nat) : Prop :=
  Rf w' (rv room x1 x2 d1 d2) room (tx A') S' x1 x2 d1 d2 ∧ (x1 = g1 ∨ W.heap.size ≤ x1) ∧ (x2 = g2 ∨ W.heap.size ≤ x2) ∧ Below W.heap.size W w'
def Rans (W : World) (room g1 g2 : Nat) (A' : Nat → List UInt8) (S' : Nat → Nat) (f : Int) (e : Ending) (w' : World) : Prop :=
  ∃ x1 x2 d1 d2, e = .returned (.tuple #[rv room x1 x2 d1 d2, .int .i64 f]) ∧ Rnew W room g1 g2 A' S' w' x1 x2 d1 d2
def Rone (W : World) (room g1 g2 : Nat) (A' : Nat → List UInt8) (S' : Nat → Nat) (e : Ending) (w' : World) : Prop :=
  ∃ x1 x2 d1 d2, e = .returned (rv room x1 x2 d1 d2) ∧ Rnew W room g1 g2 A' S' w' x1 x2 d1 d2
def Dans (W : World) (b room : Nat) (A' : Nat → List UInt8) (S' : Nat → Nat) (own : Nat → Prop) (f : Int) (e : Ending) (w' : World) : Prop :=
  e = .returned (.int .i64 f) ∧ Dk w' b room A' S' (since own W) ∧ Kept b own W w'

theorem rans_old {W w' : World} {v : Value} {room g1 g2 c1 c2 : Nat} {A : Nat → List UInt8} {S : Nat → Nat} {f : Int} {e : Ending} (h : Rf W v room (tx A) S g1 g2 c1 c2) (he : e = .returned (.tuple #[v, .int .i64 f])) (hb : Below W.heap.size W w') : Rans W room g1 g2 A S f e w' := by
  have hf := h.form
  subst hf
  exact ⟨g1, g2, c1, c2, he, h.below hb, .inl rfl, .inl rfl, hb⟩
theorem rans_new {W w' : World} {v' : Value} {room g1 g2 x1 x2 d1 d2 : Nat} {T : Nat → ByteArray} {A : Nat → List UInt8} {S : Nat → Nat} {f : Int} {e : Ending} (he : e = .returned (.tuple #[v', .int .i64 f])) (h : Rf w' v' room T S x1 x2 d1 d2) (hT : T = tx A) (h1 : W.heap.size ≤ x1) (h2 : W.heap.size ≤ x2) (hb : Below W.heap.size W w') : Rans W room g1 g2 A S f e w' := by
  have hf := h.form
  subst hf hT
  exact ⟨x1, x2, d1, d2, he, h, .inr h1, .inr h2, hb⟩
theorem dans_same {W w' : World} {b room : Nat} {A : Nat → List UInt8} {S : Nat → Nat} {own : Nat → Prop} {f : Int} {e : Ending} (h : Dk W b room A S own) (he : e = .returned (.int .i64 f)) (hb : Below W.heap.size W w') : Dans W b room A S own f e w' :=
  ⟨he, (h.below hb).wider (fun _ _ o => .inl o), Kept.ofBelow hb⟩
theorem below_drew (W : World) : Below W.heap.size W W.drew := (Below.refl _ W).drew

theorem file_nat {k : Int} (h : ¬ isFile k = false) : ∃ i : Nat, k = (i : Int) ∧ i < 256 := by
  have : isFile k = true := by cases hq : isFile k; exact absurd hq h; rfl
  unfold isFile at this
  have hk := of_decide_eq_true this
  obtain ⟨i, rfl⟩ := Int.eq_ofNat_of_zero_le hk.1
  exact ⟨i, rfl, by omega⟩

theorem sumTo_tx (A : Nat → List UInt8) : ∀ n, sumTo (tx A) n = totTo A n
  | 0 => rfl
  | n + 1 => by rw [sumTo, totTo, sumTo_tx A n, tx_size]
theorem sum_tot (A : Nat → List UInt8) : sumTo (tx A) 256 = tot A := sumTo_tx A 256

/-- What is true of a disk that there is. -/
structure Ok (room : Nat) (A : Nat → List UInt8) (S : Nat → Nat) : Prop where
  fits : tot A ≤ room
  big : room ≤ 16777216
  fair : Fair A S
theorem Dk.ok {W : World} {b room : Nat} {A : Nat → List UInt8} {S : Nat → Nat} {own : Nat → Prop} (h : Dk W b room A S own) : Ok room A S := by
  obtain ⟨V, h⟩ := h
  refine ⟨h.fits, h.big.2, fun j hj => ⟨h.leSure j hj, ?_⟩⟩
  have := h.len hj
  omega

theorem add_both {room b : Nat} {A : Nat → List UInt8} {S : Nat → Nat} (ok : Ok room A S) (k : Int) (s : ByteArray) : ∃ A' S' f,
    (∀ W v g1 g2 c1 c2, Rf W v room (tx A) S g1 g2 c1 c2 → Calls Try.prog 16 #[v, .int .i64 k, .string s] W (Rans W room g1 g2 A' S' f)) ∧
    (∀ W own, Dk W b room A S own → Calls Try.prog 9 #[.pointer (some ⟨b, 0, none⟩), .int .i64 k, .string s] W (Dans W b room A' S' own f)) := by
  by_cases hk : isFile k = false
  · refine ⟨A, S, 1, fun W v g1 g2 c1 c2 h => (ref_Add_out h k s hk).mono ?_, fun W own h => (Add_out h k s hk).mono ?_⟩
    · rintro e w' ⟨he, hb⟩
      exact rans_old h he hb
    · rintro e w' ⟨he, hw⟩
      subst hw
      exact dans_same h he (Below.refl _ _)
  · obtain ⟨i, rfl, hi⟩ := file_nat hk
    have hu := sum_tot A
    have h1 := ok.fits
    have h2 := ok.big
    by_cases hf : room < tot A + s.size
    · refine ⟨A, S, 30, fun W v g1 g2 c1 c2 h => (ref_Add_full h i hi s h2 (by omega) (by omega)).mono ?_, fun W own h => (Add_full h i hi s hf).mono ?_⟩
      · rintro e w' ⟨he, hb⟩
        exact rans_old h he hb
      · rintro e w' ⟨he, hw⟩
        subst hw
        exact dans_same h he (below_drew W)
    · have h3 := ok.fair i hi
      refine ⟨upd A i (A i ++ s.data.toList), S, 0, fun W v g1 g2 c1 c2 h => (ref_Add_yes h i hi s h2 (by rw [tx_size]; exact h3.2) (by omega)).mono ?_, fun W own h => (Add_yes h i hi s (by omega)).mono ?_⟩
      · rintro e w' ⟨v', x1, x2, d1, d2, he, hr, q1, q2, hb⟩
        rw [upd_self] at hr
        exact rans_new he hr (by rw [tx_upd]; simp [tx_list]) q1 q2 hb
      · rintro e w' ⟨he, hd, hkp⟩
        exact ⟨he, hd, hkp⟩

theorem trim_both {room b : Nat} {A : Nat → List UInt8} {S : Nat → Nat} (k m : Int) : ∃ A' S' f,
    (∀ W v g1 g2 c1 c2, Rf W v room (tx A) S g1 g2 c1 c2 → Calls Try.prog 18 #[v, .int .i64 k, .int .i64 m] W (Rans W room g1 g2 A' S' f)) ∧
    (∀ W own, Dk W b room A S own → Calls Try.prog 19 #[.pointer (some ⟨b, 0, none⟩), .int .i64 k, .int .i64 m] W (Dans W b room A' S' own f)) := by
  by_cases hk : isFile k = false ∨ m < 0
  · refine ⟨A, S, 1, fun W v g1 g2 c1 c2 h => (ref_Trim_out h k m hk).mono ?_, fun W own h => (Trim_out h k m hk).mono ?_⟩
    · rintro e w' ⟨he, hb⟩
      exact rans_old h he hb
    · rintro e w' ⟨he, hw⟩
      subst hw
      exact dans_same h he (Below.refl _ _)
  · obtain ⟨i, rfl, hi⟩ := file_nat (fun e => hk (.inl e))
    obtain ⟨m, rfl⟩ := Int.eq_ofNat_of_zero_le (show 0 ≤ m by omega)
    by_cases hp : (A i).length < m
    · refine ⟨A, S, 1, fun W v g1 g2 c1 c2 h => (ref_Trim_past h i m hi (by rw [tx_size]; exact hp)).mono ?_, fun W own h => (Trim_past h i m hi hp).mono ?_⟩
      · rintro e w' ⟨he, hb⟩
        exact rans_old h he hb
      · rintro e w' ⟨he, hw⟩
        subst hw
        exact dans_same h he (Below.refl _ _)
    · refine ⟨upd A i ((A i).take m), upd S i (min (S i) m), 0, fun W v g1 g2 c1 c2 h => (ref_Trim_yes h i m hi (by rw [tx_size]; omega)).mono ?_, fun W own h => (Trim_yes h i m hi (by omega)).mono ?_⟩
      · rintro e w' ⟨v', x1, x2, d1, d2, he, hr, q1, q2, hb⟩
        refine rans_new he hr ?_ q1 q2 hb
        rw [tx_upd, ByteArray.data_extract, Array.toList_extract, List.extract_eq_take_drop, tx_list]
        simp
      · rintro e w' ⟨he, hd, hkp⟩
        exact ⟨he, hd, hkp⟩

theorem swap_both {room b : Nat} {A : Nat → List UInt8} {S : Nat → Nat} (ok : Ok room A S) (k m : Int) : ∃ A' S' f,
    (∀ W v g1 g2 c1 c2, Rf W v room (tx A) S g1 g2 c1 c2 → Calls Try.prog 21 #[v, .int .i64 k, .int .i64 m] W (Rans W room g1 g2 A' S' f)) ∧
    (∀ W own, Dk W b room A S own → Calls Try.prog 11 #[.pointer (some ⟨b, 0, none⟩), .int .i64 k, .int .i64 m] W (Dans W b room A' S' own f)) := by
  by_cases hk : isFile k = false ∨ isFile m = false
  · refine ⟨A, S, 1, fun W v g1 g2 c1 c2 h => (ref_Swap_out h k m hk).mono ?_, fun W own h => (Swap_out h k m hk).mono ?_⟩
    · rintro e w' ⟨he, hb⟩
      exact rans_old h he hb
    · rintro e w' ⟨he, hw⟩
      subst hw
      exact dans_same h he (Below.refl _ _)
  · obtain ⟨i, rfl, hi⟩ := file_nat (fun e => hk (.inl e))
    obtain ⟨j, rfl, hj⟩ := file_nat (fun e => hk (.inr e))
    have fi := ok.fair i hi
    have fj := ok.fair j hj
    have si := tx_size A i
    have sj := tx_size A j
    by_cases hl : S i < (A i).length ∨ S j < (A j).length
    · refine ⟨A, S, 31, fun W v g1 g2 c1 c2 h => (ref_Swap_loose h i j hi hj (by omega)).mono ?_, fun W own h => (Swap_loose h i j hi hj hl).mono ?_⟩
      · rintro e w' ⟨he, hb⟩
        exact rans_old h he hb
      · rintro e w' ⟨he, hb⟩
        exact dans_same h he hb
    · have li : S i = (A i).length := by omega
      have lj : S j = (A j).length := by omega
      by_cases hij : i = j
      · subst hij
        refine ⟨A, S, 0, fun W v g1 g2 c1 c2 h => (ref_Swap_yes h i i hi hi (by omega) (by omega)).mono ?_, fun W own h => (Swap_self h i hi li).mono ?_⟩
        · rintro e w' ⟨v', x1, x2, d1, d2, he, hr, q1, q2, hb⟩
          rw [upd_upd, upd_upd, upd_self, si, ← li, upd_self] at hr
          exact rans_new he hr rfl q1 q2 hb
        · rintro e w' ⟨he, hd, hkp⟩
          exact ⟨he, hd.wider (fun _ _ o => .inl o), hkp⟩
      · refine ⟨swp A i j, swp S i j, 0, fun W v g1 g2 c1 c2 h => (ref_Swap_yes h i j hi hj (by omega) (by omega)).mono ?_, fun W own h => (Swap_yes h i j hi hj ⟨li, lj⟩ hij).mono ?_⟩
        · rintro e w' ⟨v', x1, x2, d1, d2, he, hr, q1, q2, hb⟩
          rw [sj, si, ← lj, ← li, ← swp_eq S hij] at hr
          refine rans_new he hr ?_ q1 q2 hb
          rw [swp_eq A hij, tx_upd, tx_upd, tx_list, tx_list]
        · rintro e w' ⟨he, hd, hkp⟩
          exact ⟨he, hd.wider (fun _ _ o => .inl o), hkp⟩

theorem sync_both {room b : Nat} {A : Nat → List UInt8} {S : Nat → Nat} (ok : Ok room A S) : ∃ S',
    (∀ W v g1 g2 c1 c2, Rf W v room (tx A) S g1 g2 c1 c2 → Calls Try.prog 20 #[v] W (Rone W room g1 g2 A S')) ∧
    (∀ W own, Dk W b room A S own → Calls Try.prog 10 #[.pointer (some ⟨b, 0, none⟩)] W (Dans W b room A S' own 0)) := by
  have e : syncS (tx A) S 256 = fun i => if i < 256 then (A i).length else S i := by
    funext i
    unfold syncS
    rw [tx_size]
  refine ⟨fun i => if i < 256 then (A i).length else S i, fun W v g1 g2 c1 c2 h => (ref_Sync h (fun i hi => by rw [tx_size]; exact (ok.fair i hi).1)).mono ?_, fun W own h => (Sync_yes h).mono ?_⟩
  · rintro e' w' ⟨v', x1, x2, d1, d2, he, hr, q1, q2, hb⟩
    rw [e] at hr
    have hf := hr.form
    subst hf
    exact ⟨x1, x2, d1, d2, he, hr, q1, q2, hb⟩
  · rintro e' w' ⟨he, hd, hkp⟩
    exact ⟨he, hd.wider (fun _ _ o => .inl o), hkp⟩

theorem crash_both {room b : Nat} {A : Nat → List UInt8} {S : Nat → Nat} (ok : Ok room A S) (K : List Int) (turn : Int) : ∃ A' S',
    (∀ W v g1 g2 c1 c2 g kv, Rf W v room (tx A) S g1 g2 c1 c2 → Ints W g kv K → (K ≠ [] → g < W.heap.size) → Calls Try.prog 22 #[v, kv, .int .i64 turn] W (Rone W room g1 g2 A' S')) ∧
    (∀ W own g kv, Dk W b room A S own → Ints W g kv K → (K ≠ [] → g < W.heap.size ∧ g ≠ b ∧ ¬ own g) → Calls Try.prog 12 #[.pointer (some ⟨b, 0, none⟩), kv, .int .i64 turn] W (Dans W b room A' S' own 0)) := by
  refine ⟨(crTo (lowByte turn) ⟨A, S, K⟩ 256).A, (crTo (lowByte turn) ⟨A, S, K⟩ 256).S, fun W v g1 g2 c1 c2 g kv h hK hg => (ref_Crash h ok.fair g kv K turn hK hg).mono ?_, fun W own g kv h hK hg => (Crash_yes h g kv K turn hK hg).mono ?_⟩
  · rintro e' w' ⟨v', x1, x2, d1, d2, he, hr, q1, q2, hb⟩
    have hf := hr.form
    subst hf
    exact ⟨x1, x2, d1, d2, he, hr, q1, q2, hb⟩
  · rintro e' w' ⟨he, hd, hkp⟩
    exact ⟨he, hd, hkp⟩

theorem bytes_both {room b : Nat} {A : Nat → List UInt8} {S : Nat → Nat} (ok : Ok room A S) (k p n : Int) (hn : n ≤ 9223372036854775807) : ∃ s f,
    (∀ W v g1 g2 c1 c2, Rf W v room (tx A) S g1 g2 c1 c2 → Calls Try.prog 17 #[v, .int .i64 k, .int .i64 p, .int .i64 n] W fun e w' => e = .returned (.tuple #[.string s, .int .i64 f]) ∧ Below W.heap.size W w') ∧
    (∀ W own, Dk W b room A S own → Calls Try.prog 13 #[.pointer (some ⟨b, 0, none⟩), .int .i64 k, .int .i64 p, .int .i64 n] W fun e w' => e = .returned (.tuple #[.string s, .int .i64 f]) ∧ w' = W) := by
  by_cases hk : isFile k = false ∨ p < 0 ∨ n < 0
  · exact ⟨⟨#[]⟩, 1, fun W v g1 g2 c1 c2 h => ref_Bytes_out h k p n hk, fun W own h => Bytes_out h k p n hk⟩
  · obtain ⟨i, rfl, hi⟩ := file_nat (fun e => hk (.inl e))
    obtain ⟨p, rfl⟩ := Int.eq_ofNat_of_zero_le (show 0 ≤ p by omega)
    obtain ⟨n, rfl⟩ := Int.eq_ofNat_of_zero_le (show 0 ≤ n by omega)
    have si := tx_size A i
    have fi := ok.fair i hi
    by_cases hp : (A i).length < p + n
    · exact ⟨⟨#[]⟩, 1, fun W v g1 g2 c1 c2 h => ref_Bytes_past h i hi p n (by omega) (by omega), fun W own h => Bytes_past h i hi p n (by omega) hp⟩
    · refine ⟨⟨(((A i).drop p).take n).toArray⟩, 0, fun W v g1 g2 c1 c2 h => ?_, fun W own h => Bytes_yes h i hi p n (by omega)⟩
      have := ref_Bytes_yes h i hi p n (by omega) (by omega)
      have e : (tx A i).extract p (p + n) = ⟨(((A i).drop p).take n).toArray⟩ := by
        refine ByteArray.ext (Array.toList_inj.1 ?_)
        rw [ByteArray.data_extract, Array.toList_extract, List.extract_eq_take_drop, tx_list, Nat.add_sub_cancel_left]
      rw [e] at this
      exact this

end Go.Proofs.Ytncchapgoedncaa
