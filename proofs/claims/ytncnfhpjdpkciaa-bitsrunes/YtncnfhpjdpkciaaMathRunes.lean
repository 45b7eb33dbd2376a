/-
  Each sign's bytes: they are a text just where there is such a sign; with the last one left out they are none.
-/
import Derived.Test.YtncnfhpjdpkciaaMathUtf
namespace Go.Proofs.Ytncnfhpjdpkciaa.M

def good (k : Nat) : Bool := decide (k ≤ 1114111 ∧ (k < 55296 ∨ 57343 < k))

def enc1 (k : Nat) : List UInt8 := [k.toUInt8]
def enc2 (k : Nat) : List UInt8 := [(192 + k / 64).toUInt8, (128 + k % 64).toUInt8]
def enc3 (k : Nat) : List UInt8 := [(224 + k / 4096).toUInt8, (128 + k / 64 % 64).toUInt8, (128 + k % 64).toUInt8]
def enc4 (k : Nat) : List UInt8 := [(240 + k / 262144).toUInt8, (128 + k / 4096 % 64).toUInt8, (128 + k / 64 % 64).toUInt8, (128 + k % 64).toUInt8]

def cutB2 (k : Nat) : List UInt8 := [(192 + k / 64).toUInt8]
def cutB3 (k : Nat) : List UInt8 := [(224 + k / 4096).toUInt8, (128 + k / 64 % 64).toUInt8]
def cutB4 (k : Nat) : List UInt8 := [(240 + k / 262144).toUInt8, (128 + k / 4096 % 64).toUInt8, (128 + k / 64 % 64).toUInt8]

theorem cont_of {a : Nat} (h1 : 128 ≤ a) (h2 : a ≤ 191) : cont a.toUInt8 = true := by
  unfold cont
  rw [byte_of (by omega)]
  exact decide_eq_true ⟨h1, h2⟩

theorem mv_first {b : UInt8} {c : Ch} (h : char0 b.toNat = some c) (r : List UInt8) : mValid ⟨0, 0, 0⟩ (b :: r) = mValid c r := by
  rw [mv_cons, if_pos rfl, h]

theorem mv_ascii {a : Nat} (h : a < 128) (r : List UInt8) : mValid ⟨0, 0, 0⟩ (a.toUInt8 :: r) = mValid ⟨0, 0, 0⟩ r :=
  mv_first (by rw [byte_of (by omega)]; unfold char0; rw [if_pos h]) r

theorem lead2 {k : Nat} (h1 : 128 ≤ k) (h2 : k < 2048) : char0 ((192 + k / 64).toUInt8).toNat = some ⟨1, k / 64, 128⟩ := by
  rw [byte_of (by omega)]
  unfold char0
  rw [if_neg (by omega), if_pos (by omega), show (192 + k / 64) % 32 = k / 64 from by omega]

theorem lead3 {k : Nat} (h1 : 2048 ≤ k) (h2 : k < 65536) : char0 ((224 + k / 4096).toUInt8).toNat = some ⟨2, k / 4096, 2048⟩ := by
  rw [byte_of (by omega)]
  unfold char0
  rw [if_neg (by omega), if_neg (by omega), if_pos (by omega), show (224 + k / 4096) % 16 = k / 4096 from by omega]

theorem lead4 {k : Nat} (h1 : 65536 ≤ k) (h2 : k < 2097152) : char0 ((240 + k / 262144).toUInt8).toNat = some ⟨3, k / 262144, 65536⟩ := by
  rw [byte_of (by omega)]
  unfold char0
  rw [if_neg (by omega), if_neg (by omega), if_neg (by omega), if_pos (by omega), show (240 + k / 262144) % 8 = k / 262144 from by omega]

theorem low6 (a : Nat) : ((128 + a % 64).toUInt8).toNat % 64 = a % 64 := by
  rw [byte_of (by omega)]; omega

theorem enc1_valid {k : Nat} (h : k < 128) (t : List UInt8) : mValid ⟨0, 0, 0⟩ (enc1 k ++ t) = (good k && mValid ⟨0, 0, 0⟩ t) := by
  show mValid ⟨0, 0, 0⟩ (k.toUInt8 :: t) = _
  rw [mv_ascii h, show good k = true from decide_eq_true (by omega), Bool.true_and]

theorem ite_and (p : Prop) [Decidable p] (b : Bool) : (if p then b else false) = (decide p && b) := by
  by_cases h : p <;> simp [h]

theorem enc2_valid {k : Nat} (h1 : 128 ≤ k) (h2 : k < 2048) (t : List UInt8) : mValid ⟨0, 0, 0⟩ (enc2 k ++ t) = (good k && mValid ⟨0, 0, 0⟩ t) := by
  show mValid ⟨0, 0, 0⟩ ((192 + k / 64).toUInt8 :: (128 + k % 64).toUInt8 :: t) = _
  rw [mv_first (lead2 h1 h2), mv_last rfl _ _ (cont_of (by omega) (by omega)), low6, show k / 64 * 64 + k % 64 = k from by omega, ite_and]
  congr 1
  rw [Bool.eq_iff_iff]
  simp [good, fits]; omega

theorem enc3_valid {k : Nat} (h1 : 2048 ≤ k) (h2 : k < 65536) (t : List UInt8) : mValid ⟨0, 0, 0⟩ (enc3 k ++ t) = (good k && mValid ⟨0, 0, 0⟩ t) := by
  show mValid ⟨0, 0, 0⟩ ((224 + k / 4096).toUInt8 :: (128 + k / 64 % 64).toUInt8 :: (128 + k % 64).toUInt8 :: t) = _
  rw [mv_first (lead3 h1 h2), mv_more (by simp) _ _ (cont_of (by omega) (by omega)), mv_last rfl _ _ (cont_of (by omega) (by omega)), low6, low6]
  simp only
  rw [show (k / 4096 * 64 + k / 64 % 64) * 64 + k % 64 = k from by omega, ite_and]
  congr 1
  rw [Bool.eq_iff_iff]
  simp [good, fits]; omega

theorem enc4_valid {k : Nat} (h1 : 65536 ≤ k) (h2 : k < 2097152) (t : List UInt8) : mValid ⟨0, 0, 0⟩ (enc4 k ++ t) = (good k && mValid ⟨0, 0, 0⟩ t) := by
  show mValid ⟨0, 0, 0⟩ ((240 + k / 262144).toUInt8 :: (128 + k / 4096 % 64).toUInt8 :: (128 + k / 64 % 64).toUInt8 :: (128 + k % 64).toUInt8 :: t) = _
  rw [mv_first (lead4 h1 h2), mv_more (by simp) _ _ (cont_of (by omega) (by omega)), mv_more (by simp) _ _ (cont_of (by omega) (by omega)), mv_last rfl _ _ (cont_of (by omega) (by omega)), low6, low6, low6]
  simp only
  rw [show ((k / 262144 * 64 + k / 4096 % 64) * 64 + k / 64 % 64) * 64 + k % 64 = k from by omega, ite_and]
  congr 1
  rw [Bool.eq_iff_iff]
  simp [good, fits]; omega

theorem cut2 {k : Nat} (h1 : 128 ≤ k) (h2 : k < 2048) : mValid ⟨0, 0, 0⟩ (cutB2 k) = false := by
  unfold cutB2
  rw [mv_first (lead2 h1 h2)]; rfl

theorem cut3 {k : Nat} (h1 : 2048 ≤ k) (h2 : k < 65536) : mValid ⟨0, 0, 0⟩ (cutB3 k) = false := by
  unfold cutB3
  rw [mv_first (lead3 h1 h2), mv_more (by simp) _ _ (cont_of (by omega) (by omega))]; rfl

theorem cut4 {k : Nat} (h1 : 65536 ≤ k) (h2 : k < 2097152) : mValid ⟨0, 0, 0⟩ (cutB4 k) = false := by
  unfold cutB4
  rw [mv_first (lead4 h1 h2), mv_more (by simp) _ _ (cont_of (by omega) (by omega)), mv_more (by simp) _ _ (cont_of (by omega) (by omega))]; rfl

end Go.Proofs.Ytncnfhpjdpkciaa.M
