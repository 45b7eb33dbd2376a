/-
  Numbers of so many bytes, the last one first: what is put is read back.
-/
import Derived.Test.YtpfnkjfbhcffiaaMath
namespace Go.Proofs.Ytpfnkjfbhcffiaa.M

/-- The number of bytes, the first one the lowest. -/
def le : List UInt8 → Nat
  | [] => 0
  | b :: r => b.toNat + 256 * le r

/-- A number as so many bytes. -/
def putFix : Nat → Nat → List UInt8
  | 0, _ => []
  | m + 1, n => (n % 256).toUInt8 :: putFix m (n / 256)

theorem putFix_length : ∀ (m n : Nat), (putFix m n).length = m
  | 0, _ => rfl
  | m + 1, n => by simp [putFix, putFix_length m (n / 256)]

theorem le_lt : ∀ l : List UInt8, le l < 256 ^ l.length
  | [] => by simp [le]
  | b :: r => by
    have h1 := le_lt r
    have h2 : b.toNat < 256 := b.toNat_lt
    simp only [le, List.length_cons, Nat.pow_succ]
    omega

theorem le_snoc : ∀ (l : List UInt8) (b : UInt8), le (l ++ [b]) = le l + b.toNat * 256 ^ l.length
  | [], b => by simp [le]
  | a :: r, b => by
    simp only [List.cons_append, le, le_snoc r b, List.length_cons, Nat.pow_succ]
    rw [Nat.mul_add, ← Nat.add_assoc]
    congr 1
    rw [Nat.mul_comm 256, Nat.mul_assoc]

theorem le_put : ∀ (m n : Nat), n < 256 ^ m → le (putFix m n) = n
  | 0, n, h => by simp at h; simp [putFix, le, h]
  | m + 1, n, h => by
    have hb : ((n % 256).toUInt8).toNat = n % 256 := byte_of (by omega)
    simp only [putFix, le, hb]
    rw [le_put m (n / 256) (by rw [Nat.div_lt_iff_lt_mul (by omega)]; rw [Nat.pow_succ] at h; exact h)]
    omega

theorem putFix_get : ∀ (m n i : Nat), i < m → (putFix m n)[i]? = some ((n / 256 ^ i % 256).toUInt8)
  | 0, _, _, h => absurd h (by omega)
  | m + 1, n, 0, _ => by simp [putFix]
  | m + 1, n, i + 1, h => by
    simp only [putFix, List.getElem?_cons_succ]
    rw [putFix_get m (n / 256) i (by omega), Nat.div_div_eq_div_mul, Nat.pow_succ, Nat.mul_comm 256]

theorem putFix_snoc : ∀ (m n : Nat), putFix (m + 1) n = putFix m n ++ [(n / 256 ^ m % 256).toUInt8]
  | 0, n => by simp [putFix]
  | m + 1, n => by
    rw [putFix, putFix_snoc m (n / 256), putFix, List.cons_append, Nat.div_div_eq_div_mul, Nat.pow_succ, Nat.mul_comm 256]

/-- Reading a number of so many bytes: the number and the error (0 none, 1 no such size, 5 too short, 10 no number). -/
def rdFix (l : List UInt8) (m : Int) : Nat × Nat :=
  if m < 1 ∨ 8 < m then (0, 1) else if (l.length : Int) < m then (0, 5) else if le (l.take m.toNat) < 9223372036854775808 then (le (l.take m.toNat), 0) else (0, 10)

theorem rdFix_put (m n : Nat) (t : List UInt8) (h1 : 1 ≤ m) (h8 : m ≤ 8) (h : n < 256 ^ m) (hn : n < 9223372036854775808) : rdFix (putFix m n ++ t) (m : Int) = (n, 0) := by
  have hl := putFix_length m n
  have e : (putFix m n ++ t).take m = putFix m n := by
    rw [List.take_append_of_le_length (by omega), List.take_of_length_le (by omega)]
  unfold rdFix
  rw [if_neg (by omega), if_neg (by simp; omega), Int.toNat_natCast, e, le_put m n h, if_pos hn]

end Go.Proofs.Ytpfnkjfbhcffiaa.M
