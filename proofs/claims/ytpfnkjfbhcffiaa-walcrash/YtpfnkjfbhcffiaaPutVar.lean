/-
  What PutVar does, the program's and the document's: of a number from 0 on its bytes, seven bits each; of any other the error 1; nothing that was there is changed.
-/
import Derived.Test.YtpfnkjfbhcffiaaRows
import Derived.Test.YtpfnkjfbhcffiaaOwn
import Derived.Test.YtpfnkjfbhcffiaaMath
namespace Go.Proofs.Ytpfnkjfbhcffiaa
open Go.RowKit

theorem info8 : (Try.prog.info? 5).map (fun i => (i.zero, i.size, i.bytes)) = some (some (.int .u8 0), 1, 1) := by kernel_rfl

theorem ret2s {a b : List UInt8} (h : a = b) : Ending.returned (.tuple #[.string ⟨a.toArray⟩, .int .i64 0]) = .returned (.tuple #[.string ⟨b.toArray⟩, .int .i64 0]) := by rw [h]

theorem put_step {l : List UInt8} {m n : Nat} (h : ¬ m < 128) (e : l ++ M.putVar m = M.putVar n) : (l ++ [(m % 128 + 128).toUInt8]) ++ M.putVar (m / 128) = M.putVar n := by
  rw [M.putVar_ge h] at e
  rw [← e]; simp

theorem put_last {l : List UInt8} {m n : Nat} (h : m < 128) (e : l ++ M.putVar m = M.putVar n) : l ++ [m.toUInt8] = M.putVar n := by
  rw [M.putVar_lt h] at e
  exact e

theorem put_len {l : List UInt8} {m n : Nat} (hn : n < 9223372036854775808) (e : l ++ M.putVar m = M.putVar n) : l.length ≤ 9 := by
  have h := M.putVar_length 8 n (by simpa using hn)
  rw [← e] at h
  simp at h; omega

set_option maxHeartbeats 400000 in
theorem bits_PutVar_no (n : Int) (w : World) (h : n < 0) :
    Calls Try.prog 82 #[.int .i64 n] w fun e w' => e = .returned (.tuple #[.string ⟨#[]⟩, .int .i64 1]) ∧ w' = w := by
  go_enter Try.func82, Try.ntmps82
  go_wp2
  go_ret2
  exact ⟨rfl, rfl⟩

set_option maxHeartbeats 400000 in
theorem bits_PutVar_yes (n : Nat) (w : World) (hn : n < 9223372036854775808) :
    Calls Try.prog 82 #[.int .i64 (n : Int)] w fun e w' => e = .returned (.tuple #[.string ⟨(M.putVar n).toArray⟩, .int .i64 0]) ∧ Below w.heap.size w w' := by
  have hn0 : ¬ (n : Int) < 0 := by omega
  have HN : Hid (n < 9223372036854775808) := hn
  go_enter Try.func82, Try.ntmps82
  go_wp2
  go_loopw [0, 4] (fun t v wr => ∃ (m : Nat) (l : List UInt8), t = .int .i64 (m : Int) ∧ m ≤ n ∧ OwnB wr w.heap.size 5 v l ∧ Hid (l ++ M.putVar m = M.putVar n) ∧ Below w.heap.size w wr)
    (fun t _ _ => (intOf t).toNat)
  case atStart => exact ⟨n, [], rfl, Nat.le_refl _, OwnB.nil _ _ _, rfl, Below.refl _ _⟩
  case round =>
    obtain ⟨m, l, rfl, hm, hown, he, hb⟩ := hrel
    have hl := put_len HN.out he.out
    have hsz := hb.size
    by_cases hlt : m < 128
    · have hlt' : ¬ (128 : Int) ≤ (m : Int) := by omega
      go_wp2_with (at_builtin; refine wpList_push rfl _ _ 60 5 9 rfl Try.underlying60 Try.underlying5 Try.underlying9 info8 w.heap.size _ l rfl hown (m : Int) (by omega) rfl (by omega) hsz ?_; intro v' w1 ho1 hb1 hc1)
      go_ret2
      have e1 : l ++ [((m : Int).toNat).toUInt8] = M.putVar n := by rw [Int.toNat_natCast]; exact put_last hlt he.out
      exact ⟨ret2s e1, hb.trans hb1⟩
    · have hlt' : (128 : Int) ≤ (m : Int) := by omega
      go_wp2_with (at_builtin; refine wpList_push rfl _ _ 60 5 9 rfl Try.underlying60 Try.underlying5 Try.underlying9 info8 w.heap.size _ l rfl hown ((m : Int) % 128 + 128) (by omega) rfl (by omega) hsz ?_; intro v' w1 ho1 hb1 hc1)
      have e1 : (l ++ [((m : Int) % 128 + 128).toNat.toUInt8]) ++ M.putVar (m / 128) = M.putVar n := by
        rw [show ((m : Int) % 128 + 128).toNat = m % 128 + 128 from by omega]; exact put_step hlt he.out
      go_roundw
      case rel => exact ⟨m / 128, _, by go_num, by omega, ho1, e1, hb.trans hb1⟩
      case measure => simp [intOf]; omega

end Go.Proofs.Ytpfnkjfbhcffiaa
