/-
  What Fixed and PutFixed do, the program's and the document's: a number of so many bytes, and back.
-/
import Derived.Test.YtpfnkjfbhcffiaaRows
import Derived.Test.YtpfnkjfbhcffiaaPutVar
import Derived.Test.YtpfnkjfbhcffiaaMathFix
namespace Go.Proofs.Ytpfnkjfbhcffiaa
open Go.RowKit

set_option maxHeartbeats 400000 in
theorem bits_PutFixed_a (n m : Int) (w : World) (h : m < 1) :
    Calls Try.prog 88 #[.int .i64 n, .int .i64 m] w fun e w' => e = .returned (.tuple #[.string ⟨#[]⟩, .int .i64 1]) ∧ w' = w := by
  go_enter Try.func88, Try.ntmps88
  go_wp2
  go_ret2
  exact ⟨rfl, rfl⟩

set_option maxHeartbeats 400000 in
theorem bits_PutFixed_b (n m : Int) (w : World) (h : 8 < m) :
    Calls Try.prog 88 #[.int .i64 n, .int .i64 m] w fun e w' => e = .returned (.tuple #[.string ⟨#[]⟩, .int .i64 1]) ∧ w' = w := by
  go_enter Try.func88, Try.ntmps88
  go_wp2
  go_ret2
  exact ⟨rfl, rfl⟩

set_option maxHeartbeats 400000 in
theorem bits_PutFixed_c (n m : Int) (w : World) (h1 : 1 ≤ m) (h8 : m ≤ 8) (h : n < 0) :
    Calls Try.prog 88 #[.int .i64 n, .int .i64 m] w fun e w' => e = .returned (.tuple #[.string ⟨#[]⟩, .int .i64 1]) ∧ w' = w := by
  go_enter Try.func88, Try.ntmps88
  go_wp2
  go_ret2
  exact ⟨rfl, rfl⟩

set_option maxHeartbeats 400000 in
set_option maxRecDepth 20000 in
theorem bits_PutFixed_d (n m : Nat) (w : World) (h1 : 1 ≤ m) (h8 : m ≤ 8) (h : ((n : Int) / 2 ^ (8 * m) != 0) = true) :
    Calls Try.prog 88 #[.int .i64 (n : Int), .int .i64 (m : Int)] w fun e w' => e = .returned (.tuple #[.string ⟨#[]⟩, .int .i64 1]) ∧ w' = w := by
  go_enter Try.func88, Try.ntmps88
  go_wp2
  go_ret2
  exact ⟨rfl, rfl⟩

/-- The row of m bytes, k of them written. -/
def fixRow (n m k : Nat) : List UInt8 := M.putFix k n ++ List.replicate (m - k) 0

theorem fixRow_zero (n m : Nat) : Lib.byteCells (fixRow n m 0) = (madeCells (Value.int .u8 0).cells (m * 1)).toList := by
  have e : (Value.int .u8 0).cells = #[Value.int .u8 0] := rfl
  rw [e, toList_madeCells_one]
  simp [fixRow, M.putFix, Lib.byteCells]

theorem fixRow_length {n m k : Nat} (h : k ≤ m) : (fixRow n m k).length = m := by
  simp [fixRow, M.putFix_length]; omega

theorem fixRow_set {n m k : Nat} (h : k < m) (x : Int) (hx : x = ((n / 256 ^ k % 256 : Nat) : Int)) : (Lib.byteCells (fixRow n m k)).set k (.int .u8 x) = Lib.byteCells (fixRow n m (k + 1)) := by
  subst hx
  obtain ⟨d, hd⟩ : ∃ d, m - k = d + 1 := ⟨m - k - 1, by omega⟩
  have e1 : fixRow n m k = M.putFix k n ++ 0 :: List.replicate d 0 := by unfold fixRow; rw [hd]; rfl
  have e2 : fixRow n m (k + 1) = M.putFix k n ++ (n / 256 ^ k % 256).toUInt8 :: List.replicate d 0 := by
    unfold fixRow
    rw [M.putFix_snoc, show m - (k + 1) = d by omega]; simp
  rw [e1, e2]
  unfold Lib.byteCells
  rw [List.map_append, List.map_append, List.set_append_right _ _ (by simp [M.putFix_length])]
  simp only [List.length_map, M.putFix_length, Nat.sub_self, List.map_cons, List.set_cons_zero]
  rw [byte_toNat (by omega)]

theorem shr_byte (n k : Nat) : IntKind.u8.wrap ((n : Int) / 2 ^ (8 * k)) = ((n / 256 ^ k % 256 : Nat) : Int) := by
  rw [IntKind.wrap_u8, Int.pow_mul]
  simp

set_option maxHeartbeats 400000 in
set_option maxRecDepth 20000 in
theorem bits_PutFixed_yes (n m : Nat) (w : World) (h1 : 1 ≤ m) (h8 : m ≤ 8) (h : ((n : Int) / 2 ^ (8 * m) != 0) = false) :
    Calls Try.prog 88 #[.int .i64 (n : Int), .int .i64 (m : Int)] w fun e w' => e = .returned (.tuple #[.string ⟨(M.putFix m n).toArray⟩, .int .i64 0]) ∧ Below w.heap.size w w' := by
  obtain ⟨i0, hi, hz0, hz1, hz2⟩ := info_parts info8
  go_enter Try.func88, Try.ntmps88
  go_wp2_with (at_make; refine wpList_make_full _ rfl _ _ 60 rfl w.heap.size 5 i0 (.int .u8 0) 1 Try.underlying60 hi hz0 hz1 .i64 .i64 (m : Int) (m : Int) m rfl rfl rfl rfl (by rw [hz2]; omega) (by unfold maxLen; omega) (Nat.le_refl _) ?_; intro w1 ho1 hg1)
  rw [← fixRow_zero n m] at ho1
  have hb1 : Below w.heap.size w w1 := (Below.refl _ _).grown hg1 (Nat.le_refl _) (by intro k hk; cases hk)
  clear hg1
  go_loopw [28] (fun i wr => ∃ k : Nat, k ≤ m ∧ i = .int .i64 (k : Int) ∧ wr.ownsRow w.heap.size 5 1 (.slice (some ⟨w.heap.size, 0, none⟩) m m) m (Lib.byteCells (fixRow n m k)) ∧ Below w.heap.size w wr)
    (fun i _ => m - (intOf i).toNat)
  case atStart => exact ⟨0, Nat.zero_le _, rfl, ho1, hb1⟩
  case round =>
    obtain ⟨k, hk, rfl, hown, hb⟩ := hrel
    clear ho1 hb1
    by_cases hlt : k < m
    · have hc := hown.cellAt k (by omega)
      have hf := hown.frozenAt k
      have hst := hown.stored k (.int .u8 (IntKind.u8.wrap ((n : Int) / 2 ^ (8 * k))))
      rw [show (Lib.byteCells (fixRow n m k))[k]? = some (.int .u8 (((fixRow n m k)[k]'(by rw [fixRow_length hk]; exact hlt)).toNat : Int)) from by simp [Lib.byteCells, fixRow_length hk, hlt]] at hc
      rw [fixRow_set hlt _ (shr_byte n k)] at hst
      have HS : Hid _ := hst
      clear hst hown
      go_wp2
      go_roundw
      case rel => exact ⟨k + 1, by omega, by go_num, HS.out.1, hb.setCell (by simp) _⟩
      case measure => simp [intOf]; omega
    · have hkm : k = m := by omega
      subst hkm
      have hown' : OwnB wr w.heap.size 5 (.slice (some ⟨w.heap.size, 0, none⟩) k k) (M.putFix k n) := by
        unfold OwnB
        rw [M.putFix_length]
        simpa [fixRow] using hown
      have hcv := hown'.conv (P := Try.prog) (by intro e; have := M.putFix_length k n; rw [e] at this; simp at this; omega) 60 9 Try.underlying60 Try.underlying5 Try.underlying9
      clear hown hown'
      go_wp2
      go_ret2
      exact ⟨rfl, hb⟩

end Go.Proofs.Ytpfnkjfbhcffiaa
