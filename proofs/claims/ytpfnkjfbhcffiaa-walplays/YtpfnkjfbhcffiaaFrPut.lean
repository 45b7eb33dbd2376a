/-
  What Put does, the program's and the document's: a payload that is not too long becomes its record.
-/
import Derived.Test.YtpfnkjfbhcffiaaRows
import Derived.Test.YtpfnkjfbhcffiaaFixed
import Derived.Test.YtpfnkjfbhcffiaaSumCrc
import Derived.Test.YtpfnkjfbhcffiaaFrMath
namespace Go.Proofs.Ytpfnkjfbhcffiaa
open Go.RowKit

theorem bits_put4 (n : Nat) (w : World) (h : n < 4294967296) :
    Calls Try.prog 88 #[.int .i64 (n : Int), .int .i64 4] w fun e w' => e = .returned (.tuple #[.string (F.fx n), .int .i64 0]) ∧ Below w.heap.size w w' :=
  bits_PutFixed_yes n 4 w (by decide) (by decide) (by have e : (2 : Int) ^ (8 * 4) = 4294967296 := by decide
                                                      rw [e, Int.ediv_eq_zero_of_lt (by omega) (by omega)]; rfl)

theorem crc_call (s : ByteArray) (w : World) (hs : s.size ≤ 1000000000) :
    Calls Try.prog 89 #[.string s] w fun e w' => e = .returned (.int .i64 (F.crcB s : Int)) ∧ Below w.heap.size w w' :=
  sums_Crc s w (by unfold maxLen; omega)

set_option maxHeartbeats 400000 in
theorem frame_Put_no (s : ByteArray) (w : World) (h : 262144 < s.size) :
    Calls Try.prog 83 #[.string s] w fun e w' => e = .returned (.tuple #[.string ⟨#[]⟩, .int .i64 4]) ∧ w' = w := by
  have hd : decide ((262144 : Int) < (s.size : Int)) = true := decide_eq_true (by omega)
  clear h
  go_enter Try.func83, Try.ntmps83
  go_wp2
  go_ret2
  exact ⟨rfl, rfl⟩

set_option maxHeartbeats 400000 in
theorem frame_Put_yes (s : ByteArray) (w : World) (h : s.size ≤ 262144) :
    Calls Try.prog 83 #[.string s] w fun e w' => e = .returned (.tuple #[.string (F.record s), .int .i64 0]) ∧ Below w.heap.size w w' := by
  have hd : decide ((262144 : Int) < (s.size : Int)) = false := decide_eq_false (by omega)
  have HH : Hid (s.size ≤ 262144) := h
  obtain ⟨r, hr⟩ : ∃ r, r = F.record s := ⟨_, rfl⟩
  unfold F.record at hr
  rw [← show r = F.record s from hr]
  have H1 : Hid _ := bits_put4 s.size w (by omega)
  obtain ⟨x, hx⟩ : ∃ x, x = F.fx s.size := ⟨_, rfl⟩
  have hxs : x.size = 4 := by rw [hx, F.fx_size]
  have H2 : Hid _ := fun w => crc_call (x ++ s) w (by rw [ByteArray.size_append]; omega)
  obtain ⟨c, hc⟩ : ∃ c, c = F.crcB (x ++ s) := ⟨_, rfl⟩
  have hcl : c < 4294967296 := by rw [hc]; exact F.crcB_lt _
  have H3 : Hid _ := fun w => bits_put4 c w hcl
  obtain ⟨y, hy⟩ : ∃ y, y = F.fx c := ⟨_, rfl⟩
  have hys : y.size = 4 := by rw [hy, F.fx_size]
  rw [← hx, ← hc, ← hy] at hr
  rw [← hc] at H2
  rw [← hx] at H1
  rw [← hy] at H3
  have HR : Hid (r = ⟨#[82]⟩ ++ x ++ y ++ s) := hr
  clear hr hx hc hy hcl
  go_enter Try.func83, Try.ntmps83
  go_wp2_with fail
  refine Calls.mono H1.out ?_
  rintro e w1 ⟨rfl, hb1⟩
  go_wp2_with fail
  refine (H2.out _).mono ?_
  rintro e w2 ⟨rfl, hb2⟩
  go_wp2_with fail
  refine (H3.out _).mono ?_
  rintro e w3 ⟨rfl, hb3⟩
  go_wp2
  go_ret2
  exact ⟨by rw [HR.out]; rfl, hb1.trans ((hb2.trans (hb3.mono hb2.size)).mono hb1.size)⟩


end Go.Proofs.Ytpfnkjfbhcffiaa
