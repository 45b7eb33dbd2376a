/-
  What must come, whatever the arguments are, comes (layer 2).
-/
import Derived.Test.YtkjmajkmjebhnaaSumCrc
import Derived.Test.YtkjmajkmjebhnaaSumSlot
namespace Go.Proofs.Ytkjmajkmjebhnaa
open Go.RowKit

theorem crc9 : S.crc [49, 50, 51, 52, 53, 54, 55, 56, 57] = 3808858755 := by kernel_rfl
theorem awake_Crc (w : World) : Calls Try.prog 9 #[.string ⟨#[49, 50, 51, 52, 53, 54, 55, 56, 57]⟩] w fun e w' => e = .returned (.int .i64 3808858755) ∧ Below w.heap.size w w' := by
  have h := sums_Crc ⟨#[49, 50, 51, 52, 53, 54, 55, 56, 57]⟩ w (by decide)
  rw [show (⟨#[49, 50, 51, 52, 53, 54, 55, 56, 57]⟩ : ByteArray).data.toList = [49, 50, 51, 52, 53, 54, 55, 56, 57] from rfl, crc9] at h
  exact h

set_option maxHeartbeats 400000 in
theorem awake2 (w : World) : Calls Try.prog 8 #[] w fun e w' => e = .returned (.bool true) ∧ Below w.heap.size w w' := by
  obtain ⟨f, hf⟩ : ∃ f : ByteArray → Int, f = fun s => (S.slot s.data.toList : Int) := ⟨_, rfl⟩
  have h1 : ∀ (s : ByteArray) (w : World), s.size ≤ maxLen → Calls Try.prog 11 #[.string s] w fun e w' => e = .returned (.int .i64 (f s)) ∧ w' = w := by
    intro s w h; rw [hf]; exact sums_Slot s w h
  have h2 : ∀ (s : ByteArray) (w : World), s.size ≤ maxLen → Calls Try.prog 12 #[.string s] w fun e w' => e = .returned (.int .i64 (f s)) ∧ w' = w := by
    intro s w h; rw [hf]; exact ref_Slot s w h
  have H1 : Hid _ := h1
  have H2 : Hid _ := h2
  clear hf h1 h2
  go_enter Try.func8, Try.ntmps8
  go_wp2_with fail
  refine (awake_Crc _).mono ?_
  rintro e w1 ⟨rfl, hb1⟩
  go_wp2_with fail
  refine (H1.out _ _ (by decide)).mono ?_
  rintro e w2 ⟨rfl, rfl⟩
  go_wp2_with fail
  refine (H2.out _ _ (by decide)).mono ?_
  rintro e w2 ⟨rfl, rfl⟩
  go_wp2_with fail
  refine (H1.out _ _ (by decide)).mono ?_
  rintro e w2 ⟨rfl, rfl⟩
  go_wp2_with fail
  refine (H2.out _ _ (by decide)).mono ?_
  rintro e w2 ⟨rfl, rfl⟩
  go_wp2_with fail
  refine (H1.out _ _ (by decide)).mono ?_
  rintro e w2 ⟨rfl, rfl⟩
  go_wp2_with fail
  refine (H2.out _ _ (by decide)).mono ?_
  rintro e w2 ⟨rfl, rfl⟩
  go_wp2
  go_ret
  exact ⟨rfl, hb1⟩
end Go.Proofs.Ytkjmajkmjebhnaa
