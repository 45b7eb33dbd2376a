/-
  What must come, whatever the arguments are, comes (layer 4).
-/
import Derived.Test.YtpalmkneaffklaaFrScan
namespace Go.Proofs.Ytpalmkneaffklaa
open Go.RowKit

set_option maxHeartbeats 400000 in
set_option maxRecDepth 20000 in
theorem awake4 (w : World) : Calls Try.prog 9 #[] w fun e w' => e = .returned (.bool true) ∧ Below w.heap.size w w' := by
  obtain ⟨p, hp⟩ : ∃ p : ByteArray, p = ⟨#[104, 105]⟩ := ⟨_, rfl⟩
  have hps : p.size = 2 := by rw [hp]; rfl
  obtain ⟨s, hs⟩ : ∃ s, s = F.record p := ⟨_, rfl⟩
  have hss : s.size = 11 := by rw [hs, F.record_size, hps]
  have hpu : ∀ W, Calls Try.prog 10 #[.string p] W fun e w' => e = .returned (.tuple #[.string s, .int .i64 0]) ∧ Below W.heap.size W w' := by
    intro W; rw [hs]; exact frame_Put_yes p W (by omega)
  have hta : ∀ W, Calls Try.prog 12 #[.string (s ++ ⟨#[120]⟩)] W fun e w' => e = .returned (.tuple #[.string p, .int .i64 11, .int .i64 0]) ∧ Below W.heap.size W w' := by
    intro W
    have h := frame_Take (s ++ ⟨#[120]⟩) W (by rw [ByteArray.size_append, hss]; decide)
    rw [hs, F.take_record p _ (by omega)] at h
    rw [hs]
    simpa [tookEnd, hps] using h
  have hsc : ∀ W, Calls Try.prog 14 #[.string (s ++ s ++ s.extract 0 5)] W fun e w' => ∃ v, e = .returned (.tuple #[v, .int .i64 22]) ∧ Strs w' v [p, p] ∧ Below W.heap.size W w' := by
    intro W
    have h := frame_Scan (s ++ s ++ s.extract 0 5) W (by rw [ByteArray.size_append, ByteArray.size_append, hss, ← F.toL_length, F.toL_extract, List.length_take]; omega)
    have e : F.scan (s ++ s ++ s.extract 0 5) = ([p, p], 22) := by
      rw [ByteArray.append_assoc, hs, F.scan_record p _ (by omega), F.scan_record p _ (by omega), show (F.record p).extract 0 5 = (F.record p ++ ⟨#[]⟩).extract 0 5 from F.ext (by simp),
        F.scan_no (F.take_cut p ⟨#[]⟩ 5 (by omega) (by omega)), hps]
      rfl
    rw [e] at h
    exact h
  have H1 : Hid _ := hpu
  have H2 : Hid _ := hta
  have H3 : Hid _ := hsc
  have HP : Hid (p = ⟨#[104, 105]⟩) := hp
  clear hpu hta hsc hs hps
  go_enter Try.func9, Try.ntmps9
  go_wp2_with fail
  rw [← hp]
  refine (H1.out _).mono ?_
  rintro e w1 ⟨rfl, hb1⟩
  go_wp2_with fail
  refine (H2.out _).mono ?_
  rintro e w2 ⟨rfl, hb2⟩
  go_wp2_with fail
  refine (H3.out _).mono ?_
  rintro e w3 ⟨v, rfl, ⟨ao, c, rfl, _⟩, hb3⟩
  subst hp
  go_wp2
  go_ret
  exact ⟨rfl, hb1.trans ((hb2.trans (hb3.mono hb2.size)).mono hb1.size)⟩
end Go.Proofs.Ytpalmkneaffklaa
