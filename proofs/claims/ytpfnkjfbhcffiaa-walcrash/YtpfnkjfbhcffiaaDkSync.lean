/-
  What Sync answers: all bytes are sure.
-/
import Derived.Test.YtpfnkjfbhcffiaaDkSmall
namespace Go.Proofs.Ytpfnkjfbhcffiaa
open Go.RowKit

theorem Sync_no (w : World) (d : Value) (h : NotMade w d) : Calls Try.prog 25 #[d] w fun e w' => e = .returned (.int .i64 1) ∧ w' = w := by
  have hm := made_no w d h
  clear h
  go_enter Try.func25, Try.ntmps25
  go_wp2_with fail
  refine hm.mono ?_
  rintro e w' ⟨rfl, rfl⟩
  go_wp2
  go_ret
  exact ⟨rfl, rfl⟩

/-- The first k files' bytes are all sure. -/
def syncTo (A : Nat → List UInt8) (S : Nat → Nat) (k : Nat) : Nat → Nat := fun j => if j < k then (A j).length else S j
theorem syncTo_zero (A : Nat → List UInt8) (S : Nat → Nat) : syncTo A S 0 = S := by funext j; simp [syncTo]
theorem syncTo_next (A : Nat → List UInt8) (S : Nat → Nat) (k : Nat) : syncTo A S (k + 1) = upd (syncTo A S k) k (A k).length := by
  funext j
  unfold syncTo upd
  by_cases e : j = k
  · subst e; simp
  · by_cases e2 : j < k
    · simp [e, e2, show j < k + 1 by omega]
    · simp [e, e2, show ¬ j < k + 1 by omega]

/-- One number of sure bytes is another one. -/
theorem DkV.setSure {w : World} {b room : Nat} {A : Nat → List UInt8} {S : Nat → Nat} {own : Nat → Prop} {V : Nat → Value} (h : DkV w b room A S own V) {i s' : Nat} (hi : i < 256) (hs : s' ≤ (A i).length) :
    DkV (w.setCell ⟨b, 2 + i * 2 + 1, none⟩ (.int .i64 (s' : Int))) b room A (upd S i s') own V := by
  have hg := grown_set w b (2 + i * 2 + 1) (.int .i64 (s' : Int))
  refine ⟨Nat.lt_of_lt_of_le h.lt hg.size, ?_, ?_, fun o q => by rw [World.frozen?_setCell]; exact h.froz o q, ?_, ?_, ?_, h.apart, h.mine, ?_, h.fits, h.big⟩
  · rw [cell_set _ (h.sure i hi), if_neg (by omega)]; exact h.roomC
  · rw [cell_set _ (h.sure i hi), if_neg (by omega)]; exact h.used
  · intro j hj
    rw [cell_set _ (h.sure i hi), if_neg (by omega)]; exact h.bytes j hj
  · intro j hj
    rw [cell_set _ (h.sure i hi)]
    by_cases e : j = i
    · subst e; rw [if_pos rfl, upd_same]
    · rw [if_neg (by omega), upd_other S s' e]; exact h.sure j hj
  · intro j hj
    refine (h.row j hj).carry fun k hk => ?_
    have := ((h.row j hj).block hk).1
    exact hg.block k ((h.row j hj).block hk).2 (by intro q; injection q; omega)
  · intro j hj
    by_cases e : j = i
    · subst e; rw [upd_same]; exact hs
    · rw [upd_other S s' e]; exact h.leSure j hj

set_option maxHeartbeats 400000 in
set_option maxRecDepth 20000 in
theorem Sync_yes {w : World} {b room : Nat} {A : Nat → List UInt8} {S : Nat → Nat} {own : Nat → Prop} (h : Dk w b room A S own) :
    Calls Try.prog 25 #[.pointer (some ⟨b, 0, none⟩)] w fun e w' => e = .returned (.int .i64 0) ∧ Dk w' b room A (fun i => if i < 256 then (A i).length else S i) own ∧ Kept b own w w' := by
  have hm := made_yes h
  obtain ⟨V, h⟩ := h
  have HD : Hid (DkV w b room A S own V) := h
  clear h
  go_enter Try.func25, Try.ntmps25
  go_wp2_with fail
  refine hm.mono ?_
  rintro e w0 ⟨rfl, rfl⟩
  go_wp2
  go_loopw [8] (fun i wr => ∃ k : Nat, k ≤ 256 ∧ i = .int .i64 (k : Int) ∧ Hid (DkV wr b room A (syncTo A S k) own V) ∧ Hid (Kept b own w0 wr)) (fun i _ => 256 - (intOf i).toNat)
  case atStart => exact ⟨0, by omega, rfl, by rw [syncTo_zero]; exact HD, Kept.refl _ _ _⟩
  case round =>
    obtain ⟨k, hk, rfl, HV, HK⟩ := hrel
    by_cases hlt : k < 256
    · have h0 := HV.out.bytes k hlt
      have h1 := HV.out.sure k hlt
      have f1 := HV.out.froz (2 + k * 2 + 1) (by omega)
      obtain ⟨ao, cap, hv⟩ := (HV.out.row k hlt).form
      rw [hv] at h0
      obtain ⟨n, hn⟩ : ∃ n, n = (A k).length := ⟨_, rfl⟩
      have HN : Hid (n = (A k).length) := hn
      rw [← hn] at h0
      clear hv hn
      go_wp2
      go_roundw
      case rel =>
        refine ⟨k + 1, by omega, by go_num, ?_, HK.out.setCell _ (.inl rfl) _⟩
        have := HV.out.setSure hlt (s' := n) (by rw [HN.out]; omega)
        rw [syncTo_next, ← HN.out]
        exact this
      case measure => simp [intOf]; omega
    · have e : k = 256 := by omega
      subst e
      go_wp2
      go_ret
      exact ⟨rfl, ⟨V, HV.out⟩, HK.out⟩

end Go.Proofs.Ytpfnkjfbhcffiaa
