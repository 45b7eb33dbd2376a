/-
  The document's raft log: End, Entry, Newer, New.
-/
import Derived.Test.YtamoapbbkaagdaaRlRef
namespace Go.Proofs.Ytamoapbbkaagdaa
open Go.RowKit

theorem termE_end {s : G.L} : G.termE s (G.last s) = 0 := by
  unfold G.termE
  rw [G.within_zero]
  unfold G.last
  omega

/-- The block of a log that came in by value. -/
structure LogAt (w X : World) (bx : Nat) (s : G.L) (v : Value) : Prop where
  old : Below w.heap.size w X
  lt : bx < X.heap.size
  c : ∀ j, X.cell? ⟨bx, j, none⟩ = (#[.int .i64 s.base, .int .i64 s.term, v] : Array Value)[j]?

theorem LogAt.start (w : World) (s : G.L) (v : Value) (t : TypeId) : LogAt w (w.alloc (.cells #[.int .i64 s.base, .int .i64 s.term, v] t)) w.heap.size s v := ⟨below_alloc _ _, by simp, fun j => World.cell?_alloc_mark w _ _ _ j⟩
theorem LogAt.below {w X Y : World} {bx : Nat} {s : G.L} {v : Value} (h : LogAt w X bx s v) (hb : Below X.heap.size X Y) : LogAt w Y bx s v :=
  ⟨h.old.trans (hb.mono h.old.size), Nat.lt_of_lt_of_le h.lt hb.size, fun j => (hb.cell (p := ⟨bx, j, none⟩) h.lt).trans (h.c j)⟩

section
variable {w : World} {s : G.L} {v : Value}

set_option maxHeartbeats 400000 in
theorem rEnd_c (h : EntR w v s.ents) (ok : G.Ok s) : Calls Try.prog 38 #[logV s v] w fun e w' => e = .returned (.int .i64 (G.termAt s (G.last s))) ∧ Below w.heap.size w w' := by
  have HL : Hid (∀ bx u, LogAt w u bx s v → Calls Try.prog 30 #[logV s v] u fun e w' => e = .returned (.int .i64 (G.last s)) ∧ LogAt w w' bx s v) := fun bx u hu => (rLast_c (h.below hu.old) ok).mono (by rintro e w' ⟨he, hb⟩; exact ⟨he, hu.below hb⟩)
  have HT : Hid (∀ bx u, LogAt w u bx s v → Calls Try.prog 25 #[logV s v, .int .i64 (G.last s)] u fun e w' => e = .returned (.tuple #[.int .i64 (G.termAt s (G.last s)), .int .i64 0]) ∧ LogAt w w' bx s v) := fun bx u hu => (rTerm_c (h.below hu.old) ok (G.last s)).mono (by
    rintro e w' ⟨he, hb⟩
    unfold G.termA at he
    rw [termE_end, if_pos rfl] at he
    exact ⟨he, hu.below hb⟩)
  obtain ⟨p, c, hv, hc1, hc2, hc3⟩ := h
  generalize G.termAt s (G.last s) = t0 at HT ⊢
  generalize G.last s = ll at HL HT
  obtain ⟨n, hn⟩ : ∃ n, n = s.ents.length := ⟨_, rfl⟩
  rw [← hn] at hv
  subst hv
  have HS := LogAt.start w s (.slice p n c) 30
  obtain ⟨b, t, l⟩ := s
  unfold logV at *
  dsimp only at *
  obtain ⟨u, hu⟩ : ∃ u, u = w.alloc (.cells #[.int .i64 b, .int .i64 t, .slice p n c] 30) := ⟨_, rfl⟩
  obtain ⟨bx, hbx⟩ : ∃ bx, bx = w.heap.size := ⟨_, rfl⟩
  rw [← hu, ← hbx] at HS
  have hgd : LogAt w u.drew bx ⟨b, t, l⟩ (.slice p n c) := HS.below (below_drewN _ 1)
  have HK : Hid (∀ X, LogAt w X bx ⟨b, t, l⟩ (.slice p n c) → X.cell? ⟨bx, 0, none⟩ = some (.int .i64 b) ∧ X.cell? ⟨bx, 1, none⟩ = some (.int .i64 t) ∧ X.cell? ⟨bx, 2, none⟩ = some (.slice p n c)) := fun X hX => ⟨hX.c 0, hX.c 1, hX.c 2⟩
  clear hc1 hc2 hc3 hn ok HS
  go_enter Try.func38, Try.ntmps38
  go_wp2
  rw [← hu]
  try rw [← hbx]
  clear hu hbx
  go_region_held (fun X => X.cell? ⟨bx, 0, none⟩ = some (.int .i64 b) ∧ X.cell? ⟨bx, 1, none⟩ = some (.int .i64 t) ∧ X.cell? ⟨bx, 2, none⟩ = some (.slice p n c))
    (exact HK.out _ (by assumption))
    (first
      | (go_at_call 30; refine (HL.out bx _ ?_).mono ?_; assumption; rintro e w5 ⟨rfl, hg5⟩)
      | (go_at_call 25; refine (HT.out bx _ ?_).mono ?_; assumption; rintro e w6 ⟨rfl, hg6⟩))
  have HO : Hid _ := hg6.old
  clear hg5 hg6 hgd
  go_wp2
  go_ret
  exact ⟨rfl, HO.out⟩

end
end Go.Proofs.Ytamoapbbkaagdaa
