/-
  Which records fit: fitsHard, fitsEntry, fitsCut, fitsBase.
-/
import Derived.Test.YtpfnkjfbhcffiaaWlSav
namespace Go.Proofs.Ytpfnkjfbhcffiaa
open Go.RowKit

/-- All blocks that were there are as they were. -/
def Old (w W : World) : Prop := ∀ k, k < w.heap.size → W.heap[k]? = w.heap[k]?
theorem Old.svc {w u : World} {B o : Nat} {s : W.Sv} {v : Value} (hw : Old w u) (h : SvC w B o s v) : SvC u B o s v := h.carry (hw B h.lt)
theorem Old.ent {w u : World} {v : Value} {l : List (Int × ByteArray)} (hw : Old w u) (h : EntV w v l) : EntV u v l := RowV.carry h (fun k hk => hw k (RowV.lt h hk))
theorem old_alloc (w : World) (o : Obj) (n : Nat) : Old w ((w.alloc o).drewN n) := fun k hk => Below.heap_alloc w o k hk
theorem below_allocN (w : World) (o : Obj) (n : Nat) : Below w.heap.size w ((w.alloc o).drewN n) := ⟨rfl, rfl, rfl, by simp, fun k hk => Below.heap_alloc w o k hk⟩
theorem below_allocD (w : World) (o : Obj) : Below w.heap.size w (w.alloc o).drew := (below_alloc w o).drew

theorem fitsHard_c (p : Value) (r : W.Rec) (w : World) : Calls Try.prog 48 #[p, recV r] w fun e w' => e = .returned (.bool true) ∧ Below w.heap.size w w' := by
  obtain ⟨g, k, i, t, v, d⟩ := r
  unfold recV
  dsimp only
  go_enter Try.func48, Try.ntmps48
  go_wp2
  go_ret
  exact ⟨rfl, below_alloc _ _⟩

theorem last_old {w : World} {B o : Nat} {s : W.Sv} {v : Value} (h : SvC w B o s v) (he : EntV w v s.ents) (hok : W.Ok s) :
    ∀ u, Old w u → Calls Try.prog 77 #[.pointer (some ⟨B, o, none⟩)] u fun e w' => e = .returned (.int .i64 (W.last s)) ∧ ∃ m, w' = u.drewN m := by
  intro u hW
  refine (last_c (hW.svc h) (hW.ent he) hok).mono ?_
  rintro e w' ⟨rfl, hw⟩
  exact ⟨rfl, 1, hw⟩
theorem termAt_old {w : World} {B o : Nat} {s : W.Sv} {v : Value} (h : SvC w B o s v) (he : EntV w v s.ents) (hok : W.Ok s) (i : Int) (hi : s.base ≤ i ∧ i ≤ W.last s) :
    ∀ u, Old w u → Calls Try.prog 78 #[.pointer (some ⟨B, o, none⟩), .int .i64 i] u fun e w' => e = .returned (.int .i64 (W.termAt s i)) ∧ ∃ m, w' = u.drewN m :=
  fun _ hW => termAt_c (hW.svc h) (hW.ent he) hok i hi

theorem last_ge {s : W.Sv} : s.base ≤ W.last s := by unfold W.last; omega

set_option maxHeartbeats 400000 in
theorem fitsEntry_c {w : World} {B o : Nat} {s : W.Sv} {v : Value} (h : SvC w B o s v) (he : EntV w v s.ents) (hok : W.Ok s) (r : W.Rec) :
    Calls Try.prog 51 #[.pointer (some ⟨B, o, none⟩), recV r] w fun e w' => e = .returned (.bool (W.fitsEntry s r)) ∧ Below w.heap.size w w' := by
  have H1 : Hid _ := last_old h he hok
  have H2 : Hid _ := termAt_old h he hok (W.last s) ⟨last_ge, Int.le_refl _⟩
  have hl := hok.last
  have hb := hok.base
  have hg := last_ge (s := s)
  unfold W.fitsEntry
  obtain ⟨T, hT⟩ : ∃ T, T = W.termAt s (W.last s) := ⟨_, rfl⟩
  obtain ⟨L, hL⟩ : ∃ L, L = W.last s := ⟨_, rfl⟩
  rw [← hT] at H2 ⊢
  rw [← hL] at H1 H2 hl hg ⊢
  obtain ⟨g, k, i, t, vv, d⟩ := r
  unfold recV
  dsimp only
  have hw : IntKind.i64.wrap (L + 1) = L + 1 := by rw [IntKind.wrap_i64]; omega
  have HO : Hid (∀ o n, Old w ((w.alloc o).drewN n)) := old_alloc w
  by_cases e : i = L + 1
  · have t1 : (i == L + 1) = true := by simpa using e
    rw [t1]
    clear h he hok hT hL hl hb hg e
    go_enter Try.func51, Try.ntmps51
    go_wp2
    go_quiet (first | (go_at_call 77; exact Calls.quiet_of (H1.out _ (HO.out _ _))) | (go_at_call 78; exact Calls.quiet_of (H2.out _ (HO.out _ _))))
    go_wp2
    go_ret
    exact ⟨by simp, below_allocN _ _ _⟩
  · have t1 : (i == L + 1) = false := by simpa using e
    rw [t1]
    clear h he hok hT hL hl hb hg e H2
    go_enter Try.func51, Try.ntmps51
    go_wp2
    go_quiet (first | (go_at_call 77; exact Calls.quiet_of (H1.out _ (HO.out _ _))))
    go_wp2
    go_ret
    exact ⟨rfl, below_allocN _ _ _⟩

set_option maxHeartbeats 400000 in
theorem fitsCut_c {w : World} {B o : Nat} {s : W.Sv} {v : Value} (h : SvC w B o s v) (he : EntV w v s.ents) (hok : W.Ok s) (r : W.Rec) :
    Calls Try.prog 54 #[.pointer (some ⟨B, o, none⟩), recV r] w fun e w' => e = .returned (.bool (W.fitsCut s r)) ∧ Below w.heap.size w w' := by
  have H1 : Hid _ := last_old h he hok
  have h2 := h.c2
  have hlt := h.lt
  unfold W.fitsCut
  obtain ⟨L, hL⟩ : ∃ L, L = W.last s := ⟨_, rfl⟩
  rw [← hL] at H1 ⊢
  obtain ⟨x, hx⟩ : ∃ x, x = s.base := ⟨_, rfl⟩
  rw [← hx] at h2 ⊢
  obtain ⟨g, k, i, t, vv, d⟩ := r
  unfold recV
  dsimp only
  have HO : Hid (∀ o n, Old w ((w.alloc o).drewN n)) := old_alloc w
  by_cases e : x < i
  · have t1 : decide (x < i) = true := by simpa using e
    rw [t1]
    clear h he hok hL hx e
    go_enter Try.func54, Try.ntmps54
    go_wp2
    go_quiet (first | (go_at_call 77; exact Calls.quiet_of (H1.out _ (HO.out _ _))))
    go_wp2
    go_ret
    exact ⟨by simp, below_allocN _ _ _⟩
  · have t1 : decide (x < i) = false := by simpa using e
    rw [t1]
    clear h he hok hL hx e H1
    go_enter Try.func54, Try.ntmps54
    go_wp2
    go_quiet (fail)
    go_wp2
    go_ret
    exact ⟨rfl, below_allocN _ _ _⟩

theorem fitsBase_c {w : World} {B o : Nat} {s : W.Sv} {v : Value} (h : SvC w B o s v) (r : W.Rec) :
    Calls Try.prog 57 #[.pointer (some ⟨B, o, none⟩), recV r] w fun e w' => e = .returned (.bool (W.fitsBase s r)) ∧ Below w.heap.size w w' := by
  have h2 := h.c2
  have hlt := h.lt
  unfold W.fitsBase
  obtain ⟨x, hx⟩ : ∃ x, x = s.base := ⟨_, rfl⟩
  rw [← hx] at h2 ⊢
  obtain ⟨g, k, i, t, vv, d⟩ := r
  unfold recV
  dsimp only
  clear h hx
  go_enter Try.func57, Try.ntmps57
  go_wp2
  go_quiet (fail)
  go_wp2
  go_ret
  exact ⟨rfl, below_allocN _ _ _⟩

end Go.Proofs.Ytpfnkjfbhcffiaa
