/-
  The document's raft log: New, Entry, Newer.
-/
import Derived.Test.YtamoapbbkaagdaaRlRef2
namespace Go.Proofs.Ytamoapbbkaagdaa
open Go.RowKit

/-- Three cells set anew. -/
theorem below_set3 {B bx : Nat} {w u : World} (h : Below B w u) (hb : B ≤ bx) (x y z : Value) : Below B w (((u.setCell ⟨bx, 0, none⟩ x).setCell ⟨bx, 1, none⟩ y).setCell ⟨bx, 2, none⟩ z) :=
  ((h.setCell (p := ⟨bx, 0, none⟩) hb x).setCell (p := ⟨bx, 1, none⟩) hb y).setCell (p := ⟨bx, 2, none⟩) hb z

set_option maxHeartbeats 400000 in
theorem rNew_yes (w : World) (b t : Int) (hb : 0 ≤ b ∧ b ≤ 1099511627776 ∧ 0 ≤ t ∧ t ≤ 1099511627776) :
    Calls Try.prog 10 #[.int .i64 b, .int .i64 t] w fun e w' => e = .returned (.tuple #[.agg #[.int .i64 b, .int .i64 t, .slice none 0 0], .int .i64 0]) ∧ Below w.heap.size w w' := by
  have d1 : decide (b < 0) = false := decide_eq_false (by omega)
  have d2 : decide (1099511627776 < b) = false := decide_eq_false (by omega)
  have d3 : decide (t < 0) = false := decide_eq_false (by omega)
  have d4 : decide (1099511627776 < t) = false := decide_eq_false (by omega)
  clear hb
  go_enter Try.func10, Try.ntmps10
  go_wp2
  refine bodyPost_ret (v := .tuple #[.agg #[.int .i64 b, .int .i64 t, .slice none 0 0], .int .i64 0]) ?qres rfl ?qpost
  case qres => simp [results, Try.results10, go_sem]
  case qpost => exact ⟨rfl, by first | exact below_alloc _ _ | exact below_set3 (below_alloc _ _) (Nat.le_refl _) _ _ _⟩

theorem rNew_bad (w : World) (b t : Int) (hb : ¬ (0 ≤ b ∧ b ≤ 1099511627776 ∧ 0 ≤ t ∧ t ≤ 1099511627776)) :
    Calls Try.prog 10 #[.int .i64 b, .int .i64 t] w fun e w' => e = .returned (.tuple #[.agg #[.int .i64 0, .int .i64 0, .slice none 0 0], .int .i64 1]) ∧ Below w.heap.size w w' := by
  have k1 : ∀ c : Prop, [Decidable c] → c → decide c = true := fun c _ h => decide_eq_true h
  have k2 : ∀ c : Prop, [Decidable c] → ¬ c → decide c = false := fun c _ h => decide_eq_false h
  by_cases c1 : b < 0
  · have d1 := k1 (b < 0) c1
    clear c1 hb k1 k2
    go_enter Try.func10, Try.ntmps10
    go_wp2
    refine bodyPost_ret (v := .tuple #[.agg #[.int .i64 0, .int .i64 0, .slice none 0 0], .int .i64 1]) ?qres rfl ?qpost
    case qres => simp [results, Try.results10, go_sem]
    case qpost => exact ⟨rfl, by first | exact below_alloc _ _ | exact below_set3 (below_alloc _ _) (Nat.le_refl _) _ _ _⟩
  · have d1 := k2 (b < 0) c1
    by_cases c2 : 1099511627776 < b
    · have d2 := k1 (1099511627776 < b) c2
      clear c1 c2 hb k1 k2
      go_enter Try.func10, Try.ntmps10
      go_wp2
      refine bodyPost_ret (v := .tuple #[.agg #[.int .i64 0, .int .i64 0, .slice none 0 0], .int .i64 1]) ?qres rfl ?qpost
      case qres => simp [results, Try.results10, go_sem]
      case qpost => exact ⟨rfl, by first | exact below_alloc _ _ | exact below_set3 (below_alloc _ _) (Nat.le_refl _) _ _ _⟩
    · have d2 := k2 (1099511627776 < b) c2
      by_cases c3 : t < 0
      · have d3 := k1 (t < 0) c3
        clear c1 c2 c3 hb k1 k2
        go_enter Try.func10, Try.ntmps10
        go_wp2
        refine bodyPost_ret (v := .tuple #[.agg #[.int .i64 0, .int .i64 0, .slice none 0 0], .int .i64 1]) ?qres rfl ?qpost
        case qres => simp [results, Try.results10, go_sem]
        case qpost => exact ⟨rfl, by first | exact below_alloc _ _ | exact below_set3 (below_alloc _ _) (Nat.le_refl _) _ _ _⟩
      · have d3 := k2 (t < 0) c3
        have d4 := k1 (1099511627776 < t) (by omega)
        clear c1 c2 c3 hb k1 k2
        go_enter Try.func10, Try.ntmps10
        go_wp2
        refine bodyPost_ret (v := .tuple #[.agg #[.int .i64 0, .int .i64 0, .slice none 0 0], .int .i64 1]) ?qres rfl ?qpost
        case qres => simp [results, Try.results10, go_sem]
        case qpost => exact ⟨rfl, by first | exact below_alloc _ _ | exact below_set3 (below_alloc _ _) (Nat.le_refl _) _ _ _⟩

section
variable {w : World} {s : G.L} {v : Value}

set_option maxHeartbeats 800000 in
theorem rNewer_c (h : EntR w v s.ents) (ok : G.Ok s) (i t : Int) : Calls Try.prog 29 #[logV s v, .int .i64 i, .int .i64 t] w fun e w' => e = .returned (.bool (G.newer s i t)) ∧ Below w.heap.size w w' := by
  have HL : Hid (∀ bx u, LogAt w u bx s v → Calls Try.prog 30 #[logV s v] u fun e w' => e = .returned (.int .i64 (G.last s)) ∧ LogAt w w' bx s v) := fun bx u hu => (rLast_c (h.below hu.old) ok).mono (by rintro e w' ⟨he, hb⟩; exact ⟨he, hu.below hb⟩)
  have HE : Hid (∀ bx u, LogAt w u bx s v → Calls Try.prog 38 #[logV s v] u fun e w' => e = .returned (.int .i64 (G.termAt s (G.last s))) ∧ LogAt w w' bx s v) := fun bx u hu => (rEnd_c (h.below hu.old) ok).mono (by rintro e w' ⟨he, hb⟩; exact ⟨he, hu.below hb⟩)
  obtain ⟨p, c, hv, hc1, hc2, hc3⟩ := h
  unfold G.newer
  generalize G.termAt s (G.last s) = y at HE ⊢
  generalize G.last s = ll at HL ⊢
  obtain ⟨n, hn⟩ : ∃ n, n = s.ents.length := ⟨_, rfl⟩
  rw [← hn] at hv
  subst hv
  have HS := LogAt.start w s (.slice p n c) 30
  obtain ⟨b, tb, l⟩ := s
  unfold logV at *
  dsimp only at *
  obtain ⟨u, hu⟩ : ∃ u, u = w.alloc (.cells #[.int .i64 b, .int .i64 tb, .slice p n c] 30) := ⟨_, rfl⟩
  obtain ⟨bx, hbx⟩ : ∃ bx, bx = w.heap.size := ⟨_, rfl⟩
  rw [← hu, ← hbx] at HS
  have HG : Hid (LogAt w u bx ⟨b, tb, l⟩ (.slice p n c)) := HS
  have u0 : u.cell? ⟨bx, 0, none⟩ = some (.int .i64 b) := HS.c 0
  have u1 : u.cell? ⟨bx, 1, none⟩ = some (.int .i64 tb) := HS.c 1
  have u2 : u.cell? ⟨bx, 2, none⟩ = some (.slice p n c) := HS.c 2
  clear hc1 hc2 hc3 hn ok HS
  by_cases c1 : y < t
  · have d1 : decide (y < t) = true := decide_eq_true c1
    go_enter Try.func29, Try.ntmps29
    go_wp2_with fail
    rw [← hu]
    try rw [← hbx]
    clear hu hbx
    refine Calls.mono (HE.out bx _ HG.out) ?_
    rintro e w1 ⟨rfl, h1⟩
    have H1 : Hid (LogAt w w1 bx ⟨b, tb, l⟩ (.slice p n c)) := h1
    have x0 : w1.cell? ⟨bx, 0, none⟩ = some (.int .i64 b) := h1.c 0
    have x1 : w1.cell? ⟨bx, 1, none⟩ = some (.int .i64 tb) := h1.c 1
    have x2 : w1.cell? ⟨bx, 2, none⟩ = some (.slice p n c) := h1.c 2
    clear h1 u0 u1 u2
    go_wp2
    go_ret
    exact ⟨by simp [c1], H1.out.old⟩
  · have d1 : decide (y < t) = false := decide_eq_false c1
    by_cases c2 : t = y
    · subst c2
      have c3 : (t == t) = true := by simp
      go_enter Try.func29, Try.ntmps29
      go_wp2_with fail
      rw [← hu]
      try rw [← hbx]
      clear hu hbx
      refine Calls.mono (HE.out bx _ HG.out) ?_
      rintro e w1 ⟨rfl, h1⟩
      have H1 : Hid (LogAt w w1 bx ⟨b, tb, l⟩ (.slice p n c)) := h1
      have x0 : w1.cell? ⟨bx, 0, none⟩ = some (.int .i64 b) := h1.c 0
      have x1 : w1.cell? ⟨bx, 1, none⟩ = some (.int .i64 tb) := h1.c 1
      have x2 : w1.cell? ⟨bx, 2, none⟩ = some (.slice p n c) := h1.c 2
      clear h1 u0 u1 u2
      go_wp2_with fail
      refine Calls.mono (HE.out bx _ H1.out) ?_
      rintro e w2 ⟨rfl, h2⟩
      have H2 : Hid (LogAt w w2 bx ⟨b, tb, l⟩ (.slice p n c)) := h2
      have y0 : w2.cell? ⟨bx, 0, none⟩ = some (.int .i64 b) := h2.c 0
      have y1 : w2.cell? ⟨bx, 1, none⟩ = some (.int .i64 tb) := h2.c 1
      have y2 : w2.cell? ⟨bx, 2, none⟩ = some (.slice p n c) := h2.c 2
      clear h2 x0 x1 x2
      go_wp2_with fail
      refine Calls.mono (HL.out bx _ H2.out) ?_
      rintro e w3 ⟨rfl, h3⟩
      have H3 : Hid (LogAt w w3 bx ⟨b, tb, l⟩ (.slice p n c)) := h3
      clear h3 y0 y1 y2
      go_wp2
      go_ret
      exact ⟨by simp, H3.out.old⟩
    · have c3 : (t == y) = false := by simpa using c2
      go_enter Try.func29, Try.ntmps29
      go_wp2_with fail
      rw [← hu]
      try rw [← hbx]
      clear hu hbx
      refine Calls.mono (HE.out bx _ HG.out) ?_
      rintro e w1 ⟨rfl, h1⟩
      have H1 : Hid (LogAt w w1 bx ⟨b, tb, l⟩ (.slice p n c)) := h1
      have x0 : w1.cell? ⟨bx, 0, none⟩ = some (.int .i64 b) := h1.c 0
      have x1 : w1.cell? ⟨bx, 1, none⟩ = some (.int .i64 tb) := h1.c 1
      have x2 : w1.cell? ⟨bx, 2, none⟩ = some (.slice p n c) := h1.c 2
      clear h1 u0 u1 u2
      go_wp2_with fail
      refine Calls.mono (HE.out bx _ H1.out) ?_
      rintro e w2 ⟨rfl, h2⟩
      have H2 : Hid (LogAt w w2 bx ⟨b, tb, l⟩ (.slice p n c)) := h2
      have y0 : w2.cell? ⟨bx, 0, none⟩ = some (.int .i64 b) := h2.c 0
      have y1 : w2.cell? ⟨bx, 1, none⟩ = some (.int .i64 tb) := h2.c 1
      have y2 : w2.cell? ⟨bx, 2, none⟩ = some (.slice p n c) := h2.c 2
      clear h2 x0 x1 x2
      go_wp2
      go_ret
      exact ⟨by simp [c1, c2], H2.out.old⟩

end
end Go.Proofs.Ytamoapbbkaagdaa
