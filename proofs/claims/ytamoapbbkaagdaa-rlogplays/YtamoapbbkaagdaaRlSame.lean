/-
  'does', in all kinds; 'same'.
-/
import Derived.Test.YtamoapbbkaagdaaRlDoes1
import Derived.Test.YtamoapbbkaagdaaRlDoes2
import Derived.Test.YtamoapbbkaagdaaRlDoes3
import Derived.Test.YtamoapbbkaagdaaRlDoes4
import Derived.Test.YtamoapbbkaagdaaRlDoes5
import Derived.Test.YtamoapbbkaagdaaRlDoes6
import Derived.Test.YtamoapbbkaagdaaRlDoes7
namespace Go.Proofs.Ytamoapbbkaagdaa
open Go.RowKit

section
variable {w X : World} {B : Nat} {s : G.L} {v : Value} {loc0 : Nat → Prop}

theorem does_c (h : P6 w X B s s v loc0) (x : Op6) :
    Calls Try.prog 11 #[.pointer (some ⟨B, 0, none⟩), logV s v, opV x] X (DoesOut w X B loc0 v (step6 s x)) := by
  by_cases h1 : x.kind = 1
  · exact does_1 h x h1
  · by_cases h2 : x.kind = 2
    · exact does_2 h x h2
    · by_cases h3 : x.kind = 3
      · exact does_3 h x h3
      · by_cases h4 : x.kind = 4
        · exact does_4 h x h4
        · by_cases h5 : x.kind = 5
          · exact does_5 h x h5
          · by_cases h6 : x.kind = 6
            · exact does_6 h x h6
            · by_cases h7 : x.kind = 7
              · exact does_7 h x h7
              · exact does_none h x h1 h2 h3 h4 h5 h6 h7

theorem base_term {s : G.L} : G.termE s s.base = 0 ∧ G.termA s s.base = s.term := by
  have e : G.termE s s.base = 0 := by unfold G.termE; rw [G.within_zero]; unfold G.last; omega
  refine ⟨e, ?_⟩
  unfold G.termA G.termAt
  rw [if_pos e, if_pos rfl]

theorem whole {s : G.L} : G.sliceE s (s.base + 1) ((s.ents.length : Int) + 1) = 0 ∧ G.slice s (s.base + 1) ((s.ents.length : Int) + 1) = s.ents := by
  have e : G.sliceE s (s.base + 1) ((s.ents.length : Int) + 1) = 0 := by
    unfold G.sliceE
    rw [if_neg (by omega), G.within_zero]
    unfold G.last
    omega
  refine ⟨e, ?_⟩
  unfold G.slice
  rw [if_pos e, show (s.base + 1 - s.base - 1).toNat = 0 by omega, List.drop_zero, List.take_of_length_le (by omega)]

set_option maxHeartbeats 1600000 in
set_option maxRecDepth 20000 in
theorem same_c (h : P6 w X B s s v loc0) :
    Calls Try.prog 12 #[.pointer (some ⟨B, 0, none⟩), logV s v] X fun e w' => e = .returned (.bool true) ∧ Below w.heap.size w w' := by
  have hok := h.ok
  have hlen := hok.len
  have hb0 := hok.base
  have hent := h.ent
  obtain ⟨p, c, hv, hc1, hc2, _⟩ := hent
  obtain ⟨n, hn⟩ : ∃ n, n = s.ents.length := ⟨_, rfl⟩
  rw [← hn] at hv hc1
  subst hv
  obtain ⟨b, t, l⟩ := s
  dsimp only at *
  obtain ⟨u, hu⟩ : ∃ u, u = X.alloc (.cells #[.int .i64 b, .int .i64 t, .slice p n c] 30) := ⟨_, rfl⟩
  obtain ⟨bq, hbq⟩ : ∃ bq, bq = X.heap.size := ⟨_, rfl⟩
  have hbu : Below X.heap.size X u := by rw [hu]; exact below_alloc _ _
  obtain ⟨loc, hloc⟩ : ∃ loc : Nat → Prop, loc = fun k => loc0 k ∨ (X.heap.size ≤ k ∧ k < u.heap.size) := ⟨_, rfl⟩
  have hq : P6 w u B ⟨b, t, l⟩ ⟨b, t, l⟩ (.slice p n c) loc := by rw [hloc]; exact h.grow hbu
  have hcq : CellsAt X u bq #[.int .i64 b, .int .i64 t, .slice p n c] := ⟨by omega, by rw [hu, hbq]; simp, fun j => by rw [hu, hbq]; exact World.cell?_alloc_mark X _ _ _ j, fun j => by rw [hu, hbq, World.frozen?_alloc_mark]; simp⟩
  have HP : Hid (∀ Y Z, P6 w Y B ⟨b, t, l⟩ ⟨b, t, l⟩ (.slice p n c) loc ∧ CellsAt X Y bq #[.int .i64 b, .int .i64 t, .slice p n c] → Below Y.heap.size Y Z → P6 w Z B ⟨b, t, l⟩ ⟨b, t, l⟩ (.slice p n c) loc ∧ CellsAt X Z bq #[.int .i64 b, .int .i64 t, .slice p n c]) := fun Y Z hY hb => ⟨hY.1.below hb, hY.2.below hb⟩
  have HSl : Hid (∀ Y, P6 w Y B ⟨b, t, l⟩ ⟨b, t, l⟩ (.slice p n c) loc ∧ CellsAt X Y bq #[.int .i64 b, .int .i64 t, .slice p n c] → Calls Try.prog 21 #[.pointer (some ⟨B, 0, none⟩), .int .i64 (b + 1), .int .i64 ((n : Int) + 1)] Y fun e w' => ∃ pa na ca, e = .returned (.tuple #[.slice pa na ca, .int .i64 0]) ∧ (P6 w w' B ⟨b, t, l⟩ ⟨b, t, l⟩ (.slice p n c) loc ∧ CellsAt X w' bq #[.int .i64 b, .int .i64 t, .slice p n c]) ∧ EntR w' (.slice pa na ca) l) := by
    intro Y hY
    obtain ⟨own, h1, _⟩ := hY.1.rl
    have hw := whole (s := ⟨b, t, l⟩)
    dsimp only at hw
    rw [← hn] at hw
    refine (Slice_c h1 (b + 1) ((n : Int) + 1)).mono ?_
    rintro e w' ⟨v', he, hr, hb⟩
    rw [hw.1] at he
    rw [hw.2] at hr
    obtain ⟨pa, ca, hv', _, _⟩ := hr.form
    subst hv'
    exact ⟨pa, _, ca, he, HP.out Y w' hY hb, RowC.read hr⟩
  have HT : Hid (∀ Y, P6 w Y B ⟨b, t, l⟩ ⟨b, t, l⟩ (.slice p n c) loc ∧ CellsAt X Y bq #[.int .i64 b, .int .i64 t, .slice p n c] → Calls Try.prog 18 #[.pointer (some ⟨B, 0, none⟩), .int .i64 b] Y fun e w' => e = .returned (.tuple #[.int .i64 t, .int .i64 0]) ∧ ∃ m, w' = Y.drewN m) := by
    intro Y hY
    obtain ⟨own, h1, _⟩ := hY.1.rl
    have hw := base_term (s := ⟨b, t, l⟩)
    dsimp only at hw
    refine (Term_c h1 b).mono ?_
    rintro e w' ⟨he, hm⟩
    rw [hw.1, hw.2] at he
    exact ⟨he, hm⟩
  have HL : Hid (∀ Y pa na ca, ((P6 w Y B ⟨b, t, l⟩ ⟨b, t, l⟩ (.slice p n c) loc ∧ CellsAt X Y bq #[.int .i64 b, .int .i64 t, .slice p n c]) ∧ EntR Y (.slice pa na ca) l) → Calls Try.prog 16 #[.pointer (some ⟨B, 0, none⟩)] Y fun e w' => e = .returned (.int .i64 (G.last ⟨b, t, l⟩)) ∧ ((P6 w w' B ⟨b, t, l⟩ ⟨b, t, l⟩ (.slice p n c) loc ∧ CellsAt X w' bq #[.int .i64 b, .int .i64 t, .slice p n c]) ∧ EntR w' (.slice pa na ca) l)) := by
    intro Y pa na ca hY
    obtain ⟨own, h1, _⟩ := hY.1.1.rl
    refine (Last_c h1).mono ?_
    rintro e w' ⟨he, hw⟩
    rw [hw]
    exact ⟨he, HP.out _ _ hY.1 (below_drewN _ 1), hY.2.below (below_drewN _ 1)⟩
  have HB : Hid (∀ Y pa na ca, ((P6 w Y B ⟨b, t, l⟩ ⟨b, t, l⟩ (.slice p n c) loc ∧ CellsAt X Y bq #[.int .i64 b, .int .i64 t, .slice p n c]) ∧ EntR Y (.slice pa na ca) l) → Calls Try.prog 17 #[.pointer (some ⟨B, 0, none⟩)] Y fun e w' => e = .returned (.int .i64 b) ∧ ((P6 w w' B ⟨b, t, l⟩ ⟨b, t, l⟩ (.slice p n c) loc ∧ CellsAt X w' bq #[.int .i64 b, .int .i64 t, .slice p n c]) ∧ EntR w' (.slice pa na ca) l)) := by
    intro Y pa na ca hY
    obtain ⟨own, h1, _⟩ := hY.1.1.rl
    refine (Base_c h1).mono ?_
    rintro e w' ⟨he, hw⟩
    rw [hw]
    exact ⟨he, hY⟩
  have HRL : Hid (∀ Y pa na ca, ((P6 w Y B ⟨b, t, l⟩ ⟨b, t, l⟩ (.slice p n c) loc ∧ CellsAt X Y bq #[.int .i64 b, .int .i64 t, .slice p n c]) ∧ EntR Y (.slice pa na ca) l) → Calls Try.prog 30 #[.agg #[.int .i64 b, .int .i64 t, .slice p n c]] Y fun e w' => e = .returned (.int .i64 (G.last ⟨b, t, l⟩)) ∧ ((P6 w w' B ⟨b, t, l⟩ ⟨b, t, l⟩ (.slice p n c) loc ∧ CellsAt X w' bq #[.int .i64 b, .int .i64 t, .slice p n c]) ∧ EntR w' (.slice pa na ca) l)) := by
    intro Y pa na ca hY
    refine (rLast_c (s := ⟨b, t, l⟩) (v := .slice p n c) hY.1.1.ent hok).mono ?_
    rintro e w' ⟨he, hb⟩
    exact ⟨he, HP.out _ _ hY.1 hb, hY.2.below hb⟩
  have HSm : Hid (∀ Y pa na ca, ((P6 w Y B ⟨b, t, l⟩ ⟨b, t, l⟩ (.slice p n c) loc ∧ CellsAt X Y bq #[.int .i64 b, .int .i64 t, .slice p n c]) ∧ EntR Y (.slice pa na ca) l) → Calls Try.prog 28 #[.slice pa na ca, .slice p n c] Y fun e w' => e = .returned (.bool true) ∧ ((P6 w w' B ⟨b, t, l⟩ ⟨b, t, l⟩ (.slice p n c) loc ∧ CellsAt X w' bq #[.int .i64 b, .int .i64 t, .slice p n c]) ∧ EntR w' (.slice pa na ca) l)) := by
    intro Y pa na ca hY
    refine (entSame_c hY.2 hY.1.1.ent).mono ?_
    rintro e w' ⟨he, m, hw⟩
    rw [decide_eq_true rfl] at he
    rw [hw]
    exact ⟨he, HP.out _ _ hY.1 (below_drewN _ m), hY.2.below (below_drewN _ m)⟩
  have HQ : Hid (P6 w u B ⟨b, t, l⟩ ⟨b, t, l⟩ (.slice p n c) loc ∧ CellsAt X u bq #[.int .i64 b, .int .i64 t, .slice p n c]) := ⟨hq, hcq⟩
  generalize G.last ⟨b, t, l⟩ = ll at HL HRL
  have hw1 : IntKind.i64.wrap (b + 1) = b + 1 := by rw [IntKind.wrap_i64]; omega
  have hw2 : IntKind.i64.wrap ((n : Int) + 1) = (n : Int) + 1 := by rw [IntKind.wrap_i64]; omega
  have t0 : (b == b) = true := by simp
  have t1 : (t == t) = true := by simp
  have t2 : (ll == ll) = true := by simp
  have u0 : u.cell? ⟨bq, 0, none⟩ = some (.int .i64 b) := hcq.c 0
  have u2 : u.cell? ⟨bq, 2, none⟩ = some (.slice p n c) := hcq.c 2
  unfold logV
  dsimp only
  clear h hok hlen hb0 hc1 hc2 hn hq hcq hbu hloc
  go_enter Try.func12, Try.ntmps12
  go_wp2_with fail
  rw [← hu]
  try rw [← hbq]
  clear hu hbq
  refine Calls.mono (HSl.out _ HQ.out) ?_
  rintro e w1 ⟨pa, na, ca, rfl, h1, ha⟩
  have H1 : Hid _ := h1
  have HA : Hid _ := ha
  have v0 : w1.cell? ⟨bq, 0, none⟩ = some (.int .i64 b) := h1.2.c 0
  clear h1 ha u0 u2
  go_wp2_with fail
  refine Calls.mono (HT.out _ H1.out) ?_
  rintro e w2 ⟨rfl, m, hw⟩
  have hM : ((P6 w w2.drew B ⟨b, t, l⟩ ⟨b, t, l⟩ (.slice p n c) loc ∧ CellsAt X w2.drew bq #[.int .i64 b, .int .i64 t, .slice p n c]) ∧ EntR w2.drew (.slice pa na ca) l) := by rw [hw]; exact ⟨HP.out _ _ H1.out (below_drewN _ m).drew, EntR.below HA.out (below_drewN _ m).drew⟩
  have HK : Hid (∀ Y, ((P6 w Y B ⟨b, t, l⟩ ⟨b, t, l⟩ (.slice p n c) loc ∧ CellsAt X Y bq #[.int .i64 b, .int .i64 t, .slice p n c]) ∧ EntR Y (.slice pa na ca) l) → Y.cell? ⟨bq, 0, none⟩ = some (.int .i64 b) ∧ Y.cell? ⟨bq, 1, none⟩ = some (.int .i64 t) ∧ Y.cell? ⟨bq, 2, none⟩ = some (.slice p n c)) := fun Y hY => ⟨hY.1.2.c 0, hY.1.2.c 1, hY.1.2.c 2⟩
  clear hw v0
  go_wp2
  go_region_held (fun Y => Y.cell? ⟨bq, 0, none⟩ = some (.int .i64 b) ∧ Y.cell? ⟨bq, 1, none⟩ = some (.int .i64 t) ∧ Y.cell? ⟨bq, 2, none⟩ = some (.slice p n c))
    (exact HK.out _ (by assumption))
    (first
      | (go_at_call 17; refine (HB.out _ pa na ca ?_).mono ?_; assumption; rintro e w3 ⟨rfl, hg3⟩)
      | (go_at_call 16; refine (HL.out _ pa na ca ?_).mono ?_; assumption; rintro e w4 ⟨rfl, hg4⟩)
      | (go_at_call 30; refine (HRL.out _ pa na ca ?_).mono ?_; assumption; rintro e w5 ⟨rfl, hg5⟩)
      | (go_at_call 28; refine (HSm.out _ pa na ca ?_).mono ?_; assumption; rintro e w6 ⟨rfl, hg6⟩))
  all_goals
    have HF : Hid _ := hg6.1.1.old
    clear hg3 hg4 hg5 hg6 hM
    go_wp2
    go_ret
    exact ⟨rfl, HF.out⟩

end
end Go.Proofs.Ytamoapbbkaagdaa
