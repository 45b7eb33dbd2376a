/-
  The law package's 'does': a call on both sides (kind 1).
-/
import Derived.Test.YtamoapbbkaagdaaRlDoes
namespace Go.Proofs.Ytamoapbbkaagdaa
open Go.RowKit

section
variable {w X : World} {B : Nat} {s : G.L} {v : Value} {loc0 : Nat → Prop}

set_option maxHeartbeats 3200000 in
set_option maxRecDepth 20000 in
theorem does_1 (h : P6 w X B s s v loc0) (x : Op6) (hK : x.kind = 1) :
    Calls Try.prog 11 #[.pointer (some ⟨B, 0, none⟩), logV s v, opV x] X (DoesOut w X B loc0 v (step6 s x)) := by
  have hst : step6 s x = G.app s x.e := by unfold step6; rw [if_pos hK]
  rw [hst]
  have HV : Hid (∀ k, readBlk v = some k → k < X.heap.size) := fun k hk => readBlk_lt h hk
  have HW : Hid (w.heap.size ≤ X.heap.size) := h.old.size
  have hok := h.ok
  have hent := h.ent
  obtain ⟨p, c, hv, _, _, _⟩ := hent
  obtain ⟨n, hn⟩ : ∃ n, n = s.ents.length := ⟨_, rfl⟩
  rw [← hn] at hv
  subst hv
  obtain ⟨kind, xn, xm, tx, dx⟩ := x
  obtain ⟨b, t, l⟩ := s
  dsimp only at hK ⊢
  subst hK
  obtain ⟨u, bq, bo, br, hu, hbq, hbo, hbr, hz⟩ := Dz.start h #[.int .i64 b, .int .i64 t, .slice p n c] #[.int .i64 1, .int .i64 xn, .int .i64 xm, .int .i64 tx, .string dx] #[.int .i64 0, .int .i64 0, .slice none 0 0] 30 36 30
  obtain ⟨loc, hloc⟩ : ∃ loc : Nat → Prop, loc = fun k => loc0 k ∨ (X.heap.size ≤ k ∧ k < u.heap.size) := ⟨_, rfl⟩
  rw [← hloc] at hz
  have HL0 : Hid (∀ k, loc0 k → loc k ∧ k < X.heap.size) := fun k hk => ⟨by rw [hloc]; exact .inl hk, h.there hk⟩
  have HBr : Hid (X.heap.size ≤ br ∧ br < u.heap.size) := ⟨hz.r.ge, hz.r.lt⟩
  have HZ : Hid _ := hz
  have u0 : u.cell? ⟨bq, 0, none⟩ = some (.int .i64 b) := hz.q.c 0
  have u1 : u.cell? ⟨bq, 1, none⟩ = some (.int .i64 t) := hz.q.c 1
  have u2 : u.cell? ⟨bq, 2, none⟩ = some (.slice p n c) := hz.q.c 2
  have o1 : u.cell? ⟨bo, 1, none⟩ = some (.int .i64 xn) := hz.o.c 1
  have o2 : u.cell? ⟨bo, 2, none⟩ = some (.int .i64 xm) := hz.o.c 2
  have o3 : u.cell? ⟨bo, 3, none⟩ = some (.int .i64 tx) := hz.o.c 3
  have o4 : u.cell? ⟨bo, 3 + 1, none⟩ = some (.string dx) := hz.o.c 4
  have hne1 : bq ≠ br := by omega
  have hne2 : bo ≠ br := by omega
  obtain ⟨s', hs'⟩ : ∃ s', s' = G.app ⟨b, t, l⟩ (tx, dx) := ⟨_, rfl⟩
  rw [← hs']
  obtain ⟨te, hte⟩ : ∃ te, te = G.appE ⟨b, t, l⟩ (tx, dx) := ⟨_, rfl⟩
  obtain ⟨ia, hia⟩ : ∃ ia, ia = G.appA ⟨b, t, l⟩ (tx, dx) := ⟨_, rfl⟩
  have HT : Hid (∀ Y, Dz w X Y B ⟨b, t, l⟩ ⟨b, t, l⟩ (.slice p n c) loc bq bo br #[.int .i64 b, .int .i64 t, .slice p n c] #[.int .i64 1, .int .i64 xn, .int .i64 xm, .int .i64 tx, .string dx] #[.int .i64 0, .int .i64 0, .slice none 0 0] → Calls Try.prog 13 #[.pointer (some ⟨B, 0, none⟩), .agg #[.int .i64 tx, .string dx]] Y fun e w' => e = .returned (.tuple #[.int .i64 ia, .int .i64 te]) ∧ Dz w X w' B s' ⟨b, t, l⟩ (.slice p n c) loc bq bo br #[.int .i64 b, .int .i64 t, .slice p n c] #[.int .i64 1, .int .i64 xn, .int .i64 xm, .int .i64 tx, .string dx] #[.int .i64 0, .int .i64 0, .slice none 0 0] ∧ Y.heap.size ≤ w'.heap.size) := by
    intro Y hY
    obtain ⟨own, h1, h2⟩ := hY.rl
    refine (Append_c h1 (tx, dx)).mono ?_
    rintro e w' ⟨he, ha⟩
    rw [← hte, ← hia] at he
    rw [← hs'] at ha
    obtain ⟨k1, k2, _⟩ := h2 w' s' ha
    exact ⟨he, k1, k2⟩
  have HR : Hid (∀ Y, Dz w X Y B s' ⟨b, t, l⟩ (.slice p n c) loc bq bo br #[.int .i64 b, .int .i64 t, .slice p n c] #[.int .i64 1, .int .i64 xn, .int .i64 xm, .int .i64 tx, .string dx] #[.int .i64 0, .int .i64 0, .slice none 0 0] → Calls Try.prog 22 #[.agg #[.int .i64 b, .int .i64 t, .slice p n c], .agg #[.int .i64 tx, .string dx]] Y fun e w' => ∃ p' n' c', e = .returned (.tuple #[.agg #[.int .i64 s'.base, .int .i64 s'.term, .slice p' n' c'], .int .i64 ia, .int .i64 te]) ∧ Dz w X w' B s' s' (.slice p' n' c') (fun k => loc k ∨ (Y.heap.size ≤ k ∧ k < w'.heap.size)) bq bo br #[.int .i64 b, .int .i64 t, .slice p n c] #[.int .i64 1, .int .i64 xn, .int .i64 xm, .int .i64 tx, .string dx] #[.int .i64 0, .int .i64 0, .slice none 0 0] ∧ ∀ k, readBlk (.slice p' n' c') = some k → readBlk (.slice p n c) = some k ∨ Y.heap.size ≤ k) := by
    intro Y hY
    refine (rAppend_c (s := ⟨b, t, l⟩) (v := .slice p n c) hY.p.ent hok (tx, dx)).mono ?_
    rintro e w' ⟨v', he, hr, hb, hl⟩
    rw [← hs'] at he hr
    rw [← hte, ← hia] at he
    have hr2 := hr
    obtain ⟨p', c', hv', _⟩ := hr2
    subst hv'
    exact ⟨p', _, c', he, hY.put hb hr hl, hl⟩
  have t1 : (ia == ia) = true := by simp
  have t2 : (te == te) = true := by simp
  clear hs' hte hia
  obtain ⟨b', t', l'⟩ := s'
  unfold logV opV
  dsimp only
  clear h hz hn hloc hok
  go_enter Try.func11, Try.ntmps11
  go_wp2_with fail
  rw [← hu, ← hbr, ← hbo, ← hbq]
  clear hu hbr hbo hbq
  refine Calls.mono (HT.out _ HZ.out) ?_
  rintro e w1 ⟨rfl, h1, hs1⟩
  have H1 : Hid _ := h1
  have HS1 : Hid _ := hs1
  have v0 : w1.cell? ⟨bq, 0, none⟩ = some (.int .i64 b) := h1.q.c 0
  have v1 : w1.cell? ⟨bq, 1, none⟩ = some (.int .i64 t) := h1.q.c 1
  have v2 : w1.cell? ⟨bq, 2, none⟩ = some (.slice p n c) := h1.q.c 2
  have y1 : w1.cell? ⟨bo, 1, none⟩ = some (.int .i64 xn) := h1.o.c 1
  have y2 : w1.cell? ⟨bo, 2, none⟩ = some (.int .i64 xm) := h1.o.c 2
  have y3 : w1.cell? ⟨bo, 3, none⟩ = some (.int .i64 tx) := h1.o.c 3
  have y4 : w1.cell? ⟨bo, 3 + 1, none⟩ = some (.string dx) := h1.o.c 4
  clear h1 hs1 u0 u1 u2 o1 o2 o3 o4
  go_wp2_with fail
  refine Calls.mono (HR.out _ H1.out) ?_
  rintro e w2 ⟨p', n', c', rfl, h2, hl2⟩
  dsimp only
  have hvbr : readBlk (.slice p' n' c') ≠ some br := by
    intro e
    have a1 := HBr.out
    have a2 := HS1.out
    rcases hl2 br e with q | q
    · have := HV.out br q
      omega
    · omega
  have HF : Hid (∀ x y z o, DoesOut w X B loc0 (.slice p n c) ⟨b', t', l'⟩ (.returned (.tuple #[.agg #[.int .i64 b', .int .i64 t', .slice p' n' c'], .bool true])) ((((w2.setCell ⟨br, 0, none⟩ x).setCell ⟨br, 1, none⟩ y).setCell ⟨br, 2, none⟩ z).alloc o)) := by
    intro x y z o
    have e := h2.stop (fun k hk => ⟨.inl (HL0.out k hk).1, (HL0.out k hk).2⟩) hvbr HW.out x y z
    have hb := below_alloc (((w2.setCell ⟨br, 0, none⟩ x).setCell ⟨br, 1, none⟩ y).setCell ⟨br, 2, none⟩ z) o
    refine ⟨(.slice p' n' c'), rfl, ⟨e.1.below hb, fun k hk => (hb.block k (e.1.there (.inl hk))).trans (e.2.1 k hk), Nat.le_trans e.2.2 hb.size⟩, fun k hk => ?_⟩
    rcases hl2 k hk with q | q
    · exact .inl q
    · exact .inr (Nat.le_trans HZ.out.old (Nat.le_trans HS1.out q))
  have r0 : w2.cell? ⟨br, 0, none⟩ = some (.int .i64 0) := h2.r.c 0
  have r1 : w2.cell? ⟨br, 1, none⟩ = some (.int .i64 0) := h2.r.c 1
  have r2 : w2.cell? ⟨br, 2, none⟩ = some (.slice none 0 0) := h2.r.c 2
  have rf0 := h2.r.f 0
  have rf1 := h2.r.f 1
  have rf2 := h2.r.f 2
  have hbrl := h2.r.lt
  clear h2 hl2 hvbr v0 v1 v2 y1 y2 y3 y4
  go_wp2
  refine bodyPost_ret (v := .tuple #[.agg #[.int .i64 b', .int .i64 t', .slice p' n' c'], .bool true]) ?qres rfl ?qpost
  case qres => simp [results, Try.results11, go_sem, r0, r1, r2, hbrl]
  case qpost => exact HF.out _ _ _ _

end
end Go.Proofs.Ytamoapbbkaagdaa
