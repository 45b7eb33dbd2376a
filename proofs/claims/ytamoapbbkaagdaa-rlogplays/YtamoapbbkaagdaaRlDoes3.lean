/-
  The law package's 'does': a call on both sides (kind 3).
-/
import Derived.Test.YtamoapbbkaagdaaRlDoes
namespace Go.Proofs.Ytamoapbbkaagdaa
open Go.RowKit

section
variable {w X : World} {B : Nat} {s : G.L} {v : Value} {loc0 : Nat → Prop}

set_option maxHeartbeats 3200000 in
set_option maxRecDepth 20000 in
theorem does_3 (h : P6 w X B s s v loc0) (x : Op6) (hK : x.kind = 3) :
    Calls Try.prog 11 #[.pointer (some ⟨B, 0, none⟩), logV s v, opV x] X (DoesOut w X B loc0 v (step6 s x)) := by
  have hst : step6 s x = G.cmp s x.n := by unfold step6; rw [if_neg (by omega), if_neg (by omega), if_pos hK]
  rw [hst]
  have HV : Hid (∀ k, readBlk v = some k → k < X.heap.size) := fun k hk => readBlk_lt h hk
  have HW : Hid (w.heap.size ≤ X.heap.size) := h.old.size
  have hok := h.ok
  have hent := h.ent
  obtain ⟨p, c, hv, _, _, _⟩ := hent
  obtain ⟨n, hn⟩ : ∃ n, n = s.ents.length := ⟨_, rfl⟩
  rw [← hn] at hv
  subst hv
  obtain ⟨kind, xn, xm, tx, dx⟩ := x
  obtain ⟨b, t, l⟩ := s
  dsimp only at hK ⊢
  subst hK
  obtain ⟨u, bq, bo, br, hu, hbq, hbo, hbr, hz⟩ := Dz.start h #[.int .i64 b, .int .i64 t, .slice p n c] #[.int .i64 3, .int .i64 xn, .int .i64 xm, .int .i64 tx, .string dx] #[.int .i64 0, .int .i64 0, .slice none 0 0] 30 36 30
  obtain ⟨loc, hloc⟩ : ∃ loc : Nat → Prop, loc = fun k => loc0 k ∨ (X.heap.size ≤ k ∧ k < u.heap.size) := ⟨_, rfl⟩
  rw [← hloc] at hz
  have HL0 : Hid (∀ k, loc0 k → loc k ∧ k < X.heap.size) := fun k hk => ⟨by rw [hloc]; exact .inl hk, h.there hk⟩
  have HBr : Hid (X.heap.size ≤ br ∧ br < u.heap.size) := ⟨hz.r.ge, hz.r.lt⟩
  have HZ : Hid _ := hz
  have u0 : u.cell? ⟨bq, 0, none⟩ = some (.int .i64 b) := hz.q.c 0
  have u1 : u.cell? ⟨bq, 1, none⟩ = some (.int .i64 t) := hz.q.c 1
  have u2 : u.cell? ⟨bq, 2, none⟩ = some (.slice p n c) := hz.q.c 2
  have o1 : u.cell? ⟨bo, 1, none⟩ = some (.int .i64 xn) := hz.o.c 1
  have o2 : u.cell? ⟨bo, 2, none⟩ = some (.int .i64 xm) := hz.o.c 2
  have o3 : u.cell? ⟨bo, 3, none⟩ = some (.int .i64 tx) := hz.o.c 3
  have o4 : u.cell? ⟨bo, 3 + 1, none⟩ = some (.string dx) := hz.o.c 4
  have hne1 : bq ≠ br := by omega
  have hne2 : bo ≠ br := by omega
  obtain ⟨s', hs'⟩ : ∃ s', s' = G.cmp ⟨b, t, l⟩ xn := ⟨_, rfl⟩
  rw [← hs']
  obtain ⟨te, hte⟩ : ∃ te, te = G.termE ⟨b, t, l⟩ xn := ⟨_, rfl⟩
  have HR : Hid (∀ Y, Dz w X Y B ⟨b, t, l⟩ ⟨b, t, l⟩ (.slice p n c) loc bq bo br #[.int .i64 b, .int .i64 t, .slice p n c] #[.int .i64 3, .int .i64 xn, .int .i64 xm, .int .i64 tx, .string dx] #[.int .i64 0, .int .i64 0, .slice none 0 0] → Calls Try.prog 24 #[.agg #[.int .i64 b, .int .i64 t, .slice p n c], .int .i64 xn] Y fun e w' => ∃ p' n' c', e = .returned (.tuple #[.agg #[.int .i64 s'.base, .int .i64 s'.term, .slice p' n' c'], .int .i64 te]) ∧ Dz w X w' B ⟨b, t, l⟩ s' (.slice p' n' c') (fun k => loc k ∨ (Y.heap.size ≤ k ∧ k < w'.heap.size)) bq bo br #[.int .i64 b, .int .i64 t, .slice p n c] #[.int .i64 3, .int .i64 xn, .int .i64 xm, .int .i64 tx, .string dx] #[.int .i64 0, .int .i64 0, .slice none 0 0] ∧ ∀ k, readBlk (.slice p' n' c') = some k → readBlk (.slice p n c) = some k ∨ Y.heap.size ≤ k) := by
    intro Y hY
    refine (rCompact_c (s := ⟨b, t, l⟩) (v := .slice p n c) hY.p.ent hok xn).mono ?_
    rintro e w' ⟨v', he, hr, hb, hl⟩
    rw [← hs'] at he hr
    rw [← hte] at he
    have hr2 := hr
    obtain ⟨p', c', hv', _⟩ := hr2
    subst hv'
    exact ⟨p', _, c', he, hY.put hb hr hl, hl⟩
  have HT : Hid (∀ Y v' loc2, Dz w X Y B ⟨b, t, l⟩ s' v' loc2 bq bo br #[.int .i64 b, .int .i64 t, .slice p n c] #[.int .i64 3, .int .i64 xn, .int .i64 xm, .int .i64 tx, .string dx] #[.int .i64 0, .int .i64 0, .slice none 0 0] → ∃ own, Lg Y B ⟨b, t, l⟩ own ∧ ∀ Z, Aft own Y Z B s' → Dz w X Z B s' s' v' loc2 bq bo br #[.int .i64 b, .int .i64 t, .slice p n c] #[.int .i64 3, .int .i64 xn, .int .i64 xm, .int .i64 tx, .string dx] #[.int .i64 0, .int .i64 0, .slice none 0 0] ∧ Y.heap.size ≤ Z.heap.size ∧ ∀ k, loc2 k → Z.heap[k]? = Y.heap[k]?) := by
    intro Y v' loc2 hY
    obtain ⟨own, h1, h2⟩ := hY.rl
    exact ⟨own, h1, fun Z hZ => h2 Z s' hZ⟩
  have HTc : Hid (∀ Y own, Lg Y B ⟨b, t, l⟩ own → Calls Try.prog 15 #[.pointer (some ⟨B, 0, none⟩), .int .i64 xn] Y fun e w' => e = .returned (.int .i64 te) ∧ Aft own Y w' B s') := by
    intro Y own hY
    refine (Compact_c hY xn).mono ?_
    rintro e w' ⟨he, ha⟩
    rw [← hte] at he
    rw [← hs'] at ha
    exact ⟨he, ha⟩
  have t2 : (te == te) = true := by simp
  clear hs' hte
  obtain ⟨b', t', l'⟩ := s'
  unfold logV opV
  dsimp only
  clear h hz hn hloc hok
  go_enter Try.func11, Try.ntmps11
  go_wp2_with fail
  rw [← hu, ← hbr, ← hbo, ← hbq]
  clear hu hbr hbo hbq
  refine Calls.mono (HR.out _ HZ.out) ?_
  rintro e w1 ⟨p', n', c', rfl, h1, hl1⟩
  dsimp only
  obtain ⟨W, hW⟩ : ∃ W, W = w1.alloc (.cells #[.int .i64 b', .int .i64 t', .slice p' n' c'] 30) := ⟨_, rfl⟩
  obtain ⟨bn, hbn⟩ : ∃ bn, bn = w1.heap.size := ⟨_, rfl⟩
  have hbW : Below w1.heap.size w1 W := by rw [hW]; exact below_alloc _ _
  have h2 := h1.grow hbW
  obtain ⟨loc2, hloc2⟩ : ∃ loc2 : Nat → Prop, loc2 = fun k => (loc k ∨ (u.heap.size ≤ k ∧ k < w1.heap.size)) ∨ (w1.heap.size ≤ k ∧ k < W.heap.size) := ⟨_, rfl⟩
  rw [← hloc2] at h2
  have hcn : CellsAt X W bn #[.int .i64 b', .int .i64 t', .slice p' n' c'] := ⟨by have := h1.old; omega, by rw [hW, hbn]; simp, fun j => by rw [hW, hbn]; exact World.cell?_alloc_mark w1 _ _ _ j, fun j => by rw [hW, hbn, World.frozen?_alloc_mark]; simp⟩
  have hln : loc2 bn := by rw [hloc2]; exact .inr ⟨by omega, hcn.lt⟩
  have hnbr : bn ≠ br := by have := h1.r.lt; omega
  have hvbr : readBlk (.slice p' n' c') ≠ some br := by
    intro e
    have a1 := HBr.out
    rcases hl1 br e with q | q
    · have := HV.out br q
      omega
    · omega
  have HO : Hid (∀ Y, (Dz w X Y B ⟨b', t', l'⟩ ⟨b', t', l'⟩ (.slice p' n' c') loc2 bq bo br #[.int .i64 b, .int .i64 t, .slice p n c] #[.int .i64 3, .int .i64 xn, .int .i64 xm, .int .i64 tx, .string dx] #[.int .i64 0, .int .i64 0, .slice none 0 0] ∧ CellsAt X Y bn #[.int .i64 b', .int .i64 t', .slice p' n' c']) → ∀ x y z, DoesOut w X B loc0 (.slice p n c) ⟨b', t', l'⟩ (.returned (.tuple #[.agg #[.int .i64 b', .int .i64 t', .slice p' n' c'], .bool true])) (((Y.setCell ⟨br, 0, none⟩ x).setCell ⟨br, 1, none⟩ y).setCell ⟨br, 2, none⟩ z)) := fun Y hY x y z => ⟨(.slice p' n' c'), rfl, hY.1.stop (fun k hk => ⟨by rw [hloc2]; exact .inl (.inl (HL0.out k hk).1), (HL0.out k hk).2⟩) hvbr HW.out x y z, fun k hk => by
    rcases hl1 k hk with q | q
    · exact .inl q
    · exact .inr (Nat.le_trans HZ.out.old q)⟩
  have HC : Hid (∀ Y, (Dz w X Y B ⟨b, t, l⟩ ⟨b', t', l'⟩ (.slice p' n' c') loc2 bq bo br #[.int .i64 b, .int .i64 t, .slice p n c] #[.int .i64 3, .int .i64 xn, .int .i64 xm, .int .i64 tx, .string dx] #[.int .i64 0, .int .i64 0, .slice none 0 0] ∧ CellsAt X Y bn #[.int .i64 b', .int .i64 t', .slice p' n' c'] ∧ loc2 bn) → Calls Try.prog 15 #[.pointer (some ⟨B, 0, none⟩), .int .i64 xn] Y fun e w' => e = .returned (.int .i64 te) ∧ (Dz w X w' B ⟨b', t', l'⟩ ⟨b', t', l'⟩ (.slice p' n' c') loc2 bq bo br #[.int .i64 b, .int .i64 t, .slice p n c] #[.int .i64 3, .int .i64 xn, .int .i64 xm, .int .i64 tx, .string dx] #[.int .i64 0, .int .i64 0, .slice none 0 0] ∧ CellsAt X w' bn #[.int .i64 b', .int .i64 t', .slice p' n' c'])) := by
    intro Y hY
    obtain ⟨own, g1, g2⟩ := HT.out Y _ loc2 hY.1
    refine (HTc.out Y own g1).mono ?_
    rintro e w' ⟨he, ha⟩
    obtain ⟨k1, k2, k3⟩ := g2 w' ha
    exact ⟨he, k1, hY.2.1.carry (k3 bn hY.2.2) k2⟩
  have hA : (Dz w X W.drew B ⟨b, t, l⟩ ⟨b', t', l'⟩ (.slice p' n' c') loc2 bq bo br #[.int .i64 b, .int .i64 t, .slice p n c] #[.int .i64 3, .int .i64 xn, .int .i64 xm, .int .i64 tx, .string dx] #[.int .i64 0, .int .i64 0, .slice none 0 0] ∧ CellsAt X W.drew bn #[.int .i64 b', .int .i64 t', .slice p' n' c'] ∧ loc2 bn) := ⟨h2.below (below_drewN _ 1), hcn.below (below_drewN _ 1), hln⟩
  have HKA : Hid (∀ Y, (Dz w X Y B ⟨b, t, l⟩ ⟨b', t', l'⟩ (.slice p' n' c') loc2 bq bo br #[.int .i64 b, .int .i64 t, .slice p n c] #[.int .i64 3, .int .i64 xn, .int .i64 xm, .int .i64 tx, .string dx] #[.int .i64 0, .int .i64 0, .slice none 0 0] ∧ CellsAt X Y bn #[.int .i64 b', .int .i64 t', .slice p' n' c'] ∧ loc2 bn) → Y.cell? ⟨bn, 0, none⟩ = some (.int .i64 b') ∧ Y.cell? ⟨bn, 1, none⟩ = some (.int .i64 t') ∧ Y.cell? ⟨bn, 2, none⟩ = some (.slice p' n' c') ∧ Y.cell? ⟨bo, 1, none⟩ = some (.int .i64 xn)) := fun Y hY => ⟨hY.2.1.c 0, hY.2.1.c 1, hY.2.1.c 2, hY.1.o.c 1⟩
  have HKZ : Hid (∀ Y, (Dz w X Y B ⟨b', t', l'⟩ ⟨b', t', l'⟩ (.slice p' n' c') loc2 bq bo br #[.int .i64 b, .int .i64 t, .slice p n c] #[.int .i64 3, .int .i64 xn, .int .i64 xm, .int .i64 tx, .string dx] #[.int .i64 0, .int .i64 0, .slice none 0 0] ∧ CellsAt X Y bn #[.int .i64 b', .int .i64 t', .slice p' n' c']) → Y.cell? ⟨bn, 0, none⟩ = some (.int .i64 b') ∧ Y.cell? ⟨bn, 1, none⟩ = some (.int .i64 t') ∧ Y.cell? ⟨bn, 2, none⟩ = some (.slice p' n' c') ∧ Y.cell? ⟨bo, 1, none⟩ = some (.int .i64 xn)) := fun Y hY => ⟨hY.2.c 0, hY.2.c 1, hY.2.c 2, hY.1.o.c 1⟩
  have HK3 : Hid (∀ Y x y z, (Dz w X Y B ⟨b', t', l'⟩ ⟨b', t', l'⟩ (.slice p' n' c') loc2 bq bo br #[.int .i64 b, .int .i64 t, .slice p n c] #[.int .i64 3, .int .i64 xn, .int .i64 xm, .int .i64 tx, .string dx] #[.int .i64 0, .int .i64 0, .slice none 0 0] ∧ CellsAt X Y bn #[.int .i64 b', .int .i64 t', .slice p' n' c']) → (((Y.setCell ⟨br, 0, none⟩ x).setCell ⟨br, 1, none⟩ y).setCell ⟨br, 2, none⟩ z).cell? ⟨bn, 0, none⟩ = some (.int .i64 b') ∧ (((Y.setCell ⟨br, 0, none⟩ x).setCell ⟨br, 1, none⟩ y).setCell ⟨br, 2, none⟩ z).cell? ⟨bn, 1, none⟩ = some (.int .i64 t') ∧ (((Y.setCell ⟨br, 0, none⟩ x).setCell ⟨br, 1, none⟩ y).setCell ⟨br, 2, none⟩ z).cell? ⟨bn, 2, none⟩ = some (.slice p' n' c') ∧ (((Y.setCell ⟨br, 0, none⟩ x).setCell ⟨br, 1, none⟩ y).setCell ⟨br, 2, none⟩ z).cell? ⟨bo, 1, none⟩ = some (.int .i64 xn)) := by
    intro Y x y z hY
    have hq : ∀ (a : Addr), a.block ≠ br → (((Y.setCell ⟨br, 0, none⟩ x).setCell ⟨br, 1, none⟩ y).setCell ⟨br, 2, none⟩ z).cell? a = Y.cell? a := fun a ha => by
      rw [World.cell?_of_block (a := a) (Below.heap_setCell _ _ _ _ ha), World.cell?_of_block (a := a) (Below.heap_setCell _ _ _ _ ha), World.cell?_of_block (a := a) (Below.heap_setCell _ _ _ _ ha)]
    rw [hq _ hnbr, hq _ hnbr, hq _ hnbr, hq _ hne2]
    exact HKZ.out Y hY
  clear h1 hl1 h2 hcn hln hloc2 hvbr hbW u0 u1 u2 o1 o2 o3 o4 hne1
  go_wp2
  rw [← hW]
  try rw [← hbn]
  clear hW hbn
  go_region_held (fun Y => Y.cell? ⟨bn, 0, none⟩ = some (.int .i64 b') ∧ Y.cell? ⟨bn, 1, none⟩ = some (.int .i64 t') ∧ Y.cell? ⟨bn, 2, none⟩ = some (.slice p' n' c') ∧ Y.cell? ⟨bo, 1, none⟩ = some (.int .i64 xn))
    (first | exact HKA.out _ (by assumption) | exact HKZ.out _ (by assumption) | exact HK3.out _ _ _ _ (by assumption))
    (first
      | (go_at_call 15; refine (HC.out _ ?_).mono ?_; assumption; rintro e w3 ⟨rfl, hg3⟩; have r0 : w3.cell? ⟨br, 0, none⟩ = some (.int .i64 0) := hg3.1.r.c 0; have r1 : w3.cell? ⟨br, 1, none⟩ = some (.int .i64 0) := hg3.1.r.c 1; have r2 : w3.cell? ⟨br, 2, none⟩ = some (.slice none 0 0) := hg3.1.r.c 2; have rf0 := hg3.1.r.f 0; have rf1 := hg3.1.r.f 1; have rf2 := hg3.1.r.f 2))
  have H3 : Hid _ := hg3
  clear hg3 hA
  go_wp2
  refine bodyPost_ret (v := .tuple #[.agg #[.int .i64 b', .int .i64 t', .slice p' n' c'], .bool true]) ?qres rfl ?qpost
  case qres => simp [results, Try.results11, go_sem, r0, r1, r2]
  case qpost => exact HO.out _ H3.out _ _ _

end
end Go.Proofs.Ytamoapbbkaagdaa
