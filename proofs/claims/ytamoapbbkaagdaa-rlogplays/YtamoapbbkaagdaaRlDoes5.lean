/-
  The law package's 'does': a call on both sides (kind 5).
-/
import Derived.Test.YtamoapbbkaagdaaRlDoes
namespace Go.Proofs.Ytamoapbbkaagdaa
open Go.RowKit

section
variable {w X : World} {B : Nat} {s : G.L} {v : Value} {loc0 : Nat → Prop}

set_option maxHeartbeats 3200000 in
set_option maxRecDepth 20000 in
theorem does_5 (h : P6 w X B s s v loc0) (x : Op6) (hK : x.kind = 5) :
    Calls Try.prog 11 #[.pointer (some ⟨B, 0, none⟩), logV s v, opV x] X (DoesOut w X B loc0 v (step6 s x)) := by
  have hst : step6 s x = s := by unfold step6; rw [if_neg (by omega), if_neg (by omega), if_neg (by omega)]
  rw [hst]
  have HV : Hid (∀ k, readBlk v = some k → k < X.heap.size) := fun k hk => readBlk_lt h hk
  have HW : Hid (w.heap.size ≤ X.heap.size) := h.old.size
  have hok := h.ok
  have hent := h.ent
  obtain ⟨p, c, hv, _, _, _⟩ := hent
  obtain ⟨n, hn⟩ : ∃ n, n = s.ents.length := ⟨_, rfl⟩
  rw [← hn] at hv
  subst hv
  obtain ⟨kind, xn, xm, tx, dx⟩ := x
  obtain ⟨b, t, l⟩ := s
  dsimp only at hK ⊢
  subst hK
  obtain ⟨u, bq, bo, br, hu, hbq, hbo, hbr, hz⟩ := Dz.start h #[.int .i64 b, .int .i64 t, .slice p n c] #[.int .i64 5, .int .i64 xn, .int .i64 xm, .int .i64 tx, .string dx] #[.int .i64 0, .int .i64 0, .slice none 0 0] 30 36 30
  obtain ⟨loc, hloc⟩ : ∃ loc : Nat → Prop, loc = fun k => loc0 k ∨ (X.heap.size ≤ k ∧ k < u.heap.size) := ⟨_, rfl⟩
  rw [← hloc] at hz
  have HL0 : Hid (∀ k, loc0 k → loc k ∧ k < X.heap.size) := fun k hk => ⟨by rw [hloc]; exact .inl hk, h.there hk⟩
  have HBr : Hid (X.heap.size ≤ br ∧ br < u.heap.size) := ⟨hz.r.ge, hz.r.lt⟩
  have HZ : Hid _ := hz
  have u0 : u.cell? ⟨bq, 0, none⟩ = some (.int .i64 b) := hz.q.c 0
  have u1 : u.cell? ⟨bq, 1, none⟩ = some (.int .i64 t) := hz.q.c 1
  have u2 : u.cell? ⟨bq, 2, none⟩ = some (.slice p n c) := hz.q.c 2
  have o1 : u.cell? ⟨bo, 1, none⟩ = some (.int .i64 xn) := hz.o.c 1
  have o2 : u.cell? ⟨bo, 2, none⟩ = some (.int .i64 xm) := hz.o.c 2
  have o3 : u.cell? ⟨bo, 3, none⟩ = some (.int .i64 tx) := hz.o.c 3
  have o4 : u.cell? ⟨bo, 3 + 1, none⟩ = some (.string dx) := hz.o.c 4
  have hne1 : bq ≠ br := by omega
  have hne2 : bo ≠ br := by omega
  have HO : Hid (∀ Y, Dz w X Y B ⟨b, t, l⟩ ⟨b, t, l⟩ (.slice p n c) loc bq bo br #[.int .i64 b, .int .i64 t, .slice p n c] #[.int .i64 5, .int .i64 xn, .int .i64 xm, .int .i64 tx, .string dx] #[.int .i64 0, .int .i64 0, .slice none 0 0] → ∀ x y z, DoesOut w X B loc0 (.slice p n c) ⟨b, t, l⟩ (.returned (.tuple #[.agg #[.int .i64 b, .int .i64 t, .slice p n c], .bool true])) (((Y.setCell ⟨br, 0, none⟩ x).setCell ⟨br, 1, none⟩ y).setCell ⟨br, 2, none⟩ z)) := fun Y hY x y z => ⟨.slice p n c, rfl, hY.stop HL0.out (fun e => by have := HV.out br e; have := HBr.out.1; omega) HW.out x y z, fun k hk => .inl hk⟩
  have HT : Hid (∀ Y, Dz w X Y B ⟨b, t, l⟩ ⟨b, t, l⟩ (.slice p n c) loc bq bo br #[.int .i64 b, .int .i64 t, .slice p n c] #[.int .i64 5, .int .i64 xn, .int .i64 xm, .int .i64 tx, .string dx] #[.int .i64 0, .int .i64 0, .slice none 0 0] → Calls Try.prog 20 #[.pointer (some ⟨B, 0, none⟩), .int .i64 xn] Y fun e w' => e = .returned (.tuple #[.agg #[.int .i64 (G.entryA ⟨b, t, l⟩ xn).1, .string (G.entryA ⟨b, t, l⟩ xn).2], .int .i64 (G.entryE ⟨b, t, l⟩ xn)]) ∧ Dz w X w' B ⟨b, t, l⟩ ⟨b, t, l⟩ (.slice p n c) loc bq bo br #[.int .i64 b, .int .i64 t, .slice p n c] #[.int .i64 5, .int .i64 xn, .int .i64 xm, .int .i64 tx, .string dx] #[.int .i64 0, .int .i64 0, .slice none 0 0]) := by
    intro Y hY
    obtain ⟨own, h1, _⟩ := hY.rl
    refine (Entry_c h1 xn).mono ?_
    rintro e w' ⟨he, hb⟩
    exact ⟨he, hY.below hb⟩
  have HR5 : Hid (∀ Y, Dz w X Y B ⟨b, t, l⟩ ⟨b, t, l⟩ (.slice p n c) loc bq bo br #[.int .i64 b, .int .i64 t, .slice p n c] #[.int .i64 5, .int .i64 xn, .int .i64 xm, .int .i64 tx, .string dx] #[.int .i64 0, .int .i64 0, .slice none 0 0] → Calls Try.prog 26 #[.agg #[.int .i64 b, .int .i64 t, .slice p n c], .int .i64 xn] Y fun e w' => e = .returned (.tuple #[.agg #[.int .i64 (G.entryA ⟨b, t, l⟩ xn).1, .string (G.entryA ⟨b, t, l⟩ xn).2], .int .i64 (G.entryE ⟨b, t, l⟩ xn)]) ∧ Dz w X w' B ⟨b, t, l⟩ ⟨b, t, l⟩ (.slice p n c) loc bq bo br #[.int .i64 b, .int .i64 t, .slice p n c] #[.int .i64 5, .int .i64 xn, .int .i64 xm, .int .i64 tx, .string dx] #[.int .i64 0, .int .i64 0, .slice none 0 0] ∧ Below Y.heap.size Y w') := by
    intro Y hY
    refine (rEntry_c (s := ⟨b, t, l⟩) (v := .slice p n c) hY.p.ent hok xn).mono ?_
    rintro e w' ⟨he, hb⟩
    exact ⟨he, hY.below hb, hb⟩
  generalize G.entryA ⟨b, t, l⟩ xn = ea at HT HR5
  generalize G.entryE ⟨b, t, l⟩ xn = te at HT HR5
  obtain ⟨et, ed⟩ := ea
  dsimp only at HT HR5
  have HB5 : Hid (∀ Y, Dz w X Y B ⟨b, t, l⟩ ⟨b, t, l⟩ (.slice p n c) loc bq bo br #[.int .i64 b, .int .i64 t, .slice p n c] #[.int .i64 5, .int .i64 xn, .int .i64 xm, .int .i64 tx, .string dx] #[.int .i64 0, .int .i64 0, .slice none 0 0] → ∀ Z, Below Y.heap.size Y Z → Dz w X Z B ⟨b, t, l⟩ ⟨b, t, l⟩ (.slice p n c) loc bq bo br #[.int .i64 b, .int .i64 t, .slice p n c] #[.int .i64 5, .int .i64 xn, .int .i64 xm, .int .i64 tx, .string dx] #[.int .i64 0, .int .i64 0, .slice none 0 0]) := fun Y hY Z hb => hY.below hb
  have t1 : (et == et) = true := by simp
  have t3 : (ed.toList == ed.toList) = true := by simp
  have t2 : (te == te) = true := by simp
  unfold logV opV
  dsimp only
  clear h hz hn hloc hok
  go_enter Try.func11, Try.ntmps11
  go_wp2_with fail
  rw [← hu, ← hbr, ← hbo, ← hbq]
  clear hu hbr hbo hbq
  refine Calls.mono (HT.out _ HZ.out) ?_
  rintro e w1 ⟨rfl, h1⟩
  have H1 : Hid _ := h1
  have v0 : w1.cell? ⟨bq, 0, none⟩ = some (.int .i64 b) := h1.q.c 0
  have v1 : w1.cell? ⟨bq, 1, none⟩ = some (.int .i64 t) := h1.q.c 1
  have v2 : w1.cell? ⟨bq, 2, none⟩ = some (.slice p n c) := h1.q.c 2
  have y1 : w1.cell? ⟨bo, 1, none⟩ = some (.int .i64 xn) := h1.o.c 1
  have y2 : w1.cell? ⟨bo, 2, none⟩ = some (.int .i64 xm) := h1.o.c 2
  have y3 : w1.cell? ⟨bo, 3, none⟩ = some (.int .i64 tx) := h1.o.c 3
  have y4 : w1.cell? ⟨bo, 3 + 1, none⟩ = some (.string dx) := h1.o.c 4
  have hq1 := h1.q.lt
  have ho1 := h1.o.lt
  clear h1 u0 u1 u2 o1 o2 o3 o4
  go_wp2_with fail
  obtain ⟨W, hW⟩ : ∃ W, W = w1.alloc (.cells #[.int .i64 et, .string ed] 34) := ⟨_, rfl⟩
  obtain ⟨ba, hba⟩ : ∃ ba, ba = w1.heap.size := ⟨_, rfl⟩
  have hbW : Below w1.heap.size w1 W := by rw [hW]; exact below_alloc _ _
  have a0 : W.cell? ⟨ba, 0, none⟩ = some (.int .i64 et) := by rw [hW, hba]; exact World.cell?_alloc_mark w1 _ _ _ 0
  have a1 : W.cell? ⟨ba, 1, none⟩ = some (.string ed) := by rw [hW, hba]; exact World.cell?_alloc_mark w1 _ _ _ 1
  have hal : ba < W.heap.size := World.block_lt_of_cell? _ _ a0
  have HW1 : Hid _ := HB5.out _ H1.out W hbW
  rw [← hW]
  try rw [← hba]
  clear hW hba hbW hq1 ho1
  refine Calls.mono (HR5.out _ HW1.out) ?_
  rintro e w2 ⟨rfl, h2, hb2⟩
  have H2 : Hid _ := h2
  have z0 : w2.cell? ⟨bq, 0, none⟩ = some (.int .i64 b) := h2.q.c 0
  have z1 : w2.cell? ⟨bq, 1, none⟩ = some (.int .i64 t) := h2.q.c 1
  have z2 : w2.cell? ⟨bq, 2, none⟩ = some (.slice p n c) := h2.q.c 2
  have x1 : w2.cell? ⟨bo, 1, none⟩ = some (.int .i64 xn) := h2.o.c 1
  have x2 : w2.cell? ⟨bo, 2, none⟩ = some (.int .i64 xm) := h2.o.c 2
  have x3 : w2.cell? ⟨bo, 3, none⟩ = some (.int .i64 tx) := h2.o.c 3
  have x4 : w2.cell? ⟨bo, 3 + 1, none⟩ = some (.string dx) := h2.o.c 4
  have r0 : w2.cell? ⟨br, 0, none⟩ = some (.int .i64 0) := h2.r.c 0
  have r1 : w2.cell? ⟨br, 1, none⟩ = some (.int .i64 0) := h2.r.c 1
  have r2 : w2.cell? ⟨br, 2, none⟩ = some (.slice none 0 0) := h2.r.c 2
  have rf0 := h2.r.f 0
  have rf1 := h2.r.f 1
  have rf2 := h2.r.f 2
  have c0 : w2.cell? ⟨ba, 0, none⟩ = some (.int .i64 et) := (hb2.cell (p := ⟨ba, 0, none⟩) hal).trans a0
  have c1 : w2.cell? ⟨ba, 1, none⟩ = some (.string ed) := (hb2.cell (p := ⟨ba, 1, none⟩) hal).trans a1
  have hal2 : ba < w2.heap.size := World.block_lt_of_cell? _ _ c0
  have hbrl := h2.r.lt
  have hbql := h2.q.lt
  clear h2 hb2 v0 v1 v2 y1 y2 y3 y4 a0 a1
  have HF : Hid (∀ x y z, DoesOut w X B loc0 (.slice p n c) ⟨b, t, l⟩ (.returned (.tuple #[.agg #[.int .i64 b, .int .i64 t, .slice p n c], .bool true])) ((((w2.setCell ⟨br, 0, none⟩ x).setCell ⟨br, 1, none⟩ y).setCell ⟨br, 2, none⟩ z).alloc (.cells #[.int .i64 et, .string ed] 34)).drew) := by
    intro x y z
    obtain ⟨v', e1, ⟨e2, e3, e4⟩, e5⟩ := HO.out _ H2.out x y z
    have hb := (below_alloc (((w2.setCell ⟨br, 0, none⟩ x).setCell ⟨br, 1, none⟩ y).setCell ⟨br, 2, none⟩ z) (.cells #[.int .i64 et, .string ed] 34)).drew
    exact ⟨v', e1, ⟨e2.below hb, fun k hk => (hb.block k (e2.there (.inl hk))).trans (e3 k hk), Nat.le_trans e4 hb.size⟩, e5⟩
  go_wp2
  go_region
  go_wp2
  refine bodyPost_ret (v := .tuple #[.agg #[.int .i64 b, .int .i64 t, .slice p n c], .bool true]) ?qres rfl ?qpost
  case qres => simp [results, Try.results11, go_sem, r0, r1, r2, hbrl]
  case qpost => exact HF.out _ _ _

end
end Go.Proofs.Ytamoapbbkaagdaa
