/-
  The law package's 'does': a call on both sides (kind 7).
-/
import Derived.Test.YtamoapbbkaagdaaRlDoes
namespace Go.Proofs.Ytamoapbbkaagdaa
open Go.RowKit

section
variable {w X : World} {B : Nat} {s : G.L} {v : Value} {loc0 : Nat → Prop}

set_option maxHeartbeats 3200000 in
set_option maxRecDepth 20000 in
theorem does_7 (h : P6 w X B s s v loc0) (x : Op6) (hK : x.kind = 7) :
    Calls Try.prog 11 #[.pointer (some ⟨B, 0, none⟩), logV s v, opV x] X (DoesOut w X B loc0 v (step6 s x)) := by
  have hst : step6 s x = s := by unfold step6; rw [if_neg (by omega), if_neg (by omega), if_neg (by omega)]
  rw [hst]
  have HV : Hid (∀ k, readBlk v = some k → k < X.heap.size) := fun k hk => readBlk_lt h hk
  have HW : Hid (w.heap.size ≤ X.heap.size) := h.old.size
  have hok := h.ok
  have hent := h.ent
  obtain ⟨p, c, hv, _, _, _⟩ := hent
  obtain ⟨n, hn⟩ : ∃ n, n = s.ents.length := ⟨_, rfl⟩
  rw [← hn] at hv
  subst hv
  obtain ⟨kind, xn, xm, tx, dx⟩ := x
  obtain ⟨b, t, l⟩ := s
  dsimp only at hK ⊢
  subst hK
  obtain ⟨u, bq, bo, br, hu, hbq, hbo, hbr, hz⟩ := Dz.start h #[.int .i64 b, .int .i64 t, .slice p n c] #[.int .i64 7, .int .i64 xn, .int .i64 xm, .int .i64 tx, .string dx] #[.int .i64 0, .int .i64 0, .slice none 0 0] 30 36 30
  obtain ⟨loc, hloc⟩ : ∃ loc : Nat → Prop, loc = fun k => loc0 k ∨ (X.heap.size ≤ k ∧ k < u.heap.size) := ⟨_, rfl⟩
  rw [← hloc] at hz
  have HL0 : Hid (∀ k, loc0 k → loc k ∧ k < X.heap.size) := fun k hk => ⟨by rw [hloc]; exact .inl hk, h.there hk⟩
  have HBr : Hid (X.heap.size ≤ br ∧ br < u.heap.size) := ⟨hz.r.ge, hz.r.lt⟩
  have HZ : Hid _ := hz
  have u0 : u.cell? ⟨bq, 0, none⟩ = some (.int .i64 b) := hz.q.c 0
  have u1 : u.cell? ⟨bq, 1, none⟩ = some (.int .i64 t) := hz.q.c 1
  have u2 : u.cell? ⟨bq, 2, none⟩ = some (.slice p n c) := hz.q.c 2
  have o1 : u.cell? ⟨bo, 1, none⟩ = some (.int .i64 xn) := hz.o.c 1
  have o2 : u.cell? ⟨bo, 2, none⟩ = some (.int .i64 xm) := hz.o.c 2
  have o3 : u.cell? ⟨bo, 3, none⟩ = some (.int .i64 tx) := hz.o.c 3
  have o4 : u.cell? ⟨bo, 3 + 1, none⟩ = some (.string dx) := hz.o.c 4
  have hne1 : bq ≠ br := by omega
  have hne2 : bo ≠ br := by omega
  have HO : Hid (∀ Y, Dz w X Y B ⟨b, t, l⟩ ⟨b, t, l⟩ (.slice p n c) loc bq bo br #[.int .i64 b, .int .i64 t, .slice p n c] #[.int .i64 7, .int .i64 xn, .int .i64 xm, .int .i64 tx, .string dx] #[.int .i64 0, .int .i64 0, .slice none 0 0] → ∀ x y z, DoesOut w X B loc0 (.slice p n c) ⟨b, t, l⟩ (.returned (.tuple #[.agg #[.int .i64 b, .int .i64 t, .slice p n c], .bool true])) (((Y.setCell ⟨br, 0, none⟩ x).setCell ⟨br, 1, none⟩ y).setCell ⟨br, 2, none⟩ z)) := fun Y hY x y z => ⟨.slice p n c, rfl, hY.stop HL0.out (fun e => by have := HV.out br e; have := HBr.out.1; omega) HW.out x y z, fun k hk => .inl hk⟩
  have HT : Hid (∀ Y, Dz w X Y B ⟨b, t, l⟩ ⟨b, t, l⟩ (.slice p n c) loc bq bo br #[.int .i64 b, .int .i64 t, .slice p n c] #[.int .i64 7, .int .i64 xn, .int .i64 xm, .int .i64 tx, .string dx] #[.int .i64 0, .int .i64 0, .slice none 0 0] → Calls Try.prog 19 #[.pointer (some ⟨B, 0, none⟩), .int .i64 xn, .int .i64 xm] Y fun e w' => e = .returned (.bool (G.newer ⟨b, t, l⟩ xn xm)) ∧ Dz w X w' B ⟨b, t, l⟩ ⟨b, t, l⟩ (.slice p n c) loc bq bo br #[.int .i64 b, .int .i64 t, .slice p n c] #[.int .i64 7, .int .i64 xn, .int .i64 xm, .int .i64 tx, .string dx] #[.int .i64 0, .int .i64 0, .slice none 0 0]) := by
    intro Y hY
    obtain ⟨own, h1, _⟩ := hY.rl
    refine (Newer_c h1 xn xm).mono ?_
    rintro e w' ⟨he, m, hw⟩
    exact ⟨he, by rw [hw]; exact hY.below (below_drewN _ m)⟩
  have HR : Hid (∀ Y, Dz w X Y B ⟨b, t, l⟩ ⟨b, t, l⟩ (.slice p n c) loc bq bo br #[.int .i64 b, .int .i64 t, .slice p n c] #[.int .i64 7, .int .i64 xn, .int .i64 xm, .int .i64 tx, .string dx] #[.int .i64 0, .int .i64 0, .slice none 0 0] → Calls Try.prog 29 #[.agg #[.int .i64 b, .int .i64 t, .slice p n c], .int .i64 xn, .int .i64 xm] Y fun e w' => e = .returned (.bool (G.newer ⟨b, t, l⟩ xn xm)) ∧ Dz w X w' B ⟨b, t, l⟩ ⟨b, t, l⟩ (.slice p n c) loc bq bo br #[.int .i64 b, .int .i64 t, .slice p n c] #[.int .i64 7, .int .i64 xn, .int .i64 xm, .int .i64 tx, .string dx] #[.int .i64 0, .int .i64 0, .slice none 0 0]) := by
    intro Y hY
    refine (rNewer_c (s := ⟨b, t, l⟩) (v := .slice p n c) hY.p.ent hok xn xm).mono ?_
    rintro e w' ⟨he, hb⟩
    exact ⟨he, hY.below hb⟩
  generalize G.newer ⟨b, t, l⟩ xn xm = nb at HT HR
  have t1 : (nb == nb) = true := by simp
  have hgd : Dz w X u.drew B ⟨b, t, l⟩ ⟨b, t, l⟩ (.slice p n c) loc bq bo br #[.int .i64 b, .int .i64 t, .slice p n c] #[.int .i64 7, .int .i64 xn, .int .i64 xm, .int .i64 tx, .string dx] #[.int .i64 0, .int .i64 0, .slice none 0 0] := hz.below (below_drewN _ 1)
  have HK : Hid (∀ Y, Dz w X Y B ⟨b, t, l⟩ ⟨b, t, l⟩ (.slice p n c) loc bq bo br #[.int .i64 b, .int .i64 t, .slice p n c] #[.int .i64 7, .int .i64 xn, .int .i64 xm, .int .i64 tx, .string dx] #[.int .i64 0, .int .i64 0, .slice none 0 0] → Y.cell? ⟨bq, 0, none⟩ = some (.int .i64 b) ∧ Y.cell? ⟨bq, 1, none⟩ = some (.int .i64 t) ∧ Y.cell? ⟨bq, 2, none⟩ = some (.slice p n c) ∧ Y.cell? ⟨bo, 1, none⟩ = some (.int .i64 xn) ∧ Y.cell? ⟨bo, 2, none⟩ = some (.int .i64 xm)) := fun Y hY => ⟨hY.q.c 0, hY.q.c 1, hY.q.c 2, hY.o.c 1, hY.o.c 2⟩
  have HK3 : Hid (∀ Y x y z, Dz w X Y B ⟨b, t, l⟩ ⟨b, t, l⟩ (.slice p n c) loc bq bo br #[.int .i64 b, .int .i64 t, .slice p n c] #[.int .i64 7, .int .i64 xn, .int .i64 xm, .int .i64 tx, .string dx] #[.int .i64 0, .int .i64 0, .slice none 0 0] → (((Y.setCell ⟨br, 0, none⟩ x).setCell ⟨br, 1, none⟩ y).setCell ⟨br, 2, none⟩ z).cell? ⟨bq, 0, none⟩ = some (.int .i64 b) ∧ (((Y.setCell ⟨br, 0, none⟩ x).setCell ⟨br, 1, none⟩ y).setCell ⟨br, 2, none⟩ z).cell? ⟨bq, 1, none⟩ = some (.int .i64 t) ∧ (((Y.setCell ⟨br, 0, none⟩ x).setCell ⟨br, 1, none⟩ y).setCell ⟨br, 2, none⟩ z).cell? ⟨bq, 2, none⟩ = some (.slice p n c) ∧ (((Y.setCell ⟨br, 0, none⟩ x).setCell ⟨br, 1, none⟩ y).setCell ⟨br, 2, none⟩ z).cell? ⟨bo, 1, none⟩ = some (.int .i64 xn) ∧ (((Y.setCell ⟨br, 0, none⟩ x).setCell ⟨br, 1, none⟩ y).setCell ⟨br, 2, none⟩ z).cell? ⟨bo, 2, none⟩ = some (.int .i64 xm)) := by
    intro Y x y z hY
    have hq : ∀ (a : Addr), a.block ≠ br → (((Y.setCell ⟨br, 0, none⟩ x).setCell ⟨br, 1, none⟩ y).setCell ⟨br, 2, none⟩ z).cell? a = Y.cell? a := fun a ha => by
      rw [World.cell?_of_block (a := a) (Below.heap_setCell _ _ _ _ ha), World.cell?_of_block (a := a) (Below.heap_setCell _ _ _ _ ha), World.cell?_of_block (a := a) (Below.heap_setCell _ _ _ _ ha)]
    rw [hq _ hne1, hq _ hne1, hq _ hne1, hq _ hne2, hq _ hne2]
    exact HK.out Y hY
  unfold logV opV
  dsimp only
  clear h hz hn hloc hok
  go_enter Try.func11, Try.ntmps11
  go_wp2
  rw [← hu, ← hbr, ← hbo, ← hbq]
  clear hu hbr hbo hbq
  clear u0 u1 u2 o1 o2 o3 o4
  go_region_held (fun Y => Y.cell? ⟨bq, 0, none⟩ = some (.int .i64 b) ∧ Y.cell? ⟨bq, 1, none⟩ = some (.int .i64 t) ∧ Y.cell? ⟨bq, 2, none⟩ = some (.slice p n c) ∧ Y.cell? ⟨bo, 1, none⟩ = some (.int .i64 xn) ∧ Y.cell? ⟨bo, 2, none⟩ = some (.int .i64 xm))
    (first | exact HK.out _ (by assumption) | exact HK3.out _ _ _ _ (by assumption))
    (first
      | (go_at_call 19; refine (HT.out _ ?_).mono ?_; assumption; rintro e w1 ⟨rfl, hg1⟩)
      | (go_at_call 29; refine (HR.out _ ?_).mono ?_; assumption; rintro e w2 ⟨rfl, hg2⟩; have r0 : w2.cell? ⟨br, 0, none⟩ = some (.int .i64 0) := hg2.r.c 0; have r1 : w2.cell? ⟨br, 1, none⟩ = some (.int .i64 0) := hg2.r.c 1; have r2 : w2.cell? ⟨br, 2, none⟩ = some (.slice none 0 0) := hg2.r.c 2; have rf0 := hg2.r.f 0; have rf1 := hg2.r.f 1; have rf2 := hg2.r.f 2))
  have H2 : Hid _ := hg2
  clear hg1 hg2 hgd
  go_wp2
  refine bodyPost_ret (v := .tuple #[.agg #[.int .i64 b, .int .i64 t, .slice p n c], .bool true]) ?qres rfl ?qpost
  case qres => simp [results, Try.results11, go_sem, r0, r1, r2]
  case qpost => exact HO.out _ H2.out _ _ _

end
end Go.Proofs.Ytamoapbbkaagdaa
