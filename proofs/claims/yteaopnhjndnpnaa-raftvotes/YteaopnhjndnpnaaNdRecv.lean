/-
  A raft node receives a message.
-/
import Derived.Test.YteaopnhjndnpnaaNdNotedR
import Derived.Test.YteaopnhjndnpnaaNdMay
import Derived.Test.YteaopnhjndnpnaaNdOne3
namespace Go.Proofs.Yteaopnhjndnpnaa
open Go.RowKit

/-- The node behind the look at a message's term. -/
def recv1 (s : N.St) (m : N.Msg) : N.St := if s.term < m.term then { s with term := m.term, vote := -1, role := 1, lead := -1 } else s

theorem callT (k : Int) (args : Array Value) (u : World) : (callFunc (takeF k) args).run Try.prog u = .ok (.enter (takeF k) args) u := by
  unfold takeF
  split
  · kernel_rfl
  · split
    · kernel_rfl
    · split
      · kernel_rfl
      · split <;> kernel_rfl

section
variable {w : World} {B : Nat} {s : N.St} {own : Nat → Prop}

/-- While a message is taken: the node, the message in block bM, the node's address in block bN. -/
structure Rk (w : World) (B : Nat) (s : N.St) (own : Nat → Prop) (LB MB : Nat) (ol : Nat → Prop) (rv : Value) (m : N.Msg) (ev : Value) (bM bN : Nat) (X : World) : Prop where
  nk : Nk w own B s LB MB ol rv X
  cM : ∀ j, X.cell? ⟨bM, j, none⟩ = (msgOne m ev)[j]?
  cN : X.cell? ⟨bN, 0, none⟩ = some (.pointer (some ⟨B, 0, none⟩))
  nM : bM ≠ B
  nN : bN ≠ B
  lM : bM < X.heap.size
  lN : bN < X.heap.size
  oM : ¬ own bM
  oN : ¬ own bN
variable {LB MB : Nat} {ol : Nat → Prop} {rv : Value} {m : N.Msg} {ev : Value} {bM bN : Nat}
theorem Rk.below {X Y : World} (h : Rk w B s own LB MB ol rv m ev bM bN X) (hb : Below X.heap.size X Y) : Rk w B s own LB MB ol rv m ev bM bN Y :=
  ⟨h.nk.below hb, fun j => (hb.cell (p := ⟨bM, j, none⟩) h.lM).trans (h.cM j), (hb.cell (p := ⟨bN, 0, none⟩) h.lN).trans h.cN, h.nM, h.nN, Nat.lt_of_lt_of_le h.lM hb.size, Nat.lt_of_lt_of_le h.lN hb.size, h.oM, h.oN⟩
theorem Rk.set {X : World} {st : N.St} (h : Rk w B s own LB MB ol rv m ev bM bN X) (o : Nat) (v : Value) (hn : NdV (X.setCell ⟨B, o, none⟩ v) B st own LB MB ol rv) : Rk w B st own LB MB ol rv m ev bM bN (X.setCell ⟨B, o, none⟩ v) :=
  ⟨⟨hn, h.nk.kept.setB _ _⟩, fun j => (World.cell?_of_block (a := ⟨bM, j, none⟩) (Below.heap_setCell _ _ _ _ h.nM)).trans (h.cM j), (World.cell?_of_block (a := ⟨bN, 0, none⟩) (Below.heap_setCell _ _ _ _ h.nN)).trans h.cN, h.nM, h.nN, by rw [size_set6]; exact h.lM, by rw [size_set6]; exact h.lN, h.oM, h.oN⟩

set_option maxHeartbeats 1600000 in
set_option maxRecDepth 20000 in
theorem Recv1_c (hR : Rk w B s own LB MB ol rv m ev bM bN w) (hk : 1 ≤ m.kind ∧ m.kind ≤ 5) {p : Option Addr} {n c : Nat} (hev : ev = .slice p n c) {s' : N.St} {M : World → (Nat → Prop) → Value → Prop}
    (H : ∀ X, AftN own w X B (recv1 s m) own → Calls Try.prog (takeF m.kind) #[.pointer (some ⟨B, 0, none⟩), msgV m ev] X (fun e w' => ∃ p n c own', e = .returned (.slice p n c) ∧ AftN own X w' B s' own' ∧ M w' own' (.slice p n c))) :
    Calls Try.prog 40 #[.pointer (some ⟨bM, 0, none⟩), .pointer (some ⟨bN, 0, none⟩)] w (fun e w' => ∃ p n c own', e = .returned (.slice p n c) ∧ AftN own w w' B s' own' ∧ M w' own' (.slice p n c)) := by
  subst hev
  have HT : Hid (∀ X st, st = recv1 s m → Rk w B st own LB MB ol rv m (.slice p n c) bM bN X → Calls Try.prog (takeF m.kind) #[.pointer (some ⟨B, 0, none⟩), msgV m (.slice p n c)] X (fun e w' => ∃ p n c own', e = .returned (.slice p n c) ∧ AftN own w w' B s' own' ∧ M w' own' (.slice p n c))) := fun X st hst hX => by
    subst hst
    refine (H X hX.nk.aft).mono ?_
    rintro e w' ⟨p, n, c, own', rfl, ha, hm⟩
    exact ⟨p, n, c, own', rfl, hX.nk.aft.trans ha, hm⟩
  have HL : Hid (∀ X st, Rk w B st own LB MB ol rv m (.slice p n c) bM bN X → (Instr.lookup 49 (.map (some MB)) (.int .i64 m.kind) false).run Try.prog X = .ok (fnT (takeF m.kind)) X) := fun X st hX => look_take m.kind hk X MB hX.nk.nd.map false
  obtain ⟨mk, mg, mf, mo, mt, mi, ma, me, mc, mok, md⟩ := m
  have HE : Hid (recv1 s ⟨mk, mg, mf, mo, mt, mi, ma, me, mc, mok, md⟩ = if s.term < mt then { s with term := mt, vote := -1, role := 1, lead := -1 } else s) := rfl
  have HCT : Hid (∀ (args : Array Value) (u : World), (callFunc (takeF mk) args).run Try.prog u = .ok (.enter (takeF mk) args) u) := callT mk
  unfold fnT at HL
  have k6 : w.cell? ⟨B, 6, none⟩ = some (.int .i64 s.term) := hR.nk.nd.at 6 _ rfl
  have k7 : w.cell? ⟨B, 7, none⟩ = some (.int .i64 s.vote) := hR.nk.nd.at 7 _ rfl
  have k8 : w.cell? ⟨B, 8, none⟩ = some (.int .i64 s.role) := hR.nk.nd.at 8 _ rfl
  have k9 : w.cell? ⟨B, 9, none⟩ = some (.int .i64 s.lead) := hR.nk.nd.at 9 _ rfl
  have f6 := hR.nk.nd.fz 6 (by decide)
  have f7 := hR.nk.nd.fz 7 (by decide)
  have f8 := hR.nk.nd.fz 8 (by decide)
  have f9 := hR.nk.nd.fz 9 (by decide)
  have kM : w.cell? ⟨bM, 4, none⟩ = some (.int .i64 mt) := hR.cM 4
  have kN := hR.cN
  have hnM := hR.nM
  have hnN := hR.nN
  have HR : Hid _ := hR
  dsimp only at HT HL
  have HSS : Hid (∀ X st, Rk w B st own LB MB ol rv ⟨mk, mg, mf, mo, mt, mi, ma, me, mc, mok, md⟩ (.slice p n c) bM bN X → (fun Y => Y.cell? ⟨bN, 0, none⟩ = some (.pointer (some ⟨B, 0, none⟩)) ∧ Y.cell? ⟨bM, 0, none⟩ = some (.int .i64 mk) ∧ Y.cell? ⟨bM, 1, none⟩ = some (.int .i64 mg) ∧ Y.cell? ⟨bM, 2, none⟩ = some (.int .i64 mf) ∧ Y.cell? ⟨bM, 3, none⟩ = some (.int .i64 mo) ∧ Y.cell? ⟨bM, 4, none⟩ = some (.int .i64 mt) ∧ Y.cell? ⟨bM, 5, none⟩ = some (.int .i64 mi) ∧ Y.cell? ⟨bM, 6, none⟩ = some (.int .i64 ma) ∧ Y.cell? ⟨bM, 7, none⟩ = some (.slice p n c) ∧ Y.cell? ⟨bM, 8, none⟩ = some (.int .i64 mc) ∧ Y.cell? ⟨bM, 9, none⟩ = some (.bool mok) ∧ Y.cell? ⟨bM, 10, none⟩ = some (.string md)) X) := fun X st hX =>
    ⟨hX.cN, hX.cM 0, hX.cM 1, hX.cM 2, hX.cM 3, hX.cM 4, hX.cM 5, hX.cM 6, hX.cM 7, hX.cM 8, hX.cM 9, hX.cM 10⟩
  have HS2 : Hid (∀ Y o, AftN own w Y B s' o → (fun Y => Y.cell? ⟨bN, 0, none⟩ = some (.pointer (some ⟨B, 0, none⟩)) ∧ Y.cell? ⟨bM, 0, none⟩ = some (.int .i64 mk) ∧ Y.cell? ⟨bM, 1, none⟩ = some (.int .i64 mg) ∧ Y.cell? ⟨bM, 2, none⟩ = some (.int .i64 mf) ∧ Y.cell? ⟨bM, 3, none⟩ = some (.int .i64 mo) ∧ Y.cell? ⟨bM, 4, none⟩ = some (.int .i64 mt) ∧ Y.cell? ⟨bM, 5, none⟩ = some (.int .i64 mi) ∧ Y.cell? ⟨bM, 6, none⟩ = some (.int .i64 ma) ∧ Y.cell? ⟨bM, 7, none⟩ = some (.slice p n c) ∧ Y.cell? ⟨bM, 8, none⟩ = some (.int .i64 mc) ∧ Y.cell? ⟨bM, 9, none⟩ = some (.bool mok) ∧ Y.cell? ⟨bM, 10, none⟩ = some (.string md)) Y) := fun Y o ha => by
    have hM : Y.heap[bM]? = w.heap[bM]? := ha.2.1.block bM hR.lM hR.nM hR.oM
    have hN : Y.heap[bN]? = w.heap[bN]? := ha.2.1.block bN hR.lN hR.nN hR.oN
    have cM : ∀ j, Y.cell? ⟨bM, j, none⟩ = _ := fun j => (World.cell?_of_block (a := ⟨bM, j, none⟩) hM).trans (hR.cM j)
    exact ⟨(World.cell?_of_block (a := ⟨bN, 0, none⟩) hN).trans hR.cN, cM 0, cM 1, cM 2, cM 3, cM 4, cM 5, cM 6, cM 7, cM 8, cM 9, cM 10⟩
  clear hR H hk
  unfold msgV msgOne at HT
  dsimp only at HT
  generalize htf : takeF mk = tf at HT HCT HL
  have HS : Hid _ := HSS
  clear HSS htf
  by_cases c1 : s.term < mt
  · have d1 : decide (s.term < mt) = true := decide_eq_true c1
    have HEq : Hid ({ s with term := mt, vote := -1, role := 1, lead := -1 } = recv1 s ⟨mk, mg, mf, mo, mt, mi, ma, me, mc, mok, md⟩) := by show _ = _; rw [HE.out, if_pos c1]
    have HEn : Hid (∀ k, Rk w B { s with term := mt, vote := -1, role := 1, lead := -1 } own LB MB ol rv ⟨mk, mg, mf, mo, mt, mi, ma, me, mc, mok, md⟩ (.slice p n c) bM bN (((((w.drewN k).setCell ⟨B, 6, none⟩ (.int .i64 mt)).setCell ⟨B, 7, none⟩ (.int .i64 (-1))).setCell ⟨B, 8, none⟩ (.int .i64 1)).setCell ⟨B, 9, none⟩ (.int .i64 (-1)))) := fun k => by
      have r0 := HR.out.below (below_drewN w k)
      have r1 := r0.set _ _ (r0.nk.nd.setTerm mt)
      have r2 := r1.set _ _ (r1.nk.nd.setVote (-1))
      have r3 := r2.set _ _ (r2.nk.nd.setRole 1)
      exact r3.set _ _ (r3.nk.nd.setLead (-1))
    clear c1
    go_enter Try.func40, Try.ntmps40
    go_wp2
    go_quiet (fail)
    go_wp2
    go_region
    go_wp2
    have HEn' : Hid _ := HEn.out nq
    obtain ⟨X, hX⟩ : ∃ X, X = (((((w.drewN nq).setCell ⟨B, 6, none⟩ (.int .i64 mt)).setCell ⟨B, 7, none⟩ (.int .i64 (-1))).setCell ⟨B, 8, none⟩ (.int .i64 1)).setCell ⟨B, 9, none⟩ (.int .i64 (-1))).drew := ⟨_, rfl⟩
    have hR := (HEn'.out.below (Below.refl _ _).drew).below (Below.refl _ _).drew
    rw [← hX] at hR ⊢
    clear hX k6 k7 k8 k9 f6 f7 f8 f9 kM kN HEn HEn'
    have x3 : X.drew.cell? ⟨B, 3, none⟩ = some (.map (some MB)) := hR.nk.nd.at 3 _ rfl
    have xl := HL.out _ _ hR
    refine wp_region_held_drew (S := fun Y => Y.cell? ⟨bN, 0, none⟩ = some (.pointer (some ⟨B, 0, none⟩)) ∧ Y.cell? ⟨bM, 0, none⟩ = some (.int .i64 mk) ∧ Y.cell? ⟨bM, 1, none⟩ = some (.int .i64 mg) ∧ Y.cell? ⟨bM, 2, none⟩ = some (.int .i64 mf) ∧ Y.cell? ⟨bM, 3, none⟩ = some (.int .i64 mo) ∧ Y.cell? ⟨bM, 4, none⟩ = some (.int .i64 mt) ∧ Y.cell? ⟨bM, 5, none⟩ = some (.int .i64 mi) ∧ Y.cell? ⟨bM, 6, none⟩ = some (.int .i64 ma) ∧ Y.cell? ⟨bM, 7, none⟩ = some (.slice p n c) ∧ Y.cell? ⟨bM, 8, none⟩ = some (.int .i64 mc) ∧ Y.cell? ⟨bM, 9, none⟩ = some (.bool mok) ∧ Y.cell? ⟨bM, 10, none⟩ = some (.string md)) (by kernel_rfl) (HS.out _ _ hR) (fun hH0 => ?_)
    refine take7 (i := 0) (d := 23) (v := .pointer (some ⟨B, 0, none⟩)) rfl rfl (by kernel_rfl) (by kernel_rfl) (by kernel_rfl) (fun _ _ _ h => h) (Or.inl ⟨by rfl, ?_⟩) (by assumption) ?_
    · intro X hSw
      go_simp
    simp only [Act.put, List.setIfInBounds_toArray, List.set_cons_zero, List.set_cons_succ]
    refine take7 (i := 1) (d := 24) (v := .pointer (some ⟨B, 0, none⟩)) rfl rfl (by kernel_rfl) (by kernel_rfl) (by kernel_rfl) (fun _ _ _ h => h) (Or.inl ⟨by rfl, ?_⟩) (by assumption) ?_
    · intro X hSw
      go_simp
    simp only [Act.put, List.setIfInBounds_toArray, List.set_cons_zero, List.set_cons_succ]
    refine take7 (i := 2) (d := 25) (v := .pointer (some ⟨B, 3, none⟩)) rfl rfl (by kernel_rfl) (by kernel_rfl) (by kernel_rfl) (fun _ _ _ h => h) (Or.inl ⟨by rfl, ?_⟩) (by assumption) ?_
    · intro X hSw
      go_simp
    simp only [Act.put, List.setIfInBounds_toArray, List.set_cons_zero, List.set_cons_succ]
    refine take7 (i := 4) (d := 27) (v := .pointer (some ⟨bM, 0, none⟩)) rfl rfl (by kernel_rfl) (by kernel_rfl) (by kernel_rfl) (fun _ _ _ h => h) (Or.inl ⟨by rfl, ?_⟩) (by assumption) ?_
    · intro X hSw
      go_simp
    simp only [Act.put, List.setIfInBounds_toArray, List.set_cons_zero, List.set_cons_succ]
    refine take7 (i := 5) (d := 28) (v := .int .i64 mk) rfl rfl (by kernel_rfl) (by kernel_rfl) (by kernel_rfl) (fun _ _ _ h => h) (Or.inl ⟨by rfl, ?_⟩) (by assumption) ?_
    · intro X hSw
      go_simp
    simp only [Act.put, List.setIfInBounds_toArray, List.set_cons_zero, List.set_cons_succ]
    refine take7 (i := 7) (d := 30) (v := .pointer (some ⟨B, 0, none⟩)) rfl rfl (by kernel_rfl) (by kernel_rfl) (by kernel_rfl) (fun _ _ _ h => h) (Or.inl ⟨by rfl, ?_⟩) (by assumption) ?_
    · intro X hSw
      go_simp
    simp only [Act.put, List.setIfInBounds_toArray, List.set_cons_zero, List.set_cons_succ]
    refine take7 (i := 8) (d := 31) (v := .agg #[.int .i64 mk, .int .i64 mg, .int .i64 mf, .int .i64 mo, .int .i64 mt, .int .i64 mi, .int .i64 ma, .slice p n c, .int .i64 mc, .bool mok, .string md]) rfl rfl (by kernel_rfl) (by kernel_rfl) (by kernel_rfl) (fun _ _ _ h => h) (Or.inl ⟨by rfl, ?_⟩) (by assumption) ?_
    · intro X hSw
      go_simp
    simp only [Act.put, List.setIfInBounds_toArray, List.set_cons_zero, List.set_cons_succ]
    refine wpAnyH_ready (rs := [3]) (by kernel_rfl) (by simp) ?_
    refine AllReadyH.cons rfl (fun K hK => ?_) AllReadyH.nil
    go_simp
    refine hK.out _ _ (HS.out _ _ hR) (fun hH1 => ?_)
    clear hK K hH0
    refine wpAnyH_ready (rs := [6]) (by kernel_rfl) (by simp) ?_
    refine AllReadyH.cons rfl (fun K hK => ?_) AllReadyH.nil
    go_simp
    refine hK.out _ _ (HS.out _ _ hR) (fun hH2 => ?_)
    clear hK K hH1
    refine wpAnyH_ready (rs := [9]) (by kernel_rfl) (by simp) ?_
    refine AllReadyH.cons rfl (fun K hK => ?_) AllReadyH.nil
    go_simp
    rw [HCT.out]
    go_simp
    refine Calls.mono (HT.out _ _ HEq.out hR) ?_
    rintro e w2 ⟨p2, n2, c2, own2, rfl, ha, hm⟩
    have hS2 := HS2.out w2 own2 ha
    have HA : Hid _ := ha
    have HMm : Hid _ := hm
    clear ha hm hR x3 xl
    go_wp2
    refine hK.out _ _ hS2 (fun hH3 => ?_)
    clear hK K hH2
    refine take7 (i := 10) (d := 2) (v := .slice p2 n2 c2) rfl rfl (by kernel_rfl) (by kernel_rfl) (by kernel_rfl) (fun _ _ _ h => h) (Or.inl ⟨by rfl, ?_⟩) (by assumption) ?_
    · intro X hSw
      go_simp
    simp only [Act.put, List.setIfInBounds_toArray, List.set_cons_zero, List.set_cons_succ]
    refine wpAnyH_done (by kernel_rfl) ?_ _
    clear hH3 hS2
    go_wp2
    go_ret
    exact ⟨p2, n2, c2, own2, rfl, HA.out, HMm.out⟩
  · have d1 : decide (s.term < mt) = false := decide_eq_false c1
    have HEq : Hid (s = recv1 s ⟨mk, mg, mf, mo, mt, mi, ma, me, mc, mok, md⟩) := by show _ = _; rw [HE.out, if_neg c1]
    clear c1
    go_enter Try.func40, Try.ntmps40
    go_wp2
    go_quiet (fail)
    go_wp2
    obtain ⟨X, hX⟩ : ∃ X, X = w.drewN nq := ⟨_, rfl⟩
    have hR := (HR.out.below (below_drewN w nq)).below (Below.refl _ _).drew
    rw [← hX] at hR ⊢
    clear hX k6 k7 k8 k9 f6 f7 f8 f9 kM kN
    have x3 : X.drew.cell? ⟨B, 3, none⟩ = some (.map (some MB)) := hR.nk.nd.at 3 _ rfl
    have xl := HL.out _ _ hR
    refine wp_region_held_drew (S := fun Y => Y.cell? ⟨bN, 0, none⟩ = some (.pointer (some ⟨B, 0, none⟩)) ∧ Y.cell? ⟨bM, 0, none⟩ = some (.int .i64 mk) ∧ Y.cell? ⟨bM, 1, none⟩ = some (.int .i64 mg) ∧ Y.cell? ⟨bM, 2, none⟩ = some (.int .i64 mf) ∧ Y.cell? ⟨bM, 3, none⟩ = some (.int .i64 mo) ∧ Y.cell? ⟨bM, 4, none⟩ = some (.int .i64 mt) ∧ Y.cell? ⟨bM, 5, none⟩ = some (.int .i64 mi) ∧ Y.cell? ⟨bM, 6, none⟩ = some (.int .i64 ma) ∧ Y.cell? ⟨bM, 7, none⟩ = some (.slice p n c) ∧ Y.cell? ⟨bM, 8, none⟩ = some (.int .i64 mc) ∧ Y.cell? ⟨bM, 9, none⟩ = some (.bool mok) ∧ Y.cell? ⟨bM, 10, none⟩ = some (.string md)) (by kernel_rfl) (HS.out _ _ hR) (fun hH0 => ?_)
    refine take7 (i := 0) (d := 23) (v := .pointer (some ⟨B, 0, none⟩)) rfl rfl (by kernel_rfl) (by kernel_rfl) (by kernel_rfl) (fun _ _ _ h => h) (Or.inl ⟨by rfl, ?_⟩) (by assumption) ?_
    · intro X hSw
      go_simp
    simp only [Act.put, List.setIfInBounds_toArray, List.set_cons_zero, List.set_cons_succ]
    refine take7 (i := 1) (d := 24) (v := .pointer (some ⟨B, 0, none⟩)) rfl rfl (by kernel_rfl) (by kernel_rfl) (by kernel_rfl) (fun _ _ _ h => h) (Or.inl ⟨by rfl, ?_⟩) (by assumption) ?_
    · intro X hSw
      go_simp
    simp only [Act.put, List.setIfInBounds_toArray, List.set_cons_zero, List.set_cons_succ]
    refine take7 (i := 2) (d := 25) (v := .pointer (some ⟨B, 3, none⟩)) rfl rfl (by kernel_rfl) (by kernel_rfl) (by kernel_rfl) (fun _ _ _ h => h) (Or.inl ⟨by rfl, ?_⟩) (by assumption) ?_
    · intro X hSw
      go_simp
    simp only [Act.put, List.setIfInBounds_toArray, List.set_cons_zero, List.set_cons_succ]
    refine take7 (i := 4) (d := 27) (v := .pointer (some ⟨bM, 0, none⟩)) rfl rfl (by kernel_rfl) (by kernel_rfl) (by kernel_rfl) (fun _ _ _ h => h) (Or.inl ⟨by rfl, ?_⟩) (by assumption) ?_
    · intro X hSw
      go_simp
    simp only [Act.put, List.setIfInBounds_toArray, List.set_cons_zero, List.set_cons_succ]
    refine take7 (i := 5) (d := 28) (v := .int .i64 mk) rfl rfl (by kernel_rfl) (by kernel_rfl) (by kernel_rfl) (fun _ _ _ h => h) (Or.inl ⟨by rfl, ?_⟩) (by assumption) ?_
    · intro X hSw
      go_simp
    simp only [Act.put, List.setIfInBounds_toArray, List.set_cons_zero, List.set_cons_succ]
    refine take7 (i := 7) (d := 30) (v := .pointer (some ⟨B, 0, none⟩)) rfl rfl (by kernel_rfl) (by kernel_rfl) (by kernel_rfl) (fun _ _ _ h => h) (Or.inl ⟨by rfl, ?_⟩) (by assumption) ?_
    · intro X hSw
      go_simp
    simp only [Act.put, List.setIfInBounds_toArray, List.set_cons_zero, List.set_cons_succ]
    refine take7 (i := 8) (d := 31) (v := .agg #[.int .i64 mk, .int .i64 mg, .int .i64 mf, .int .i64 mo, .int .i64 mt, .int .i64 mi, .int .i64 ma, .slice p n c, .int .i64 mc, .bool mok, .string md]) rfl rfl (by kernel_rfl) (by kernel_rfl) (by kernel_rfl) (fun _ _ _ h => h) (Or.inl ⟨by rfl, ?_⟩) (by assumption) ?_
    · intro X hSw
      go_simp
    simp only [Act.put, List.setIfInBounds_toArray, List.set_cons_zero, List.set_cons_succ]
    refine wpAnyH_ready (rs := [3]) (by kernel_rfl) (by simp) ?_
    refine AllReadyH.cons rfl (fun K hK => ?_) AllReadyH.nil
    go_simp
    refine hK.out _ _ (HS.out _ _ hR) (fun hH1 => ?_)
    clear hK K hH0
    refine wpAnyH_ready (rs := [6]) (by kernel_rfl) (by simp) ?_
    refine AllReadyH.cons rfl (fun K hK => ?_) AllReadyH.nil
    go_simp
    refine hK.out _ _ (HS.out _ _ hR) (fun hH2 => ?_)
    clear hK K hH1
    refine wpAnyH_ready (rs := [9]) (by kernel_rfl) (by simp) ?_
    refine AllReadyH.cons rfl (fun K hK => ?_) AllReadyH.nil
    go_simp
    rw [HCT.out]
    go_simp
    refine Calls.mono (HT.out _ _ HEq.out hR) ?_
    rintro e w2 ⟨p2, n2, c2, own2, rfl, ha, hm⟩
    have hS2 := HS2.out w2 own2 ha
    have HA : Hid _ := ha
    have HMm : Hid _ := hm
    clear ha hm hR x3 xl
    go_wp2
    refine hK.out _ _ hS2 (fun hH3 => ?_)
    clear hK K hH2
    refine take7 (i := 10) (d := 2) (v := .slice p2 n2 c2) rfl rfl (by kernel_rfl) (by kernel_rfl) (by kernel_rfl) (fun _ _ _ h => h) (Or.inl ⟨by rfl, ?_⟩) (by assumption) ?_
    · intro X hSw
      go_simp
    simp only [Act.put, List.setIfInBounds_toArray, List.set_cons_zero, List.set_cons_succ]
    refine wpAnyH_done (by kernel_rfl) ?_ _
    clear hH3 hS2
    go_wp2
    go_ret
    exact ⟨p2, n2, c2, own2, rfl, HA.out, HMm.out⟩

theorem EntRd.kept {X Y : World} {own' : Nat → Prop} {ev : Value} {l : List (Int × ByteArray)} (h : EntRd X ev l) (hk : KeptB B own' X Y) (ho : ∀ k, cBlk ev = some k → k ≠ B ∧ ¬ own' k) : EntRd Y ev l := by
  obtain ⟨p, c, hv, h1, h2, h3⟩ := h
  refine ⟨p, c, hv, h1, h2, fun k x hx => ?_⟩
  obtain ⟨g, off, hp, hg, y1, y2⟩ := h3 k x hx
  have hkl := (List.getElem?_eq_some_iff.1 hx).1
  have hgo := ho g (by
    subst hv hp
    cases c with
    | zero => omega
    | succ c => rfl)
  have hb : Y.heap[g]? = X.heap[g]? := hk.block g hg hgo.1 hgo.2
  exact ⟨g, off, hp, Nat.lt_of_lt_of_le hg hk.size, (World.cell?_of_block (a := ⟨g, off + k * 2, none⟩) hb).trans y1, (World.cell?_of_block (a := ⟨g, off + k * 2 + 1, none⟩) hb).trans y2⟩

set_option maxHeartbeats 1600000 in
set_option maxRecDepth 20000 in
theorem Receive_c (h : Nd w B s own) (m : N.Msg) (ev : Value) (hev : EntRd w ev m.ents) (hm : May s m) {s' : N.St} {M : World → (Nat → Prop) → Value → Prop}
    (hM : ∀ X Y o o' v, M X o v → KeptB B o X Y → (∀ k, o' k → o k ∨ X.heap.size ≤ k) → M Y o' v)
    (H : ∀ X, AftN own w X B (recv1 s m) own → Calls Try.prog (takeF m.kind) #[.pointer (some ⟨B, 0, none⟩), msgV m ev] X (fun e w' => ∃ p n c own', e = .returned (.slice p n c) ∧ AftN own X w' B s' own' ∧ M w' own' (.slice p n c)))
    (hg : s'.group = s.group) (hp : ∃ more, s'.recs = s.recs ++ more) (hr : s'.recs.length ≤ 1000000000) :
    Calls Try.prog 17 #[.pointer (some ⟨B, 0, none⟩), msgV m ev] w fun e w' => ∃ p n c own', e = .returned (.slice p n c) ∧ AftN own w w' B (N.noted s s') own' ∧ M w' own' (.slice p n c) := by
  obtain ⟨p, c, hev', _⟩ := id hev
  obtain ⟨n, hn⟩ : ∃ n, n = m.ents.length := ⟨_, rfl⟩
  rw [← hn] at hev'
  clear hn
  subst hev'
  obtain ⟨u, hu⟩ : ∃ u, u = (w.alloc (.cells #[.pointer (some ⟨B, 0, none⟩)] 38)).alloc (.cells (msgOne m (.slice p n c)).toArray 48) := ⟨_, rfl⟩
  have hbu : Below w.heap.size w u := by rw [hu]; exact (below_alloc _ _).trans ((below_alloc _ _).mono (by simp))
  have hNu := h.below hbu
  obtain ⟨b2, hb2⟩ : ∃ b2, b2 = w.heap.size := ⟨_, rfl⟩
  have hlu : u.heap.size = b2 + 2 := by rw [hu, hb2]; simp
  have c2 : u.cell? ⟨b2, 0, none⟩ = some (.pointer (some ⟨B, 0, none⟩)) := by
    rw [hu, hb2, World.cell?_alloc_lt _ _ _ (by simp)]
    exact World.cell?_alloc_mark w _ _ _ 0
  have c3 : ∀ j, u.cell? ⟨b2 + 1, j, none⟩ = (msgOne m (.slice p n c))[j]? := fun j => by
    have := World.cell?_alloc_mark (w.alloc (.cells #[.pointer (some ⟨B, 0, none⟩)] 38)) (msgOne m (.slice p n c)).toArray 48 (0, 0) j
    rw [hu, hb2, ← show (w.alloc (.cells #[.pointer (some ⟨B, 0, none⟩)] 38)).heap.size = w.heap.size + 1 by simp]
    exact this.trans List.getElem?_toArray
  have HMd : Hid (∀ X, Below u.heap.size u X → Calls Try.prog 28 #[.pointer (some ⟨B, 0, none⟩)] X fun e w' => e = .returned (.bool true) ∧ w' = X) := fun X hX => made_c (hNu.below hX)
  have HMy : Hid (∀ X, Below u.heap.size u X → Calls Try.prog 38 #[.pointer (some ⟨B, 0, none⟩), msgV m (.slice p n c)] X fun e w' => e = .returned (.bool true) ∧ Below u.heap.size u w') := fun X hX => by
    refine (may_c (hNu.below hX) m _ ((hev.below hbu).below hX) hm).mono ?_
    rintro e w' ⟨rfl, hb⟩
    exact ⟨rfl, hX.trans (hb.mono hX.size)⟩
  have HNo : Hid (∀ X, Below u.heap.size u X → Calls Try.prog 39 #[.pointer (some ⟨B, 0, none⟩), .func (.func 40) #[] #[.pointer (some ⟨b2 + 1, 0, none⟩), .pointer (some ⟨b2, 0, none⟩)]] X fun e w' => ∃ p n c own', e = .returned (.slice p n c) ∧ AftN own w w' B (N.noted s s') own' ∧ M w' own' (.slice p n c)) := fun X hX => by
    have hlt := h.lt
    have hwX : Below w.heap.size w X := hbu.trans (hX.mono hbu.size)
    refine (noted_R (hNu.below hX) (M := M) (s' := s') hM (fun Y hY => ?_) hg hp hr).mono ?_
    · have hXY : Below u.heap.size u Y := hX.trans (hY.mono hX.size)
      have hwY : Below w.heap.size w Y := hwX.trans (hY.mono hwX.size)
      obtain ⟨LB, MB, ol, rv, hv⟩ := hNu.below hXY
      have hoo : ∀ k, own k → k < w.heap.size := fun k hk => (h.here k hk).1
      have hRk : Rk Y B s own LB MB ol rv m (.slice p n c) (b2 + 1) b2 Y := ⟨⟨hv, KeptB.refl _ _ _⟩, fun j => (hXY.cell (p := ⟨b2 + 1, j, none⟩) (by show b2 + 1 < _; omega)).trans (c3 j), (hXY.cell (p := ⟨b2, 0, none⟩) (by show b2 < _; omega)).trans c2, by omega, by omega, by have := hXY.size; omega, by have := hXY.size; omega, fun e => by have := hoo _ e; omega, fun e => by have := hoo _ e; omega⟩
      exact Recv1_c hRk hm.kind rfl (fun Z hZ => H Z (AftN.from hwY hZ))
    · rintro e w' ⟨p, n, c, own', rfl, ha, hq⟩
      exact ⟨p, n, c, own', rfl, AftN.from hwX ha, hq⟩
  obtain ⟨mk, mg, mf, mo, mt, mi, ma, me, mc, mok, md⟩ := m
  have c30 : u.cell? ⟨b2 + 1, 0, none⟩ = some (.int .i64 mk) := c3 0
  have c31 : u.cell? ⟨b2 + 1, 1, none⟩ = some (.int .i64 mg) := c3 1
  have c32 : u.cell? ⟨b2 + 1, 2, none⟩ = some (.int .i64 mf) := c3 2
  have c33 : u.cell? ⟨b2 + 1, 3, none⟩ = some (.int .i64 mo) := c3 3
  have c34 : u.cell? ⟨b2 + 1, 4, none⟩ = some (.int .i64 mt) := c3 4
  have c35 : u.cell? ⟨b2 + 1, 5, none⟩ = some (.int .i64 mi) := c3 5
  have c36 : u.cell? ⟨b2 + 1, 6, none⟩ = some (.int .i64 ma) := c3 6
  have c37 : u.cell? ⟨b2 + 1, 7, none⟩ = some (.slice p n c) := c3 7
  have c38 : u.cell? ⟨b2 + 1, 8, none⟩ = some (.int .i64 mc) := c3 8
  have c39 : u.cell? ⟨b2 + 1, 9, none⟩ = some (.bool mok) := c3 9
  have c310 : u.cell? ⟨b2 + 1, 10, none⟩ = some (.string md) := c3 10
  have HLu : Hid (u.heap.size = b2 + 2) := hlu
  unfold msgV msgOne at *
  dsimp only at *
  clear h hev hm hM H hg hp hr hbu hNu c3 hlu
  go_enter Try.func17, Try.ntmps17
  go_wp2_with fail
  rw [← hu]
  refine Calls.mono (HMd.out _ (Below.refl _ _)) ?_
  rintro e w1 ⟨rfl, hw⟩
  subst hw
  rw [← hb2]
  clear hu hb2
  go_wp2_with fail
  refine Calls.mono (HMy.out _ (Below.refl _ _)) ?_
  rintro e w2 ⟨rfl, hb⟩
  have k2 := (hb.cell (p := ⟨b2, 0, none⟩) (by have := HLu.out; show b2 < _; omega)).trans c2
  have HB : Hid _ := hb
  clear hb
  go_wp2_with fail
  refine Calls.mono (HNo.out _ HB.out) ?_
  rintro e w3 ⟨p3, n3, c3, own3, rfl, ha, hq⟩
  have HA : Hid _ := ha
  have HQ : Hid _ := hq
  clear ha hq
  go_wp2
  go_ret
  exact ⟨p3, n3, c3, own3, rfl, HA.out, HQ.out⟩

end
end Go.Proofs.Yteaopnhjndnpnaa
