/-
  The document's map of slots: Give.
-/
import Derived.Test.YtmdnegjpdedcnabSlRef
namespace Go.Proofs.Ytmdnegjpdedcnab
open Go.RowKit

theorem src_intD (X : World) (n : Int) : Src Try.prog 1 27 (.slice (some ⟨X.heap.size, 0, none⟩) 1 1) 1 [.int .i64 n] (X.alloc (.cells #[.int .i64 n] 3)).drew := by
  refine Src.ofSlice _ Try.underlying27 _ _ _ _ rfl (fun j u hu => ?_) (fun u hu => by simp at hu; subst hu; rfl)
  rw [Addr.add_lit, Nat.zero_add]
  show (X.alloc _).cell? _ = _
  rw [World.cell?_alloc_mark]
  simpa using hu

section
variable {w : World} {vo ve : Value} {s : Sl.St}

/-- What Give leaves. -/
def RGo (w w' : World) (vo ve : Value) (s : Sl.St) (e : Ending) (n : Nat) : Prop := ∃ vo' ve', e = .returned (.tuple #[.agg #[vo', ve'], .int .i64 (n : Int)]) ∧ Rm w' vo' ve' s ∧ Below w.heap.size w w' ∧ (∀ q, aBlk vo' = some q → aBlk vo = some q ∨ w.heap.size ≤ q) ∧ ∀ q, aBlk ve' = some q → aBlk ve = some q ∨ w.heap.size ≤ q

set_option maxHeartbeats 1600000 in
set_option maxRecDepth 20000 in
theorem rGiveS_no (h : Rm w vo ve s) (hk : Sl.Ok s) (a g : Int) (hne : Sl.giveE s a g ≠ 0) : Calls Try.prog 11 #[.agg #[vo, ve], .int .i64 a, .int .i64 g] w fun e w' => RGo w w' vo ve (Sl.give s a g) e (Sl.giveE s a g) := by
  have hgs : Sl.give s a g = s := by unfold Sl.give; rw [if_neg hne]
  rw [hgs]
  obtain ⟨g1, o1, c1, hv1, hg1, hc1⟩ := h.o
  obtain ⟨g2, o2, c2, hv2, hg2, hc2⟩ := h.e
  have HEnd : Hid (∀ u, Below w.heap.size w u → RGo w u vo ve s (.returned (.tuple #[.agg #[vo, ve], .int .i64 (Sl.giveE s a g : Int)])) (Sl.giveE s a g)) := fun u hu => ⟨vo, ve, rfl, h.below hu, hu, fun _ q => .inl q, fun _ q => .inl q⟩
  subst hv1 hv2
  have HBl : Hid (∀ o o', Below w.heap.size w ((w.alloc o).alloc o')) := fun o o' => (below_alloc w o).trans ((below_alloc _ o').mono (by simp))
  by_cases hr : 0 ≤ a ∧ a < 16 ∧ 1 ≤ g ∧ g ≤ 8
  · obtain ⟨i, rfl⟩ : ∃ i : Nat, a = (i : Int) := ⟨a.toNat, by omega⟩
    have hi : i < 16 := by omega
    have t0 : ¬ (i : Int) < 0 := by omega
    have t1 : ¬ (i : Int) ≥ 16 := by omega
    have t2 : ¬ g < 1 := by omega
    have t3 : ¬ g > 8 := by omega
    have x1 := hc1 i hi
    have x2 := hc2 i hi
    have hE : Hid (Sl.giveE s i g = if (s.O i : Int) = g then 90 else if s.E i = 2147483647 then 1 else 0) := by
      show _ = _
      unfold Sl.giveE
      rw [if_pos hr, Int.toNat_natCast]
    have hEk := (hk i hi).2.2.2
    obtain ⟨og, hog⟩ : ∃ og, og = s.O i := ⟨_, rfl⟩
    obtain ⟨en, hen⟩ : ∃ en, en = s.E i := ⟨_, rfl⟩
    rw [← hog] at x1 hE
    rw [← hen] at x2 hE hEk
    clear h hk hog hen hc1 hc2 hr hgs
    have hb0 : ∀ o o', ((w.alloc o).alloc o').cell? ⟨g1, o1 + i, none⟩ = w.cell? ⟨g1, o1 + i, none⟩ := fun o o' => (HBl.out o o').cell (p := ⟨g1, o1 + i, none⟩) hg1
    have hb1 : ∀ o o', ((w.alloc o).alloc o').cell? ⟨g2, o2 + i, none⟩ = w.cell? ⟨g2, o2 + i, none⟩ := fun o o' => (HBl.out o o').cell (p := ⟨g2, o2 + i, none⟩) hg2
    by_cases e1 : (og : Int) = g
    · rw [if_pos e1] at hE
      rw [hE.out] at HEnd ⊢
      subst e1
      clear hne hE
      go_enter Try.func11, Try.ntmps11
      go_wp2
      exact bodyPost_ret (v := .tuple #[.agg #[.slice (some ⟨g1, o1, none⟩) 16 c1, .slice (some ⟨g2, o2, none⟩) 16 c2], .int .i64 90]) (by simp [results, Try.results11, go_sem]) rfl (HEnd.out _ (HBl.out _ _))
    · rw [if_neg e1] at hE
      have e2 : en = 2147483647 := Decidable.byContradiction fun q => hne (by rw [hE.out, if_neg q])
      rw [if_pos e2] at hE
      rw [hE.out] at HEnd ⊢
      subst e2
      have e1' : ((og : Int) == g) = false := by simpa using e1
      clear hne hE e1
      go_enter Try.func11, Try.ntmps11
      go_wp2
      exact bodyPost_ret (v := .tuple #[.agg #[.slice (some ⟨g1, o1, none⟩) 16 c1, .slice (some ⟨g2, o2, none⟩) 16 c2], .int .i64 1]) (by simp [results, Try.results11, go_sem]) rfl (HEnd.out _ (HBl.out _ _))
  · have hE : Sl.giveE s a g = 1 := by unfold Sl.giveE; rw [if_neg hr]
    rw [hE] at HEnd ⊢
    clear h hk hc1 hc2 hgs hE hne
    by_cases t0 : a < 0
    · clear hr
      go_enter Try.func11, Try.ntmps11
      go_wp2
      exact bodyPost_ret (v := .tuple #[.agg #[.slice (some ⟨g1, o1, none⟩) 16 c1, .slice (some ⟨g2, o2, none⟩) 16 c2], .int .i64 1]) (by simp [results, Try.results11, go_sem]) rfl (HEnd.out _ (HBl.out _ _))
    · by_cases t1 : a ≥ 16
      · clear hr
        go_enter Try.func11, Try.ntmps11
        go_wp2
        exact bodyPost_ret (v := .tuple #[.agg #[.slice (some ⟨g1, o1, none⟩) 16 c1, .slice (some ⟨g2, o2, none⟩) 16 c2], .int .i64 1]) (by simp [results, Try.results11, go_sem]) rfl (HEnd.out _ (HBl.out _ _))
      · by_cases t2 : g < 1
        · clear hr
          go_enter Try.func11, Try.ntmps11
          go_wp2
          exact bodyPost_ret (v := .tuple #[.agg #[.slice (some ⟨g1, o1, none⟩) 16 c1, .slice (some ⟨g2, o2, none⟩) 16 c2], .int .i64 1]) (by simp [results, Try.results11, go_sem]) rfl (HEnd.out _ (HBl.out _ _))
        · have t3 : g > 8 := by omega
          clear hr
          go_enter Try.func11, Try.ntmps11
          go_wp2
          exact bodyPost_ret (v := .tuple #[.agg #[.slice (some ⟨g1, o1, none⟩) 16 c1, .slice (some ⟨g2, o2, none⟩) 16 c2], .int .i64 1]) (by simp [results, Try.results11, go_sem]) rfl (HEnd.out _ (HBl.out _ _))

set_option maxHeartbeats 3200000 in
set_option maxRecDepth 20000 in
theorem rGiveS_yes (h : Rm w vo ve s) (hk : Sl.Ok s) (i q : Nat) (h0 : Sl.giveE s (i : Int) (q : Int) = 0) : Calls Try.prog 11 #[.agg #[vo, ve], .int .i64 (i : Int), .int .i64 (q : Int)] w fun e w' => RGo w w' vo ve (Sl.put s i q) e 0 := by
  obtain ⟨g1, o1, c1, hv1, hg1, hc1⟩ := h.o
  obtain ⟨g2, o2, c2, hv2, hg2, hc2⟩ := h.e
  obtain ⟨hr, hne1, hne2⟩ := Sl.giveE_0 h0
  rw [Int.toNat_natCast] at hne1 hne2
  have hi : i < 16 := by omega
  have t0 : ¬ (i : Int) < 0 := by omega
  have t1 : ¬ (i : Int) ≥ 16 := by omega
  have t2 : ¬ (q : Int) < 1 := by omega
  have t3 : ¬ (q : Int) > 8 := by omega
  have hEk := (hk i hi).2.2.2
  have x1 := hc1 i hi
  have x2 := hc2 i hi
  obtain ⟨bo, hbo⟩ : ∃ bo, bo = w.heap.size := ⟨_, rfl⟩
  obtain ⟨br, hbr⟩ : ∃ br, br = w.heap.size + 1 := ⟨_, rfl⟩
  obtain ⟨bm, hbm⟩ : ∃ bm, bm = w.heap.size + 1 + 1 := ⟨_, rfl⟩
  obtain ⟨u, hu⟩ : ∃ u, u = (w.alloc (.cells #[vo, ve] 29)).alloc (.cells #[.slice none 0 0, .slice none 0 0] 29) := ⟨_, rfl⟩
  obtain ⟨X0, hX0⟩ : ∃ X0, X0 = u.alloc (.cells #[.slice none 0 0, .slice none 0 0] 29) := ⟨_, rfl⟩
  have HBd : Hid (Bd u bm (Sl.put s i q).O (Sl.put s i q).E 0 0 (.slice none 0 0) (.slice none 0 0) X0) := by
    have := Bd.begin u (Sl.put s i q).O (Sl.put s i q).E
    rw [show u.heap.size = bm by rw [hu, hbm]; simp, ← hX0] at this
    exact this
  have HBu : Hid (Below w.heap.size w u ∧ br < u.heap.size ∧ w.heap.size ≤ br ∧ bo < u.heap.size) := ⟨by rw [hu]; exact (below_alloc w _).trans ((below_alloc _ _).mono (by simp)), by rw [hu, hbr]; simp, by omega, by rw [hu, hbo]; simp; omega⟩
  have HRc : Hid (∀ X, Below u.heap.size u X → X.cell? ⟨br, 0, none⟩ = some (.slice none 0 0) ∧ X.cell? ⟨br, 1, none⟩ = some (.slice none 0 0) ∧ X.frozen? ⟨br, 0, none⟩ = false ∧ X.frozen? ⟨br, 1, none⟩ = false) := fun X hX => by
    have hlt := HBu.out.2.1
    have e : (w.alloc (.cells #[vo, ve] 29)).heap.size = br := by rw [hbr]; simp
    have q0 := World.cell?_alloc_mark (w.alloc (.cells #[vo, ve] 29)) #[.slice none 0 0, .slice none 0 0] 29 (0, 0)
    have q1 := World.frozen?_alloc_mark (w.alloc (.cells #[vo, ve] 29)) #[.slice none 0 0, .slice none 0 0] 29 0 0
    rw [e, ← hu] at q0 q1
    rw [hX.cell (p := ⟨br, 0, none⟩) hlt, hX.cell (p := ⟨br, 1, none⟩) hlt, hX.frozen (p := ⟨br, 0, none⟩) hlt, hX.frozen (p := ⟨br, 1, none⟩) hlt, q0, q0, q1, q1]
    simp
  have HMc : Hid (∀ X, Below u.heap.size u X → X.cell? ⟨bo, 0, none⟩ = some vo ∧ X.cell? ⟨bo, 1, none⟩ = some ve ∧ ∀ j, j < 16 → X.cell? ⟨g1, o1 + j, none⟩ = some (.int .i64 (s.O j : Int)) ∧ X.cell? ⟨g2, o2 + j, none⟩ = some (.int .i64 (s.E j : Int))) := fun X hX => by
    have hlt := HBu.out.2.2.2
    have hbu := HBu.out.1
    have hu2 := hbu.size
    refine ⟨?_, ?_, fun j hj => ⟨?_, ?_⟩⟩
    · rw [hX.cell (p := ⟨bo, 0, none⟩) hlt, hu, hbo, World.cell?_alloc_lt _ _ _ (by simp)]
      exact World.cell?_alloc_mark w _ _ _ 0
    · rw [hX.cell (p := ⟨bo, 1, none⟩) hlt, hu, hbo, World.cell?_alloc_lt _ _ _ (by simp)]
      exact World.cell?_alloc_mark w _ _ _ 1
    · rw [hX.cell (p := ⟨g1, o1 + j, none⟩) (by show g1 < _; omega), hbu.cell (p := ⟨g1, o1 + j, none⟩) hg1]
      exact hc1 j hj
    · rw [hX.cell (p := ⟨g2, o2 + j, none⟩) (by show g2 < _; omega), hbu.cell (p := ⟨g2, o2 + j, none⟩) hg2]
      exact hc2 j hj
  have HBl : Hid (∀ o o', Below w.heap.size w ((w.alloc o).alloc o')) := fun o o' => (below_alloc w o).trans ((below_alloc _ o').mono (by simp))
  have hb0 : ∀ o o', ((w.alloc o).alloc o').cell? ⟨g1, o1 + i, none⟩ = w.cell? ⟨g1, o1 + i, none⟩ := fun o o' => (HBl.out o o').cell (p := ⟨g1, o1 + i, none⟩) hg1
  have hb1 : ∀ o o', ((w.alloc o).alloc o').cell? ⟨g2, o2 + i, none⟩ = w.cell? ⟨g2, o2 + i, none⟩ := fun o o' => (HBl.out o o').cell (p := ⟨g2, o2 + i, none⟩) hg2
  have hX0' : X0 = ((w.alloc (.cells #[vo, ve] 29)).alloc (.cells #[.slice none 0 0, .slice none 0 0] 29)).alloc (.cells #[.slice none 0 0, .slice none 0 0] 29) := by rw [hX0, hu]
  have HEk : Hid (∀ j, j < 16 → s.E j ≤ 2147483647) := fun j hj => (hk j hj).2.2.2
  have e1' : ((s.O i : Int) == (q : Int)) = false := by simpa using hne1
  have e2' : ¬ 2147483647 ≤ s.E i := by omega
  have e2'' : ¬ (s.E i : Int) ≥ 2147483647 := by omega
  subst hv1 hv2
  clear h hk hX0 hu hr h0 hne1 hne2 hEk hc1 hc2
  go_enter Try.func11, Try.ntmps11
  go_wp2
  rw [← hX0', ← hbm, ← hbr, ← hbo]
  clear hX0' hbr hbm hbo hb0 hb1 x1 x2 e1' e2' e2'' t0 t1 t2 t3
  go_loopw [9] (fun x wr => ∃ (n : Nat) (vo ve : Value), x = .int .i64 (n : Int) ∧ n ≤ 16 ∧ Hid (Bd u bm (Sl.put s i q).O (Sl.put s i q).E n n vo ve wr)) (fun x _ => 16 - (intOf x).toNat)
  case atStart => exact ⟨0, _, _, rfl, by omega, HBd⟩
  case round =>
    clear HBd
    obtain ⟨n, vo, ve, rfl, hn, HB⟩ := hrel
    obtain ⟨po, co, pe, ce, hvo, hve⟩ := HB.out.shapes
    subst hvo hve
    by_cases hlt : n < 16
    · obtain ⟨m0, m1, mj⟩ := HMc.out wr HB.out.old
      obtain ⟨mo, me⟩ := mj n hlt
      obtain ⟨og, hog⟩ : ∃ og, og = s.O n := ⟨_, rfl⟩
      obtain ⟨en, hen⟩ : ∃ en, en = s.E n := ⟨_, rfl⟩
      have hEn := HEk.out n hlt
      rw [← hog] at mo
      rw [← hen] at me hEn
      have hL : Hid ((n + 1) * 8 ≤ 140737488355328 ∧ n + 1 ≤ maxLen) := by unfold maxLen; exact ⟨by omega, by omega⟩
      have b0 := HB.out.c0
      have b1 := HB.out.c1
      have HOg : Hid (og = s.O n ∧ en = s.E n) := ⟨hog, hen⟩
      clear mj hog hen
      by_cases hin : n = i
      · subst hin
        have HF1 : Hid ((((Sl.put s n q).O n : Nat) : Int) = (q : Int)) := by show (((if n = n then q else s.O n : Nat)) : Int) = _; rw [if_pos rfl]
        have HF2 : Hid ((((Sl.put s n q).E n : Nat) : Int) = (en : Int) + 1) := by show (((if n = n then s.E n + 1 else s.E n : Nat)) : Int) = _; rw [if_pos rfl, HOg.out.2]; rfl
        obtain ⟨Z, hZ⟩ : ∃ Z, Z = (wr.alloc (.cells #[.int .i64 (q : Int)] 3)).drew := ⟨_, rfl⟩
        have hBZ : Bd u bm (Sl.put s n q).O (Sl.put s n q).E n n (.slice po n co) (.slice pe n ce) Z := HB.out.below (by rw [hZ]; exact (below_alloc _ _).drew)
        have HBZ : Hid _ := hBZ
        have HRow : Hid _ := hBZ.ro
        have z0 := hBZ.c0
        have zf := hBZ.f0
        have HSrc : Hid _ := src_intD wr (q : Int)
        rw [← hZ] at HSrc
        have HZs : Hid (Z.heap.size = wr.heap.size + 1) := by rw [hZ]; show _ = _; simp
        clear hBZ
        go_wp2
        go_region
        go_wp2_with (at_builtin; rw [← hZ]; refine wpList_append_rowC rfl (.tmp 64) (.tmp 66) 27 27 3 rfl Try.underlying27 _ 1 8 infoInt10 rfl (.slice po n co) n (intCells (Sl.put s n q).O n) rfl HRow.out _ 1 _ rfl HSrc.out hL.out.1 hL.out.2 ?qnext)
        case qnext =>
          intro v' Y a1 a2 a3
          obtain ⟨p1, c3, hv', _⟩ := a1.form
          subst hv'
          try rw [← hZ] at a2
          rw [← HF1.out] at a1
          obtain ⟨y0, y1, yf0, yf1, hB2⟩ := HBZ.out.putO a1 a2 (fun q hq => Or.elim (a3 q hq) (fun e => .inl e) (fun e => .inr (by have := HZs.out; first | omega | (simp at e; omega))))
          obtain ⟨Z2, hZ2⟩ : ∃ Z2, Z2 = (Y.setCell ⟨bm, 0, none⟩ (.slice p1 (n + 1) c3)).alloc (.cells #[.int .i64 ((en : Int) + 1)] 3) := ⟨_, rfl⟩
          have hBZ2 : Bd u bm (Sl.put s n q).O (Sl.put s n q).E (n + 1) n (.slice p1 (n + 1) c3) (.slice pe n ce) Z2 := hB2.below (by rw [hZ2]; exact below_alloc _ _)
          have HBZ2 : Hid _ := hBZ2
          have HRow2 : Hid _ := hBZ2.re
          have x1 := hBZ2.c1
          have xf1 := hBZ2.f1
          have HSrc2 : Hid _ := src_int (Y.setCell ⟨bm, 0, none⟩ (.slice p1 (n + 1) c3)) ((en : Int) + 1)
          rw [← hZ2] at HSrc2
          have HZs2 : Hid (Z2.heap.size = Y.heap.size + 1) := by rw [hZ2]; show _ = _; simp
          have HSz : Hid ((Y.setCell ⟨bm, 0, none⟩ (.slice p1 (n + 1) c3)).heap.size = Y.heap.size) := size_set6 _ _ _
          rw [HSz.out] at HSrc2
          clear a1 a2 a3 hB2 hBZ2 hZ HBZ z0 zf HRow b0 b1
          go_wp2_with (at_builtin; rw [← hZ2]; refine wpList_append_rowC rfl (.tmp 70) (.tmp 72) 27 27 3 rfl Try.underlying27 _ 1 8 infoInt10 rfl (.slice pe n ce) n (intCells (Sl.put s n q).E n) rfl HRow2.out _ 1 _ rfl HSrc2.out hL.out.1 hL.out.2 ?qnext2)
          case qnext2 =>
            intro v2 Y2 a1 a2 a3
            obtain ⟨p2, c4, hv2, _⟩ := a1.form
            subst hv2
            try rw [← hZ2] at a2
            rw [← HF2.out] at a1
            obtain ⟨q0, q1, qf0, qf1, hB3⟩ := HBZ2.out.putE a1 a2 (fun q hq => Or.elim (a3 q hq) (fun e => .inl e) (fun e => .inr (by have := HZs2.out; first | omega | (simp at e; omega))))
            have HB3 : Hid _ := hB3
            clear a1 a2 a3 hB3 hZ2 y0 y1 yf0 yf1 x1 xf1
            go_wp2
            go_roundw
            case rel => exact ⟨n + 1, _, _, by go_num, by omega, HB3⟩
            case measure => simp [intOf]; omega
      · have hin' : ((n : Int) == (i : Int)) = false := by simpa using fun h : (n : Int) = (i : Int) => hin (by omega)
        have HF1 : Hid ((((Sl.put s i q).O n : Nat) : Int) = (og : Int)) := by show (((if n = i then q else s.O n : Nat)) : Int) = _; rw [if_neg hin, HOg.out.1]
        have HF2 : Hid ((((Sl.put s i q).E n : Nat) : Int) = (en : Int)) := by show (((if n = i then s.E i + 1 else s.E n : Nat)) : Int) = _; rw [if_neg hin, HOg.out.2]
        obtain ⟨Z, hZ⟩ : ∃ Z, Z = (wr.alloc (.cells #[.int .i64 (og : Int)] 3)).drew := ⟨_, rfl⟩
        have hBZ : Bd u bm (Sl.put s i q).O (Sl.put s i q).E n n (.slice po n co) (.slice pe n ce) Z := HB.out.below (by rw [hZ]; exact (below_alloc _ _).drew)
        have HBZ : Hid _ := hBZ
        have HRow : Hid _ := hBZ.ro
        have z0 := hBZ.c0
        have zf := hBZ.f0
        have HSrc : Hid _ := src_intD wr (og : Int)
        rw [← hZ] at HSrc
        have HZs : Hid (Z.heap.size = wr.heap.size + 1) := by rw [hZ]; show _ = _; simp
        clear hBZ
        go_wp2
        go_region
        go_wp2_with (at_builtin; rw [← hZ]; refine wpList_append_rowC rfl (.tmp 64) (.tmp 66) 27 27 3 rfl Try.underlying27 _ 1 8 infoInt10 rfl (.slice po n co) n (intCells (Sl.put s i q).O n) rfl HRow.out _ 1 _ rfl HSrc.out hL.out.1 hL.out.2 ?qnext)
        case qnext =>
          intro v' Y a1 a2 a3
          obtain ⟨p1, c3, hv', _⟩ := a1.form
          subst hv'
          try rw [← hZ] at a2
          rw [← HF1.out] at a1
          obtain ⟨y0, y1, yf0, yf1, hB2⟩ := HBZ.out.putO a1 a2 (fun q hq => Or.elim (a3 q hq) (fun e => .inl e) (fun e => .inr (by have := HZs.out; first | omega | (simp at e; omega))))
          obtain ⟨Z2, hZ2⟩ : ∃ Z2, Z2 = (Y.setCell ⟨bm, 0, none⟩ (.slice p1 (n + 1) c3)).alloc (.cells #[.int .i64 (en : Int)] 3) := ⟨_, rfl⟩
          have hBZ2 : Bd u bm (Sl.put s i q).O (Sl.put s i q).E (n + 1) n (.slice p1 (n + 1) c3) (.slice pe n ce) Z2 := hB2.below (by rw [hZ2]; exact below_alloc _ _)
          have HBZ2 : Hid _ := hBZ2
          have HRow2 : Hid _ := hBZ2.re
          have x1 := hBZ2.c1
          have xf1 := hBZ2.f1
          have HSrc2 : Hid _ := src_int (Y.setCell ⟨bm, 0, none⟩ (.slice p1 (n + 1) c3)) (en : Int)
          rw [← hZ2] at HSrc2
          have HZs2 : Hid (Z2.heap.size = Y.heap.size + 1) := by rw [hZ2]; show _ = _; simp
          have HSz : Hid ((Y.setCell ⟨bm, 0, none⟩ (.slice p1 (n + 1) c3)).heap.size = Y.heap.size) := size_set6 _ _ _
          rw [HSz.out] at HSrc2
          clear a1 a2 a3 hB2 hBZ2 hZ HBZ z0 zf HRow b0 b1
          go_wp2_with (at_builtin; rw [← hZ2]; refine wpList_append_rowC rfl (.tmp 70) (.tmp 72) 27 27 3 rfl Try.underlying27 _ 1 8 infoInt10 rfl (.slice pe n ce) n (intCells (Sl.put s i q).E n) rfl HRow2.out _ 1 _ rfl HSrc2.out hL.out.1 hL.out.2 ?qnext2)
          case qnext2 =>
            intro v2 Y2 a1 a2 a3
            obtain ⟨p2, c4, hv2, _⟩ := a1.form
            subst hv2
            try rw [← hZ2] at a2
            rw [← HF2.out] at a1
            obtain ⟨q0, q1, qf0, qf1, hB3⟩ := HBZ2.out.putE a1 a2 (fun q hq => Or.elim (a3 q hq) (fun e => .inl e) (fun e => .inr (by have := HZs2.out; first | omega | (simp at e; omega))))
            have HB3 : Hid _ := hB3
            clear a1 a2 a3 hB3 hZ2 y0 y1 yf0 yf1 x1 xf1
            go_wp2
            go_roundw
            case rel => exact ⟨n + 1, _, _, by go_num, by omega, HB3⟩
            case measure => simp [intOf]; omega
    · obtain rfl : n = 16 := by omega
      obtain ⟨r0, r1, rf0, rf1⟩ := HRc.out wr HB.out.old
      have b0 := HB.out.c0
      have b1 := HB.out.c1
      obtain ⟨F, hF⟩ : ∃ F, F = fin2 wr br (.slice po 16 co) (.slice pe 16 ce) := ⟨_, rfl⟩
      obtain ⟨x0, x1⟩ := fin2_cells r0 r1 (.slice po 16 co) (.slice pe 16 ce)
      have HRm : Hid (Rm F (.slice po 16 co) (.slice pe 16 ce) (Sl.put s i q)) := by rw [hF]; exact Rm.fin HB.out HBu.out.2.1 _ _
      have HBF : Hid (Below w.heap.size w F) := by rw [hF]; exact fin2_below (HBu.out.1.trans (HB.out.old.mono HBu.out.1.size)) HBu.out.2.2.1 _ _
      rw [← hF] at x0 x1
      unfold fin2 at hF
      have hne : br ≠ bm := by have := HB.out.newm; have := HBu.out.2.1; omega
      go_wp2
      rw [← hF]
      clear hF
      refine bodyPost_ret (v := .tuple #[.agg #[.slice po 16 co, .slice pe 16 ce], .int .i64 0]) ?qres rfl ?qpost
      case qres => simp [results, Try.results11, go_sem, x0, x1]
      case qpost => exact ⟨_, _, rfl, HRm.out, HBF.out, fun q hq => .inr (Nat.le_trans HBu.out.1.size (HB.out.fresh.1 q hq)), fun q hq => .inr (Nat.le_trans HBu.out.1.size (HB.out.fresh.2 q hq))⟩

end

theorem rGiveS_c {w : World} {vo ve : Value} {s : Sl.St} (h : Rm w vo ve s) (hk : Sl.Ok s) (a g : Int) : Calls Try.prog 11 #[.agg #[vo, ve], .int .i64 a, .int .i64 g] w fun e w' => RGo w w' vo ve (Sl.give s a g) e (Sl.giveE s a g) := by
  by_cases h0 : Sl.giveE s a g = 0
  · obtain ⟨hr, -, -⟩ := Sl.giveE_0 h0
    obtain ⟨i, rfl⟩ : ∃ i : Nat, a = (i : Int) := ⟨a.toNat, by omega⟩
    obtain ⟨q, rfl⟩ : ∃ q : Nat, g = (q : Int) := ⟨g.toNat, by omega⟩
    have := rGiveS_yes h hk i q h0
    have e : Sl.give s (i : Int) (q : Int) = Sl.put s i q := by unfold Sl.give; rw [if_pos h0, Int.toNat_natCast, Int.toNat_natCast]
    rw [h0, e]
    exact this
  · exact rGiveS_no h hk a g h0

end Go.Proofs.Ytmdnegjpdedcnab
