/-
  The reader's text.
-/
import Derived.Test.YtnfjfhjhofaodaaCmRdN
import Derived.Test.YtnfjfhjhofaodaaClone
import Derived.Deep.RegionHeld3
namespace Go.Proofs.Ytnfjfhjhofaodaa
open Go.RowKit

theorem take12 {P : Program} {md : Region.Mode} {ops : Array Oper} {Q : Exit → Act → World → Prop} {S : World → Prop} {i d : Nat} {oi : Oper} {v : Value} {fuel : Nat} {listed : Array Bool} {a : Act} {w : World} (hi : ops[i]? = some oi) (hd : oi.dst = some d)
    (hs : Region.noSelect ops = true) (hf : Region.free md ops listed i = true) (hr : (Region.ready md ops listed).contains i = true)
    (hQ : ∀ c a w, Q (.panic c) (a.put (some d) v) w → Q (.panic c) a w) (hy : YieldsIf P ops S oi v a) (hS : S w)
    (h : wpAnyH P md ops Q S fuel (listed.setIfInBounds i true) (a.put (some d) v) w) : wpAnyH P md ops Q S (fuel + 1) listed a w :=
  wpAnyH_take hi hs hf hr (by rw [hd]; exact hQ) hy hS (by rw [hd]; exact h)

theorem stepCall12 {P : Program} {w : World} {ops : Array Oper} {o : Oper} {a : Act} {K : Act → World → Prop} {Q : Exit → Act → World → Prop} {E : Prop} (d : Nat) (hd : o.dst = some d) (hgd : o.guard = none) (f : FuncId) (args : Array Value)
    (hrun : (execOp a.eval o).run P w = .ok (.enter f args) w) {R : Ending → World → Prop} (hc : Calls P f args w R) (h : ∀ e w', R e w' → ∃ v, e = .returned v ∧ K (a.put (some d) v) w') :
    if Region.wanted o (yielded ops a.tmps) = true then Oper.wp P o a w K Q else E := by
  have hw : Region.wanted o (yielded ops a.tmps) = true := by simp [Region.wanted, hgd]
  rw [if_pos hw]
  unfold Oper.wp
  rw [hrun, Oper.upon_enter]
  refine hc.mono fun e w'' hh => ?_
  obtain ⟨v, rfl, hk⟩ := h e w'' hh
  show K (a.put o.dst v) w''
  rw [hd]
  exact hk

set_option maxHeartbeats 4000000 in
set_option maxRecDepth 100000 in
theorem rd_text {w : World} {R : Nat} {s : ByteArray} (h : Rd w R s) (b o : Nat) {x : Value} (hp : w.cell? ⟨b, o, none⟩ = some x) (hz : w.frozen? ⟨b, o, none⟩ = false) (hR : b ≠ R) :
    Calls Try.prog 95 #[.pointer (some ⟨R, 0, none⟩), .pointer (some ⟨b, o, none⟩)] w
      (ROut w R (fun c p => c = b ∧ p = o) (Cm.dec [.t] s.data.toList) fun w' vs => ∃ v, vs = [(.t, .t v)] ∧ w'.cell? ⟨b, o, none⟩ = some (.string v)) := by
  have hbl : b < w.heap.size := World.block_lt_of_cell? _ _ hp
  have hRl := h.lt
  obtain ⟨u, hu⟩ : ∃ u, u = w.alloc (.cells #[.int .i64 0] 3) := ⟨_, rfl⟩
  have hbu : Below w.heap.size w u := by rw [hu]; exact alloc_below w _
  have hus : u.heap.size = w.heap.size + 1 := by rw [hu]; simp
  have hru : Rd u R s := ⟨by rw [hbu.block R hRl]; exact h.1, h.2⟩
  have cN : u.cell? ⟨w.heap.size, 0, none⟩ = some (.int .i64 0) := by rw [hu]; simp [go_sem]
  have zN : u.frozen? ⟨w.heap.size, 0, none⟩ = false := by rw [hu]; simp [go_sem]
  have hn := rd_number hru w.heap.size 0 cN zN (by omega) 262144
  have hpu : u.cell? ⟨b, o, none⟩ = some x := by rw [hbu.cell (p := ⟨b, o, none⟩) hbl]; exact hp
  have hzu : u.frozen? ⟨b, o, none⟩ = false := by rw [hbu.frozen (p := ⟨b, o, none⟩) hbl]; exact hz
  have hK0 : Hid (∀ {S : Nat → Nat → Prop} {w1 : World}, KeptC (fun c p => c = R ∨ (c = w.heap.size ∧ p = 0)) u w1 → KeptC (fun c p => c = R ∨ S c p) w w1) := by
    intro S w1 hk
    exact (KeptC.of_below (S := fun c p => c = R ∨ S c p) hbu).trans hk (fun c p hc hx => by rcases hx with x | x; exact .inl x; omega)
  cases hq : Cm.dec [.n 262144] s.data.toList with
  | none =>
    have hD : Cm.dec [.t] s.data.toList = none := by
      simp only [Cm.dec, Cm.dec1] at hq ⊢
      split at hq
      · rename_i hh
        rw [if_neg]
        intro hc
        rw [if_pos ⟨hc.1, hc.2.1⟩] at hh
        cases hh
      · cases hq
    rw [hq] at hn
    rw [hD]
    have HN := hidden hn
    rw [hu] at HN
    clear hn hq hD hru cN zN hpu hzu hus hbu
    go_enter Try.func95, Try.ntmps95
    go_wp2_with (go_at_call 94; refine (HN.out).mono ?_; rintro e w1 ⟨hk1, t, v, rfl⟩)
    exact ⟨rfl, hK0.out (hu ▸ hk1), _, _, rfl⟩
  | some q =>
    obtain ⟨vs, r⟩ := q
    obtain ⟨n, hvs, hn2, hD⟩ : ∃ n : Nat, vs = [(.n 262144, .n (n : Int))] ∧ n ≤ 262144 ∧ Cm.dec [.t] s.data.toList = if n ≤ r.length then some ([(.t, .t ⟨(r.take n).toArray⟩)], r.drop n) else none := by
      refine ⟨(M.rdVar s.data.toList).1, ?_⟩
      simp only [Cm.dec, Cm.dec1] at hq ⊢
      split at hq
      · cases hq
      · rename_i v' l' hh
        split at hh
        · rename_i hc
          simp only [Option.some.injEq, Prod.mk.injEq] at hh hq
          obtain ⟨rfl, rfl⟩ := hh
          obtain ⟨rfl, rfl⟩ := hq
          refine ⟨rfl, hc.2, ?_⟩
          by_cases hl : (M.rdVar s.data.toList).1 ≤ (s.data.toList.drop (M.rdVar s.data.toList).2.1).length
          · rw [if_pos hl, if_pos ⟨hc.1, hc.2, hl⟩]
          · rw [if_neg hl, if_neg (fun x => hl x.2.2)]
        · cases hh
    rw [hq] at hn
    rw [hD]
    subst hvs
    have HN := hidden hn
    have HF : Hid (∀ w1, KeptC (fun c p => c = R ∨ (c = w.heap.size ∧ p = 0)) u w1 → w1.cell? ⟨b, o, none⟩ = some x ∧ w1.frozen? ⟨b, o, none⟩ = false ∧ w1.frozen? ⟨R, 0, none⟩ = false ∧ R < w1.heap.size ∧ b < w1.heap.size ∧ w.heap.size < w1.heap.size) := by
      intro w1 hk
      refine ⟨?_, ?_, ?_, ?_, ?_, ?_⟩
      · rw [hk.cell b o (by omega) (by rintro (y | ⟨y, -⟩); exact hR y; omega)]; exact hpu
      · rw [hk.frozen b o (by omega)]; exact hzu
      · rw [hk.frozen R 0 (by omega)]; exact hru.frozen
      · have := hk.size; omega
      · have := hk.size; omega
      · have := hk.size; omega
    have hN : R ≠ w.heap.size := by omega
    have hbN : b ≠ w.heap.size := by omega
    rw [hu] at HN HF hK0
    clear hn hq hD hru cN zN hpu hzu hus hbu hu
    have HN2 := hidden hn2
    clear hn2
    by_cases hle : n ≤ r.length
    · rw [if_pos hle]
      have HLE := hidden hle
      clear hle
      go_enter Try.func95, Try.ntmps95
      go_wp2_with (go_at_call 94; refine (HN.out).mono ?_; rintro e w1 ⟨hk1, rfl, ⟨s1, hr1, hs1⟩, v, hv, c1⟩)
      obtain rfl : v = (n : Int) := by
        simp only [List.cons.injEq, Prod.mk.injEq, Sum.inl.injEq, and_true, true_and] at hv
        exact hv.symm
      obtain ⟨c3, z3, z4, l1, l2, l3⟩ := HF.out w1 hk1
      have c2 := hr1.cell
      have hsz : s1.size = r.length := by rw [← hs1, Cm.toL_len]
      have hns : ¬ s1.size < n := by have := HLE.out; omega
      have hns2 : n ≤ s1.size := by omega
      have hs1' := hr1.2
      have hC1 := run_to s1 n hns2
      have hC2 := run_from s1 n hns2
      have HSZ : Hid ((s1.extract 0 n).size ≤ 140737488351232) := by unfold Hid; rw [ByteArray.size_extract]; omega
      have HSY : Hid ((s1.extract n s1.size).size ≤ 140737488351232) := by unfold Hid; rw [ByteArray.size_extract]; omega
      have HT : Hid ((s1.extract 0 n) = ⟨(r.take n).toArray⟩ ∧ (s1.extract n s1.size).data.toList = r.drop n) := by
        refine ⟨Cm.of_toL ?_, ?_⟩
        · rw [Cm.toL_take, hs1]
        · rw [Cm.toL_cut, hs1]
      obtain ⟨ta, hta⟩ : ∃ ta, ta = s1.extract 0 n := ⟨_, rfl⟩
      obtain ⟨tb, htb⟩ : ∃ tb, tb = s1.extract n s1.size := ⟨_, rfl⟩
      rw [← hta, ← htb] at HT
      rw [← hta] at HSZ hC1
      rw [← htb] at HSY hC2
      have HK1 := hidden hk1
      have HR1 := hidden hr1
      have HB : Hid (∀ w2, Below w1.heap.size w1 w2 → w2.cell? ⟨b, o, none⟩ = some x ∧ w2.frozen? ⟨b, o, none⟩ = false ∧ w2.frozen? ⟨R, 0, none⟩ = false ∧ w2.cell? ⟨R, 0, none⟩ = some (.string s1) ∧ w2.cell? ⟨w.heap.size, 0, none⟩ = some (.int .i64 (n : Int)) ∧ Rd w2 R s1) := by
        intro w2 hb
        refine ⟨?_, ?_, ?_, ?_, ?_, ?_⟩
        · rw [hb.cell (p := ⟨b, o, none⟩) l2]; exact c3
        · rw [hb.frozen (p := ⟨b, o, none⟩) l2]; exact z3
        · rw [hb.frozen (p := ⟨R, 0, none⟩) l1]; exact z4
        · rw [hb.cell (p := ⟨R, 0, none⟩) l1]; exact c2
        · rw [hb.cell (p := ⟨w.heap.size, 0, none⟩) l3]; exact c1
        · exact ⟨by rw [hb.block R l1]; exact HR1.out.1, HR1.out.2⟩
      clear hs1 hv hk1 hr1 hsz hs1' hta htb hns2 hbl hRl l1 l2 l3 hp hz h
      go_region
      all_goals go_wp2
      refine wp_region_held_drew (S := fun X => X.cell? ⟨w.heap.size, 0, none⟩ = some (.int .i64 (n : Int))) (by kernel_rfl) c1 (fun hHeld => ?_)
      refine take12 (i := 0) (d := 15) (v := .pointer (some ⟨b, o, none⟩)) rfl rfl (by kernel_rfl) (by kernel_rfl) (by kernel_rfl) (fun _ _ _ h => h) (Or.inl ⟨by rfl, ?_⟩) (by assumption) ?_
      · intro X hSw
        go_simp
      simp only [Act.put, List.setIfInBounds_toArray, List.set_cons_zero, List.set_cons_succ]
      refine take12 (i := 1) (d := 16) (v := .pointer (some ⟨R, 0, none⟩)) rfl rfl (by kernel_rfl) (by kernel_rfl) (by kernel_rfl) (fun _ _ _ h => h) (Or.inl ⟨by rfl, ?_⟩) (by assumption) ?_
      · intro X hSw
        go_simp
      simp only [Act.put, List.setIfInBounds_toArray, List.set_cons_zero, List.set_cons_succ]
      refine take12 (i := 2) (d := 17) (v := .pointer (some ⟨R, 0, none⟩)) rfl rfl (by kernel_rfl) (by kernel_rfl) (by kernel_rfl) (fun _ _ _ h => h) (Or.inl ⟨by rfl, ?_⟩) (by assumption) ?_
      · intro X hSw
        go_simp
      simp only [Act.put, List.setIfInBounds_toArray, List.set_cons_zero, List.set_cons_succ]
      refine take12 (i := 3) (d := 18) (v := .pointer (some ⟨R, 0, none⟩)) rfl rfl (by kernel_rfl) (by kernel_rfl) (by kernel_rfl) (fun _ _ _ h => h) (Or.inl ⟨by rfl, ?_⟩) (by assumption) ?_
      · intro X hSw
        go_simp
      simp only [Act.put, List.setIfInBounds_toArray, List.set_cons_zero, List.set_cons_succ]
      refine take12 (i := 4) (d := 19) (v := .pointer (some ⟨R, 0, none⟩)) rfl rfl (by kernel_rfl) (by kernel_rfl) (by kernel_rfl) (fun _ _ _ h => h) (Or.inl ⟨by rfl, ?_⟩) (by assumption) ?_
      · intro X hSw
        go_simp
      simp only [Act.put, List.setIfInBounds_toArray, List.set_cons_zero, List.set_cons_succ]
      refine take12 (i := 6) (d := 21) (v := .int .i64 (n : Int)) rfl rfl (by kernel_rfl) (by kernel_rfl) (by kernel_rfl) (fun _ _ _ h => h) (Or.inl ⟨by rfl, ?_⟩) (by assumption) ?_
      · intro X hSw
        go_simp
      simp only [Act.put, List.setIfInBounds_toArray, List.set_cons_zero, List.set_cons_succ]
      refine take12 (i := 9) (d := 24) (v := .pointer (some ⟨R, 0, none⟩)) rfl rfl (by kernel_rfl) (by kernel_rfl) (by kernel_rfl) (fun _ _ _ h => h) (Or.inl ⟨by rfl, ?_⟩) (by assumption) ?_
      · intro X hSw
        go_simp
      simp only [Act.put, List.setIfInBounds_toArray, List.set_cons_zero, List.set_cons_succ]
      refine take12 (i := 10) (d := 25) (v := .pointer (some ⟨R, 0, none⟩)) rfl rfl (by kernel_rfl) (by kernel_rfl) (by kernel_rfl) (fun _ _ _ h => h) (Or.inl ⟨by rfl, ?_⟩) (by assumption) ?_
      · intro X hSw
        go_simp
      simp only [Act.put, List.setIfInBounds_toArray, List.set_cons_zero, List.set_cons_succ]
      refine take12 (i := 11) (d := 26) (v := .pointer (some ⟨R, 0, none⟩)) rfl rfl (by kernel_rfl) (by kernel_rfl) (by kernel_rfl) (fun _ _ _ h => h) (Or.inl ⟨by rfl, ?_⟩) (by assumption) ?_
      · intro X hSw
        go_simp
      simp only [Act.put, List.setIfInBounds_toArray, List.set_cons_zero, List.set_cons_succ]
      refine take12 (i := 13) (d := 28) (v := .int .i64 (n : Int)) rfl rfl (by kernel_rfl) (by kernel_rfl) (by kernel_rfl) (fun _ _ _ h => h) (Or.inl ⟨by rfl, ?_⟩) (by assumption) ?_
      · intro X hSw
        go_simp
      simp only [Act.put, List.setIfInBounds_toArray, List.set_cons_zero, List.set_cons_succ]
      refine wpAnyH_ready (rs := [5, 12]) (by kernel_rfl) (by simp) ?_
      refine AllReadyH.cons rfl (fun K hK => ?_) (AllReadyH.cons rfl (fun K hK => ?_) AllReadyH.nil)
      · go_simp
        refine hK.out _ _ c1 (fun hHeld => ?_)
        clear hK K
        try simp only [Act.put, List.setIfInBounds_toArray, List.set_cons_zero, List.set_cons_succ]
        refine take12 (i := 7) (d := 22) (v := .string ta) rfl rfl (by kernel_rfl) (by kernel_rfl) (by kernel_rfl) (fun _ _ _ h => h) (Or.inl ⟨by rfl, ?_⟩) (by assumption) ?_
        · intro X hSw
          go_simp
        simp only [Act.put, List.setIfInBounds_toArray, List.set_cons_zero, List.set_cons_succ]
        refine wpAnyH_ready (rs := [8, 12]) (by kernel_rfl) (by simp) ?_
        refine AllReadyH.cons rfl (fun K hK => ?_) (AllReadyH.cons rfl (fun K hK => ?_) AllReadyH.nil)
        · refine stepCall12 23 rfl rfl 36 #[.string ta] (by kernel_rfl) (Clone_any ta _ HSZ.out) ?_
          rintro e w2 ⟨rfl, hb2d⟩
          have hb2 := below_undrew (below_undrew hb2d)
          obtain ⟨d1, d2, d3, d4, d5, d6⟩ := HB.out w2 hb2
          refine ⟨_, rfl, hK.out _ _ d5 (fun hHeld => ?_)⟩
          clear hK K
          try simp only [Act.put, List.setIfInBounds_toArray, List.set_cons_zero, List.set_cons_succ]
          refine wpAnyH_ready (rs := [12]) (by kernel_rfl) (by simp) ?_
          refine AllReadyH.cons rfl (fun K hK => ?_) AllReadyH.nil
          go_simp
          refine hK.out _ _ d5 (fun hHeld => ?_)
          clear hK K
          try simp only [Act.put, List.setIfInBounds_toArray, List.set_cons_zero, List.set_cons_succ]
          refine take12 (i := 14) (d := 29) (v := .string tb) rfl rfl (by kernel_rfl) (by kernel_rfl) (by kernel_rfl) (fun _ _ _ h => h) (Or.inl ⟨by rfl, ?_⟩) (by assumption) ?_
          · intro X hSw
            go_simp
          simp only [Act.put, List.setIfInBounds_toArray, List.set_cons_zero, List.set_cons_succ]
          refine take12 (i := 15) (d := 30) (v := .pointer (some ⟨b, o, none⟩)) rfl rfl (by kernel_rfl) (by kernel_rfl) (by kernel_rfl) (fun _ _ _ h => h) (Or.inl ⟨by rfl, ?_⟩) (by assumption) ?_
          · intro X hSw
            go_simp
          simp only [Act.put, List.setIfInBounds_toArray, List.set_cons_zero, List.set_cons_succ]
          refine wpAnyH_ready (rs := [16]) (by kernel_rfl) (by simp) ?_
          refine AllReadyH.cons rfl (fun K hK => ?_) AllReadyH.nil
          go_simp
          refine hK.out _ _ (by rw [World.cell?_setCell_far _ _ _ _ (by exact hbN)]; exact d5) (fun hHeld => ?_)
          clear hK K
          try simp only [Act.put, List.setIfInBounds_toArray, List.set_cons_zero, List.set_cons_succ]
          refine take12 (i := 17) (d := 31) (v := .pointer (some ⟨R, 0, none⟩)) rfl rfl (by kernel_rfl) (by kernel_rfl) (by kernel_rfl) (fun _ _ _ h => h) (Or.inl ⟨by rfl, ?_⟩) (by assumption) ?_
          · intro X hSw
            go_simp
          simp only [Act.put, List.setIfInBounds_toArray, List.set_cons_zero, List.set_cons_succ]
          refine take12 (i := 18) (d := 32) (v := .pointer (some ⟨R, 0, none⟩)) rfl rfl (by kernel_rfl) (by kernel_rfl) (by kernel_rfl) (fun _ _ _ h => h) (Or.inl ⟨by rfl, ?_⟩) (by assumption) ?_
          · intro X hSw
            go_simp
          simp only [Act.put, List.setIfInBounds_toArray, List.set_cons_zero, List.set_cons_succ]
          have z5 : (w2.setCell ⟨b, o, none⟩ (.string ta)).frozen? ⟨R, 0, none⟩ = false := by rw [World.frozen?_setCell]; exact d3
          have c5 : (w2.setCell ⟨b, o, none⟩ (.string ta)).cell? ⟨R, 0, none⟩ = some (.string s1) := by rw [World.cell?_setCell_far _ _ _ _ (by exact hR)]; exact d4
          refine wpAnyH_ready (rs := [19]) (by kernel_rfl) (by simp) ?_
          refine AllReadyH.cons rfl (fun K hK => ?_) AllReadyH.nil
          go_simp
          refine hK.out _ _ (by rw [World.cell?_setCell_far _ _ _ _ (by exact hN), World.cell?_setCell_far _ _ _ _ (by exact hbN)]; exact d5) (fun hHeld => ?_)
          clear hK K
          try simp only [Act.put, List.setIfInBounds_toArray, List.set_cons_zero, List.set_cons_succ]
          refine wpAnyH_done (by kernel_rfl) ?_ _
          go_wp2
          go_end0
          obtain ⟨e1, e2, e3⟩ := rd_stored0 d6 HSY.out d1 hR (.string ta)
          have hk := ((hK0.out (S := fun c p => c = b ∧ p = o) HK1.out).trans (KeptC.of_below (S := fun c p => c = R ∨ (c = b ∧ p = o)) hb2) (fun _ _ _ x => x)).trans e1 (fun _ _ _ x => x)
          exact ⟨hk, rfl, ⟨tb, e2, HT.out.2⟩, ta, by rw [HT.out.1], e3⟩
        · go_simp
          refine hK.out _ _ c1 (fun hHeld => ?_)
          clear hK K
          try simp only [Act.put, List.setIfInBounds_toArray, List.set_cons_zero, List.set_cons_succ]
          refine take12 (i := 14) (d := 29) (v := .string tb) rfl rfl (by kernel_rfl) (by kernel_rfl) (by kernel_rfl) (fun _ _ _ h => h) (Or.inl ⟨by rfl, ?_⟩) (by assumption) ?_
          · intro X hSw
            go_simp
          simp only [Act.put, List.setIfInBounds_toArray, List.set_cons_zero, List.set_cons_succ]
          refine wpAnyH_ready (rs := [8]) (by kernel_rfl) (by simp) ?_
          refine AllReadyH.cons rfl (fun K hK => ?_) AllReadyH.nil
          refine stepCall12 23 rfl rfl 36 #[.string ta] (by kernel_rfl) (Clone_any ta _ HSZ.out) ?_
          rintro e w2 ⟨rfl, hb2d⟩
          have hb2 := below_undrew (below_undrew hb2d)
          obtain ⟨d1, d2, d3, d4, d5, d6⟩ := HB.out w2 hb2
          refine ⟨_, rfl, hK.out _ _ d5 (fun hHeld => ?_)⟩
          clear hK K
          try simp only [Act.put, List.setIfInBounds_toArray, List.set_cons_zero, List.set_cons_succ]
          refine take12 (i := 15) (d := 30) (v := .pointer (some ⟨b, o, none⟩)) rfl rfl (by kernel_rfl) (by kernel_rfl) (by kernel_rfl) (fun _ _ _ h => h) (Or.inl ⟨by rfl, ?_⟩) (by assumption) ?_
          · intro X hSw
            go_simp
          simp only [Act.put, List.setIfInBounds_toArray, List.set_cons_zero, List.set_cons_succ]
          refine wpAnyH_ready (rs := [16]) (by kernel_rfl) (by simp) ?_
          refine AllReadyH.cons rfl (fun K hK => ?_) AllReadyH.nil
          go_simp
          refine hK.out _ _ (by rw [World.cell?_setCell_far _ _ _ _ (by exact hbN)]; exact d5) (fun hHeld => ?_)
          clear hK K
          try simp only [Act.put, List.setIfInBounds_toArray, List.set_cons_zero, List.set_cons_succ]
          refine take12 (i := 17) (d := 31) (v := .pointer (some ⟨R, 0, none⟩)) rfl rfl (by kernel_rfl) (by kernel_rfl) (by kernel_rfl) (fun _ _ _ h => h) (Or.inl ⟨by rfl, ?_⟩) (by assumption) ?_
          · intro X hSw
            go_simp
          simp only [Act.put, List.setIfInBounds_toArray, List.set_cons_zero, List.set_cons_succ]
          refine take12 (i := 18) (d := 32) (v := .pointer (some ⟨R, 0, none⟩)) rfl rfl (by kernel_rfl) (by kernel_rfl) (by kernel_rfl) (fun _ _ _ h => h) (Or.inl ⟨by rfl, ?_⟩) (by assumption) ?_
          · intro X hSw
            go_simp
          simp only [Act.put, List.setIfInBounds_toArray, List.set_cons_zero, List.set_cons_succ]
          have z5 : (w2.setCell ⟨b, o, none⟩ (.string ta)).frozen? ⟨R, 0, none⟩ = false := by rw [World.frozen?_setCell]; exact d3
          have c5 : (w2.setCell ⟨b, o, none⟩ (.string ta)).cell? ⟨R, 0, none⟩ = some (.string s1) := by rw [World.cell?_setCell_far _ _ _ _ (by exact hR)]; exact d4
          refine wpAnyH_ready (rs := [19]) (by kernel_rfl) (by simp) ?_
          refine AllReadyH.cons rfl (fun K hK => ?_) AllReadyH.nil
          go_simp
          refine hK.out _ _ (by rw [World.cell?_setCell_far _ _ _ _ (by exact hN), World.cell?_setCell_far _ _ _ _ (by exact hbN)]; exact d5) (fun hHeld => ?_)
          clear hK K
          try simp only [Act.put, List.setIfInBounds_toArray, List.set_cons_zero, List.set_cons_succ]
          refine wpAnyH_done (by kernel_rfl) ?_ _
          go_wp2
          go_end0
          obtain ⟨e1, e2, e3⟩ := rd_stored0 d6 HSY.out d1 hR (.string ta)
          have hk := ((hK0.out (S := fun c p => c = b ∧ p = o) HK1.out).trans (KeptC.of_below (S := fun c p => c = R ∨ (c = b ∧ p = o)) hb2) (fun _ _ _ x => x)).trans e1 (fun _ _ _ x => x)
          exact ⟨hk, rfl, ⟨tb, e2, HT.out.2⟩, ta, by rw [HT.out.1], e3⟩
      · go_simp
        refine hK.out _ _ c1 (fun hHeld => ?_)
        clear hK K
        try simp only [Act.put, List.setIfInBounds_toArray, List.set_cons_zero, List.set_cons_succ]
        refine take12 (i := 14) (d := 29) (v := .string tb) rfl rfl (by kernel_rfl) (by kernel_rfl) (by kernel_rfl) (fun _ _ _ h => h) (Or.inl ⟨by rfl, ?_⟩) (by assumption) ?_
        · intro X hSw
          go_simp
        simp only [Act.put, List.setIfInBounds_toArray, List.set_cons_zero, List.set_cons_succ]
        refine wpAnyH_ready (rs := [5]) (by kernel_rfl) (by simp) ?_
        refine AllReadyH.cons rfl (fun K hK => ?_) AllReadyH.nil
        go_simp
        refine hK.out _ _ c1 (fun hHeld => ?_)
        clear hK K
        try simp only [Act.put, List.setIfInBounds_toArray, List.set_cons_zero, List.set_cons_succ]
        refine take12 (i := 7) (d := 22) (v := .string ta) rfl rfl (by kernel_rfl) (by kernel_rfl) (by kernel_rfl) (fun _ _ _ h => h) (Or.inl ⟨by rfl, ?_⟩) (by assumption) ?_
        · intro X hSw
          go_simp
        simp only [Act.put, List.setIfInBounds_toArray, List.set_cons_zero, List.set_cons_succ]
        refine wpAnyH_ready (rs := [8]) (by kernel_rfl) (by simp) ?_
        refine AllReadyH.cons rfl (fun K hK => ?_) AllReadyH.nil
        refine stepCall12 23 rfl rfl 36 #[.string ta] (by kernel_rfl) (Clone_any ta _ HSZ.out) ?_
        rintro e w2 ⟨rfl, hb2d⟩
        have hb2 := below_undrew (below_undrew hb2d)
        obtain ⟨d1, d2, d3, d4, d5, d6⟩ := HB.out w2 hb2
        refine ⟨_, rfl, hK.out _ _ d5 (fun hHeld => ?_)⟩
        clear hK K
        try simp only [Act.put, List.setIfInBounds_toArray, List.set_cons_zero, List.set_cons_succ]
        refine take12 (i := 15) (d := 30) (v := .pointer (some ⟨b, o, none⟩)) rfl rfl (by kernel_rfl) (by kernel_rfl) (by kernel_rfl) (fun _ _ _ h => h) (Or.inl ⟨by rfl, ?_⟩) (by assumption) ?_
        · intro X hSw
          go_simp
        simp only [Act.put, List.setIfInBounds_toArray, List.set_cons_zero, List.set_cons_succ]
        refine wpAnyH_ready (rs := [16]) (by kernel_rfl) (by simp) ?_
        refine AllReadyH.cons rfl (fun K hK => ?_) AllReadyH.nil
        go_simp
        refine hK.out _ _ (by rw [World.cell?_setCell_far _ _ _ _ (by exact hbN)]; exact d5) (fun hHeld => ?_)
        clear hK K
        try simp only [Act.put, List.setIfInBounds_toArray, List.set_cons_zero, List.set_cons_succ]
        refine take12 (i := 17) (d := 31) (v := .pointer (some ⟨R, 0, none⟩)) rfl rfl (by kernel_rfl) (by kernel_rfl) (by kernel_rfl) (fun _ _ _ h => h) (Or.inl ⟨by rfl, ?_⟩) (by assumption) ?_
        · intro X hSw
          go_simp
        simp only [Act.put, List.setIfInBounds_toArray, List.set_cons_zero, List.set_cons_succ]
        refine take12 (i := 18) (d := 32) (v := .pointer (some ⟨R, 0, none⟩)) rfl rfl (by kernel_rfl) (by kernel_rfl) (by kernel_rfl) (fun _ _ _ h => h) (Or.inl ⟨by rfl, ?_⟩) (by assumption) ?_
        · intro X hSw
          go_simp
        simp only [Act.put, List.setIfInBounds_toArray, List.set_cons_zero, List.set_cons_succ]
        have z5 : (w2.setCell ⟨b, o, none⟩ (.string ta)).frozen? ⟨R, 0, none⟩ = false := by rw [World.frozen?_setCell]; exact d3
        have c5 : (w2.setCell ⟨b, o, none⟩ (.string ta)).cell? ⟨R, 0, none⟩ = some (.string s1) := by rw [World.cell?_setCell_far _ _ _ _ (by exact hR)]; exact d4
        refine wpAnyH_ready (rs := [19]) (by kernel_rfl) (by simp) ?_
        refine AllReadyH.cons rfl (fun K hK => ?_) AllReadyH.nil
        go_simp
        refine hK.out _ _ (by rw [World.cell?_setCell_far _ _ _ _ (by exact hN), World.cell?_setCell_far _ _ _ _ (by exact hbN)]; exact d5) (fun hHeld => ?_)
        clear hK K
        try simp only [Act.put, List.setIfInBounds_toArray, List.set_cons_zero, List.set_cons_succ]
        refine wpAnyH_done (by kernel_rfl) ?_ _
        go_wp2
        go_end0
        obtain ⟨e1, e2, e3⟩ := rd_stored0 d6 HSY.out d1 hR (.string ta)
        have hk := ((hK0.out (S := fun c p => c = b ∧ p = o) HK1.out).trans (KeptC.of_below (S := fun c p => c = R ∨ (c = b ∧ p = o)) hb2) (fun _ _ _ x => x)).trans e1 (fun _ _ _ x => x)
        exact ⟨hk, rfl, ⟨tb, e2, HT.out.2⟩, ta, by rw [HT.out.1], e3⟩
    · rw [if_neg hle]
      have HLE := hidden hle
      clear hle
      go_enter Try.func95, Try.ntmps95
      go_wp2_with (go_at_call 94; refine (HN.out).mono ?_; rintro e w1 ⟨hk1, rfl, ⟨s1, hr1, hs1⟩, v, hv, c1⟩)
      obtain rfl : v = (n : Int) := by
        simp only [List.cons.injEq, Prod.mk.injEq, Sum.inl.injEq, and_true, true_and] at hv
        exact hv.symm
      have c2 := hr1.cell
      have hsz : s1.size = r.length := by rw [← hs1, Cm.toL_len]
      have hns : s1.size < n := by have := HLE.out; omega
      have HK1 := hidden hk1
      clear hs1 hv hk1 hr1 hsz hbl hRl hp hz h
      go_region
      all_goals go_wp2
      all_goals exact ⟨rfl, (hK0.out HK1.out).drew, _, _, rfl⟩

end Go.Proofs.Ytnfjfhjhofaodaa
