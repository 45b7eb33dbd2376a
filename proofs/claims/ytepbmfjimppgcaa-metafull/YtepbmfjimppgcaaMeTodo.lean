/-
  What the first transaction waits for, where it is not decided.
-/
import Derived.Test.YtepbmfjimppgcaaMeTx
import Derived.Test.YtepbmfjimppgcaaMeRefu
import Derived.Deep.CutRange
namespace Go.Proofs.Ytepbmfjimppgcaa
open Go.RowKit

def todV (tx : Int) (t : Me.Tx) (d k : Bool) (sl : Value) : Value := .agg #[.int .i64 tx, .int .i64 t.a, .int .i64 t.b, .int .i64 t.op.kind, .string t.op.space, .string t.op.channel, .string t.op.user, .string t.op.text, .string t.op.toSpace, .string t.op.to, .int .i64 t.op.frm, .int .i64 t.op.most, .bool d, .bool k, sl, .string t.data]
theorem todInfo : (Try.prog.info? 54).map (·.size) = some 16 := by kernel_rfl
set_option maxHeartbeats 3200000 in
set_option maxRecDepth 20000 in
theorem Todo_open {w : World} {B n : Nat} {q : Me.St} {who : Nat → Nat} (h : Mt w B q who n) (hn : n ≤ 1000000) (t : Me.Tx) (r : List Me.Tx) (hw : q.wait = t :: r) (hd : Me.dec t = false) : Calls Try.prog 15 #[.pointer (some ⟨B, 0, none⟩)] w fun e w' => ∃ sl, e = .returned (.tuple #[todV ((q.ans : Int) + 1) t false false sl, .bool true]) ∧ RowC w' 1 sl (Me.opn t).length (intsL (Me.opn t)) ∧ Below w.heap.size w w' := by
  obtain ⟨u, hu⟩ : ∃ u, u = w.alloc (.cells #[.int .i64 0, .int .i64 0, .int .i64 0, .int .i64 0, .string ⟨#[]⟩, .string ⟨#[]⟩, .string ⟨#[]⟩, .string ⟨#[]⟩, .string ⟨#[]⟩, .string ⟨#[]⟩, .int .i64 0, .int .i64 0, .bool false, .bool false, .slice none 0 0, .string ⟨#[]⟩] 54) := ⟨_, rfl⟩
  obtain ⟨br, hbr⟩ : ∃ br, br = w.heap.size := ⟨_, rfl⟩
  have hbu : Below w.heap.size w u := by rw [hu]; exact below_alloc _ _
  have HU : Hid (Below w.heap.size w u ∧ br < u.heap.size ∧ w.heap.size ≤ br) := ⟨hbu, by rw [hu, hbr]; simp, by omega⟩
  have hZ0 : ∀ j, u.cell? ⟨br, j, none⟩ = (#[.int .i64 0, .int .i64 0, .int .i64 0, .int .i64 0, .string ⟨#[]⟩, .string ⟨#[]⟩, .string ⟨#[]⟩, .string ⟨#[]⟩, .string ⟨#[]⟩, .string ⟨#[]⟩, .int .i64 0, .int .i64 0, .bool false, .bool false, .slice none 0 0, .string ⟨#[]⟩] : Array Value)[j]? := fun j => by rw [hu, hbr]; exact World.cell?_alloc_mark w _ _ _ j
  have hZ1 : ∀ j, u.frozen? ⟨br, j, none⟩ = false := fun j => by rw [hu, hbr, World.frozen?_alloc_mark]; simp
  have hh := h.below hbu
  have HWt : Hid _ := WaitingQ_c hh
  have HFs : Hid (∀ X, Below u.heap.size u X → Calls Try.prog 27 #[.pointer (some ⟨B, 0, none⟩)] X fun e w' => e = .returned (.int .i64 ((q.ans : Int) + 1)) ∧ w' = X) := fun X hX => firstQ_c (hh.below hX) hn
  obtain ⟨h0, ob, tb, tm, wv, vb, eb, hq⟩ := hh
  have htx := h0.tx t (by rw [hw]; exact List.mem_cons_self ..)
  obtain ⟨⟨hmv, _⟩, hme, _⟩ := hq.r.mv 0 t (by rw [hw]; rfl)
  have hlen : q.wait.length = r.length + 1 := by rw [hw]; rfl
  obtain ⟨g, off, cc, hwv, _, _, _, hC⟩ := hq.r.row.cells (by omega)
  have HRg : Hid (∀ X, Below u.heap.size u X → X.rangeAt g off (txC t (vb (q.ans + 1 + 0)) (eb (q.ans + 1 + 0)))) := fun X hX j x hx => by
    have hj := (List.getElem?_eq_some_iff.1 hx).1
    rw [txC_len] at hj
    have hy := hC (0 * 14 + j) x (by rw [txsC_at _ _ _ _ 0 _ t (by rw [hw]; rfl) hj]; exact hx)
    rw [Nat.zero_mul, Nat.zero_add] at hy
    exact (hX.cell (p := ⟨g, off + j, none⟩) (World.block_lt_of_cell? _ _ hy)).trans hy
  have HQ4 : Hid (∀ X, Below u.heap.size u X → X.cell? ⟨B, 4, none⟩ = some wv) := fun X hX => (hq.below h0.np hX).b.c4
  rw [hwv, hlen] at HQ4
  rw [hlen] at HWt
  obtain ⟨v, hv⟩ : ∃ v, v = vb (q.ans + 1 + 0) := ⟨_, rfl⟩
  obtain ⟨e, he⟩ : ∃ e, e = eb (q.ans + 1 + 0) := ⟨_, rfl⟩
  rw [← hv, ← he] at HRg
  rw [← hv] at hmv
  rw [← he] at hme
  have HMi : Hid (∀ X, Below u.heap.size u X → Mi X v (vsM t.vs) ∧ Mi X e (esM t.es)) := fun X hX => ⟨hmv.carry (hX.block v hmv.lt), hme.carry (hX.block e hme.lt)⟩
  have HOp : Hid (OpOk t.op) := htx.ok
  have HD : Hid (Me.dec t = false) := hd
  clear h h0 hq htx hmv hme hC hv he hwv hlen hw hd hbu
  have y4 := HQ4.out u (Below.refl _ _)
  obtain ⟨m, hm⟩ : ∃ m, m = r.length + 1 := ⟨_, rfl⟩
  have hm0 : ¬ ((m : Int) = 0) := by omega
  have hm1 : (0 : Nat) < m := by omega
  rw [← hm] at HWt y4
  clear hm
  obtain ⟨cs, hcs⟩ : ∃ cs, cs = (txC t v e).toArray := ⟨_, rfl⟩
  have hi14 : (Try.prog.info? 70).map (·.size) = some cs.size := by rw [hcs]; exact txInfo14
  have hone : cs.all (·.oneCell') = true := by rw [hcs]; exact all_oneCell_toArray (txC_one t v e)
  have HCs : Hid (cs = (txC t v e).toArray) := hcs
  have HSz : Hid (cs.size = 14) := by show cs.size = 14; rw [hcs]; rfl
  obtain ⟨X0, hX0⟩ : ∃ X0, X0 = u.alloc (.cells cs 70) := ⟨_, rfl⟩
  obtain ⟨bt, hbt⟩ : ∃ bt, bt = u.heap.size := ⟨_, rfl⟩
  have hBt : Bt u X0 bt t v e := by rw [hbt]; exact Bt.of u t v e (by rw [hX0, hcs])
  have HBt : Hid _ := hBt
  clear hBt hcs
  obtain ⟨ta, tbb, ⟨k0, o1, o2, o3, o4, o5, o6, k7, k8⟩, tvs, tes, tda⟩ := t
  obtain ⟨L, hL⟩ : ∃ L, L = Me.opn ⟨ta, tbb, ⟨k0, o1, o2, o3, o4, o5, o6, k7, k8⟩, tvs, tes, tda⟩ := ⟨_, rfl⟩
  have HSc : Hid (∀ X, Below X0.heap.size X0 X → X.cell? ⟨bt, 0, none⟩ = some (.int .i64 ta) ∧ X.cell? ⟨bt, 1, none⟩ = some (.int .i64 tbb) ∧ X.cell? ⟨bt, 2, none⟩ = some (.int .i64 k0) ∧ X.cell? ⟨bt, 3, none⟩ = some (.string o1) ∧ X.cell? ⟨bt, 4, none⟩ = some (.string o2) ∧ X.cell? ⟨bt, 5, none⟩ = some (.string o3) ∧ X.cell? ⟨bt, 6, none⟩ = some (.string o4) ∧ X.cell? ⟨bt, 7, none⟩ = some (.string o5) ∧ X.cell? ⟨bt, 8, none⟩ = some (.string o6) ∧ X.cell? ⟨bt, 9, none⟩ = some (.int .i64 k7) ∧ X.cell? ⟨bt, 10, none⟩ = some (.int .i64 k8) ∧ X.cell? ⟨bt, 11, none⟩ = some (.map (some v)) ∧ X.cell? ⟨bt, 12, none⟩ = some (.map (some e)) ∧ X.cell? ⟨bt, 13, none⟩ = some (.string tda)) := fun X hX => ⟨HBt.out.at hX (j := 0) rfl, HBt.out.at hX (j := 1) rfl, HBt.out.at hX (j := 2) rfl, HBt.out.at hX (j := 3) rfl, HBt.out.at hX (j := 4) rfl, HBt.out.at hX (j := 5) rfl, HBt.out.at hX (j := 6) rfl, HBt.out.at hX (j := 7) rfl, HBt.out.at hX (j := 8) rfl, HBt.out.at hX (j := 9) rfl, HBt.out.at hX (j := 10) rfl, HBt.out.at hX (j := 11) rfl, HBt.out.at hX (j := 12) rfl, HBt.out.at hX (j := 13) rfl⟩
  have hb0 : Below u.heap.size u X0 := HBt.out.old
  have HB0 : Hid (Below u.heap.size u X0) := hb0
  have HDc : Hid (∀ X, Below X0.heap.size X0 X → Calls Try.prog 28 #[.agg #[.int .i64 ta, .int .i64 tbb, .int .i64 k0, .string o1, .string o2, .string o3, .string o4, .string o5, .string o6, .int .i64 k7, .int .i64 k8, .map (some v), .map (some e), .string tda]] X fun e w' => e = .returned (.bool false) ∧ Below X0.heap.size X0 w') := fun X hX => by
    have := isDecided_c (e := e) (HMi.out X (HB0.out.trans (hX.mono HB0.out.size))).1 HOp.out
    rw [HD.out] at this
    refine Calls.mono this ?_
    rintro e' w' ⟨rfl, hb⟩
    exact ⟨rfl, hX.trans (hb.mono hX.size)⟩
  have HOc : Hid (∀ X, Below X0.heap.size X0 X → Calls Try.prog 30 #[.agg #[.int .i64 ta, .int .i64 tbb, .int .i64 k0, .string o1, .string o2, .string o3, .string o4, .string o5, .string o6, .int .i64 k7, .int .i64 k8, .map (some v), .map (some e), .string tda]] X fun e w' => ∃ sl, e = .returned sl ∧ RowC w' 1 sl L.length (intsL L) ∧ Below X0.heap.size X0 w' ∧ ∀ k, cBlk sl = some k → X0.heap.size ≤ k) := fun X hX => by
    obtain ⟨m1, m2⟩ := HMi.out X (HB0.out.trans (hX.mono HB0.out.size))
    have hoc := open_c (t := ⟨ta, tbb, ⟨k0, o1, o2, o3, o4, o5, o6, k7, k8⟩, tvs, tes, tda⟩) m1 m2 HOp.out
    rw [← hL] at hoc
    refine Calls.mono hoc ?_
    rintro e' w' ⟨sl, rfl, hl⟩
    exact ⟨sl, rfl, hl.2.1, hX.trans (hl.1.mono hX.size), fun k hk => Nat.le_trans hX.size (hl.2.2 k hk)⟩
  have HFs2 : Hid (∀ X, Below X0.heap.size X0 X → Calls Try.prog 27 #[.pointer (some ⟨B, 0, none⟩)] X fun e w' => e = .returned (.int .i64 ((q.ans : Int) + 1)) ∧ w' = X) := fun X hX => HFs.out X (HB0.out.trans (hX.mono HB0.out.size))
  have HZr : Hid (∀ X, Below u.heap.size u X → (∀ j, j < 16 → X.cell? ⟨br, j, none⟩ = (#[.int .i64 0, .int .i64 0, .int .i64 0, .int .i64 0, .string ⟨#[]⟩, .string ⟨#[]⟩, .string ⟨#[]⟩, .string ⟨#[]⟩, .string ⟨#[]⟩, .string ⟨#[]⟩, .int .i64 0, .int .i64 0, .bool false, .bool false, .slice none 0 0, .string ⟨#[]⟩] : Array Value)[j]?) ∧ ∀ j, X.frozen? ⟨br, j, none⟩ = false) := fun X hX => ⟨fun j _ => (hX.cell (p := ⟨br, j, none⟩) HU.out.2.1).trans (hZ0 j), fun j => (hX.frozen (p := ⟨br, j, none⟩) HU.out.2.1).trans (hZ1 j)⟩
  rw [← hL]
  unfold todV
  dsimp only
  have HNe : Hid (br ≠ bt) := by have := HU.out.2.1; have := HBt.out.lo.1; show br ≠ bt; omega
  obtain ⟨aa, haa⟩ : ∃ aa : Int, aa = (q.ans : Int) + 1 := ⟨_, rfl⟩
  rw [← haa] at HFs2 ⊢
  clear hb0 hL haa hZ0 hZ1 HFs HMi HQ4
  go_enter Try.func15, Try.ntmps15
  go_upto_region 1 with fail
  rw [← hu]
  try rw [← hbr]
  clear hu hbr
  go_wp2_with fail
  refine Calls.mono HWt.out ?_
  rintro e1 w1 ⟨rfl, hw1⟩
  have hw1 := hw1.symm
  subst hw1
  go_upto_region 4 with (first
    | (refine wpList_load_mid rfl 70 (.tmp 13) rfl g off rfl _ _ (HRg.out _ (Below.refl _ _)) Try.underlying70 rfl txInfo14 ?_; rw [← HCs.out])
    | (refine wpList_store_row rfl 70 (.tmp 4) (.tmp 14) rfl u.heap.size _ rfl rfl 70 _ (heap_alloc_new u _) hi14 (by first | exact HSz.out | exact HSz.out.symm) hone ?_; rw [setRowN, ← hX0, ← hbt]; clear hX0 hbt))
  go_simp
  clear y4
  obtain ⟨x0, hx0⟩ : ∃ x0, x0 = X0.drew := ⟨_, rfl⟩
  have HBx0 : Hid (Below X0.heap.size X0 x0) := by rw [hx0]; exact below_drew X0
  refine wp_region_held_drew (S := fun X => X.cell? ⟨bt, 0, none⟩ = some (.int .i64 ta) ∧ X.cell? ⟨bt, 1, none⟩ = some (.int .i64 tbb) ∧ X.cell? ⟨bt, 2, none⟩ = some (.int .i64 k0) ∧ X.cell? ⟨bt, 3, none⟩ = some (.string o1) ∧ X.cell? ⟨bt, 4, none⟩ = some (.string o2) ∧ X.cell? ⟨bt, 5, none⟩ = some (.string o3) ∧ X.cell? ⟨bt, 6, none⟩ = some (.string o4) ∧ X.cell? ⟨bt, 7, none⟩ = some (.string o5) ∧ X.cell? ⟨bt, 8, none⟩ = some (.string o6) ∧ X.cell? ⟨bt, 9, none⟩ = some (.int .i64 k7) ∧ X.cell? ⟨bt, 10, none⟩ = some (.int .i64 k8) ∧ X.cell? ⟨bt, 11, none⟩ = some (.map (some v)) ∧ X.cell? ⟨bt, 12, none⟩ = some (.map (some e)) ∧ X.cell? ⟨bt, 13, none⟩ = some (.string tda)) (by kernel_rfl) (HSc.out _ (below_drew X0)) (fun hHeld => ?_)
  rw [← hx0] at hHeld ⊢
  clear hx0
  refine takeM (i := 0) (d := 15) (v := .pointer (some ⟨B, 0, none⟩)) rfl rfl (by kernel_rfl) (by kernel_rfl) (by kernel_rfl) (fun _ _ _ h => h) (Or.inl ⟨by rfl, ?_⟩) (by assumption) ?_
  · intro X hSw
    obtain ⟨e0, e1, e2, e3, e4, e5, e6, e7, e8, e9, e10, e11, e12, e13⟩ := hSw
    go_simp
  simp only [Act.put, List.setIfInBounds_toArray, List.set_cons_zero, List.set_cons_succ]
  refine takeM (i := 2) (d := 17) (v := .pointer (some ⟨bt, 0, none⟩)) rfl rfl (by kernel_rfl) (by kernel_rfl) (by kernel_rfl) (fun _ _ _ h => h) (Or.inl ⟨by rfl, ?_⟩) (by assumption) ?_
  · intro X hSw
    obtain ⟨e0, e1, e2, e3, e4, e5, e6, e7, e8, e9, e10, e11, e12, e13⟩ := hSw
    go_simp
  simp only [Act.put, List.setIfInBounds_toArray, List.set_cons_zero, List.set_cons_succ]
  refine takeM (i := 3) (d := 18) (v := .agg #[.int .i64 ta, .int .i64 tbb]) rfl rfl (by kernel_rfl) (by kernel_rfl) (by kernel_rfl) (fun _ _ _ h => h) (Or.inl ⟨by rfl, ?_⟩) (by assumption) ?_
  · intro X hSw
    obtain ⟨e0, e1, e2, e3, e4, e5, e6, e7, e8, e9, e10, e11, e12, e13⟩ := hSw
    go_simp
  simp only [Act.put, List.setIfInBounds_toArray, List.set_cons_zero, List.set_cons_succ]
  refine takeM (i := 4) (d := 19) (v := .pointer (some ⟨bt, 2, none⟩)) rfl rfl (by kernel_rfl) (by kernel_rfl) (by kernel_rfl) (fun _ _ _ h => h) (Or.inl ⟨by rfl, ?_⟩) (by assumption) ?_
  · intro X hSw
    obtain ⟨e0, e1, e2, e3, e4, e5, e6, e7, e8, e9, e10, e11, e12, e13⟩ := hSw
    go_simp
  simp only [Act.put, List.setIfInBounds_toArray, List.set_cons_zero, List.set_cons_succ]
  refine takeM (i := 5) (d := 20) (v := .agg #[.int .i64 k0, .string o1, .string o2, .string o3, .string o4, .string o5, .string o6, .int .i64 k7, .int .i64 k8]) rfl rfl (by kernel_rfl) (by kernel_rfl) (by kernel_rfl) (fun _ _ _ h => h) (Or.inl ⟨by rfl, ?_⟩) (by assumption) ?_
  · intro X hSw
    obtain ⟨e0, e1, e2, e3, e4, e5, e6, e7, e8, e9, e10, e11, e12, e13⟩ := hSw
    go_simp
  simp only [Act.put, List.setIfInBounds_toArray, List.set_cons_zero, List.set_cons_succ]
  refine takeM (i := 6) (d := 21) (v := .agg #[.int .i64 ta, .int .i64 tbb, .int .i64 k0, .string o1, .string o2, .string o3, .string o4, .string o5, .string o6, .int .i64 k7, .int .i64 k8, .map (some v), .map (some e), .string tda]) rfl rfl (by kernel_rfl) (by kernel_rfl) (by kernel_rfl) (fun _ _ _ h => h) (Or.inl ⟨by rfl, ?_⟩) (by assumption) ?_
  · intro X hSw
    obtain ⟨e0, e1, e2, e3, e4, e5, e6, e7, e8, e9, e10, e11, e12, e13⟩ := hSw
    go_simp
  simp only [Act.put, List.setIfInBounds_toArray, List.set_cons_zero, List.set_cons_succ]
  refine takeM (i := 8) (d := 23) (v := .agg #[.int .i64 ta, .int .i64 tbb, .int .i64 k0, .string o1, .string o2, .string o3, .string o4, .string o5, .string o6, .int .i64 k7, .int .i64 k8, .map (some v), .map (some e), .string tda]) rfl rfl (by kernel_rfl) (by kernel_rfl) (by kernel_rfl) (fun _ _ _ h => h) (Or.inl ⟨by rfl, ?_⟩) (by assumption) ?_
  · intro X hSw
    obtain ⟨e0, e1, e2, e3, e4, e5, e6, e7, e8, e9, e10, e11, e12, e13⟩ := hSw
    go_simp
  simp only [Act.put, List.setIfInBounds_toArray, List.set_cons_zero, List.set_cons_succ]
  refine takeM (i := 15) (d := 30) (v := .agg #[.int .i64 ta, .int .i64 tbb, .int .i64 k0, .string o1, .string o2, .string o3, .string o4, .string o5, .string o6, .int .i64 k7, .int .i64 k8, .map (some v), .map (some e), .string tda]) rfl rfl (by kernel_rfl) (by kernel_rfl) (by kernel_rfl) (fun _ _ _ h => h) (Or.inl ⟨by rfl, ?_⟩) (by assumption) ?_
  · intro X hSw
    obtain ⟨e0, e1, e2, e3, e4, e5, e6, e7, e8, e9, e10, e11, e12, e13⟩ := hSw
    go_simp
  simp only [Act.put, List.setIfInBounds_toArray, List.set_cons_zero, List.set_cons_succ]
  refine takeM (i := 17) (d := 32) (v := .pointer (some ⟨bt, 13, none⟩)) rfl rfl (by kernel_rfl) (by kernel_rfl) (by kernel_rfl) (fun _ _ _ h => h) (Or.inl ⟨by rfl, ?_⟩) (by assumption) ?_
  · intro X hSw
    obtain ⟨e0, e1, e2, e3, e4, e5, e6, e7, e8, e9, e10, e11, e12, e13⟩ := hSw
    go_simp
  simp only [Act.put, List.setIfInBounds_toArray, List.set_cons_zero, List.set_cons_succ]
  refine takeM (i := 18) (d := 33) (v := .string tda) rfl rfl (by kernel_rfl) (by kernel_rfl) (by kernel_rfl) (fun _ _ _ h => h) (Or.inl ⟨by rfl, ?_⟩) (by assumption) ?_
  · intro X hSw
    obtain ⟨e0, e1, e2, e3, e4, e5, e6, e7, e8, e9, e10, e11, e12, e13⟩ := hSw
    go_simp
  simp only [Act.put, List.setIfInBounds_toArray, List.set_cons_zero, List.set_cons_succ]
  refine wpAnyH_ready (rs := [1]) (by kernel_rfl) (by simp) ?_
  refine AllReadyH.cons rfl (fun K hK => ?_) AllReadyH.nil
  go_simp
  go_wp2_with fail
  refine Calls.mono (HFs2.out x0 HBx0.out) ?_
  rintro e' x1 ⟨rfl, hx1⟩
  have HBx1 : Hid (Below X0.heap.size X0 x1) := by rw [hx1]; exact HBx0.out
  clear hx1
  go_wp2
  refine hK.out _ _ (HSc.out _ HBx1.out) (fun hHeld2 => ?_)
  clear hK K hHeld
  have hHeld := hHeld2
  clear hHeld2
  refine wpAnyH_ready (rs := [7]) (by kernel_rfl) (by simp) ?_
  refine AllReadyH.cons rfl (fun K hK => ?_) AllReadyH.nil
  go_simp
  go_wp2_with fail
  refine Calls.mono (HDc.out x1 HBx1.out) ?_
  rintro e' x2 ⟨rfl, hb⟩
  have HBx2 : Hid (Below X0.heap.size X0 x2) := hb
  clear hb
  go_wp2
  refine hK.out _ _ (HSc.out _ HBx2.out) (fun hHeld2 => ?_)
  clear hK K hHeld
  have hHeld := hHeld2
  clear hHeld2
  refine wpAnyH_ready (rs := [9]) (by kernel_rfl) (by simp) ?_
  refine AllReadyH.cons rfl (fun K hK => ?_) AllReadyH.nil
  go_simp
  go_wp2_with fail
  refine Calls.mono (HDc.out x2 HBx2.out) ?_
  rintro e' x3 ⟨rfl, hb⟩
  have HBx3 : Hid (Below X0.heap.size X0 x3) := hb
  clear hb
  go_wp2
  refine hK.out _ _ (HSc.out _ HBx3.out) (fun hHeld2 => ?_)
  clear hK K hHeld
  have hHeld := hHeld2
  clear hHeld2
  refine takeM (i := 10) (d := 25) (v := .bool false) rfl rfl (by kernel_rfl) (by kernel_rfl) (by kernel_rfl) (fun _ _ _ h => h) (Or.inl ⟨by rfl, ?_⟩) (by assumption) ?_
  · intro X hSw
    obtain ⟨e0, e1, e2, e3, e4, e5, e6, e7, e8, e9, e10, e11, e12, e13⟩ := hSw
    go_simp
  simp only [Act.put, List.setIfInBounds_toArray, List.set_cons_zero, List.set_cons_succ]
  refine takeM (i := 11) (d := 26) (v := undef) rfl rfl (by kernel_rfl) (by kernel_rfl) (by kernel_rfl) (fun _ _ _ h => h) (Or.inr ⟨by rfl, rfl⟩) (by assumption) ?_
  simp only [Act.put, List.setIfInBounds_toArray, List.set_cons_zero, List.set_cons_succ]
  refine takeM (i := 12) (d := 27) (v := undef) rfl rfl (by kernel_rfl) (by kernel_rfl) (by kernel_rfl) (fun _ _ _ h => h) (Or.inr ⟨by rfl, rfl⟩) (by assumption) ?_
  simp only [Act.put, List.setIfInBounds_toArray, List.set_cons_zero, List.set_cons_succ]
  refine takeM (i := 13) (d := 28) (v := undef) rfl rfl (by kernel_rfl) (by kernel_rfl) (by kernel_rfl) (fun _ _ _ h => h) (Or.inr ⟨by rfl, rfl⟩) (by assumption) ?_
  simp only [Act.put, List.setIfInBounds_toArray, List.set_cons_zero, List.set_cons_succ]
  refine takeM (i := 14) (d := 29) (v := .bool false) rfl rfl (by kernel_rfl) (by kernel_rfl) (by kernel_rfl) (fun _ _ _ h => h) (Or.inl ⟨by rfl, ?_⟩) (by assumption) ?_
  · intro X hSw
    obtain ⟨e0, e1, e2, e3, e4, e5, e6, e7, e8, e9, e10, e11, e12, e13⟩ := hSw
    go_simp
  simp only [Act.put, List.setIfInBounds_toArray, List.set_cons_zero, List.set_cons_succ]
  refine wpAnyH_ready (rs := [16]) (by kernel_rfl) (by simp) ?_
  refine AllReadyH.cons rfl (fun K hK => ?_) AllReadyH.nil
  go_simp
  go_wp2_with fail
  refine Calls.mono (HOc.out x3 HBx3.out) ?_
  rintro e' x4 ⟨sl, rfl, hrl, hb, hfr⟩
  obtain ⟨lp, lc, hsl, _, _⟩ := hrl.form
  have HRl : Hid (RowC x4 1 sl L.length (intsL L)) := hrl
  have HBx4 : Hid (Below X0.heap.size X0 x4) := hb
  have HFr : Hid (∀ k, cBlk sl = some k → X0.heap.size ≤ k) := hfr
  clear hb hrl hfr
  have HSl : Hid (sl = .slice lp L.length lc) := hsl
  have hone1 : sl.oneCell' = true := by rw [hsl]; rfl
  subst hsl
  go_wp2
  refine hK.out _ _ (HSc.out _ HBx4.out) (fun hHeld2 => ?_)
  clear hK K hHeld
  have hHeld := hHeld2
  clear hHeld2
  refine takeM (i := 19) (d := 34) (v := .agg #[.int .i64 aa, .int .i64 ta, .int .i64 tbb, .int .i64 k0, .string o1, .string o2, .string o3, .string o4, .string o5, .string o6, .int .i64 k7, .int .i64 k8, .bool false, .bool false, .slice lp L.length lc, .string tda]) rfl rfl (by kernel_rfl) (by kernel_rfl) (by kernel_rfl) (fun _ _ _ h => h) (Or.inl ⟨by rfl, ?_⟩) (by assumption) ?_
  · intro X hSw
    obtain ⟨e0, e1, e2, e3, e4, e5, e6, e7, e8, e9, e10, e11, e12, e13⟩ := hSw
    go_simp
  simp only [Act.put, List.setIfInBounds_toArray, List.set_cons_zero, List.set_cons_succ]
  have HBu4 : Hid (Below u.heap.size u x4) := HB0.out.trans (HBx4.out.mono HB0.out.size)
  obtain ⟨hz, hf⟩ := HZr.out x4 HBu4.out
  have z0 := hz 0 (by omega)
  have f0 := hf 0
  have z1 := hz 1 (by omega)
  have f1 := hf 1
  have z2 := hz 2 (by omega)
  have f2 := hf 2
  have z3 := hz 3 (by omega)
  have f3 := hf 3
  have z4 := hz 4 (by omega)
  have f4 := hf 4
  have z5 := hz 5 (by omega)
  have f5 := hf 5
  have z6 := hz 6 (by omega)
  have f6 := hf 6
  have z7 := hz 7 (by omega)
  have f7 := hf 7
  have z8 := hz 8 (by omega)
  have f8 := hf 8
  have z9 := hz 9 (by omega)
  have f9 := hf 9
  have z10 := hz 10 (by omega)
  have f10 := hf 10
  have z11 := hz 11 (by omega)
  have f11 := hf 11
  have z12 := hz 12 (by omega)
  have f12 := hf 12
  have z13 := hz 13 (by omega)
  have f13 := hf 13
  have z14 := hz 14 (by omega)
  have f14 := hf 14
  have z15 := hz 15 (by omega)
  have f15 := hf 15
  simp at z0 z1 z2 z3 z4 z5 z6 z7 z8 z9 z10 z11 z12 z13 z14 z15
  obtain ⟨F, hF⟩ : ∃ F, F = putS x4 br [.int .i64 aa, .int .i64 ta, .int .i64 tbb, .int .i64 k0, .string o1, .string o2, .string o3, .string o4, .string o5, .string o6, .int .i64 k7, .int .i64 k8, .bool false, .bool false, .slice lp L.length lc, .string tda] := ⟨_, rfl⟩
  have hat := fun (j : Nat) (v : Value) (hv : ([.int .i64 aa, .int .i64 ta, .int .i64 tbb, .int .i64 k0, .string o1, .string o2, .string o3, .string o4, .string o5, .string o6, .int .i64 k7, .int .i64 k8, .bool false, .bool false, .slice lp L.length lc, .string tda] : List Value)[j]? = some v) => putS_at (X := x4) (b := br) (fun j hj => ⟨by rw [hz j (by simpa using hj), Array.getElem?_eq_getElem (by simpa using hj)]; rfl, hf j⟩) hv
  rw [← hF] at hat
  have p0 := hat 0 _ rfl
  have p1 := hat 1 _ rfl
  have p2 := hat 2 _ rfl
  have p3 := hat 3 _ rfl
  have p4 := hat 4 _ rfl
  have p5 := hat 5 _ rfl
  have p6 := hat 6 _ rfl
  have p7 := hat 7 _ rfl
  have p8 := hat 8 _ rfl
  have p9 := hat 9 _ rfl
  have p10 := hat 10 _ rfl
  have p11 := hat 11 _ rfl
  have p12 := hat 12 _ rfl
  have p13 := hat 13 _ rfl
  have p14 := hat 14 _ rfl
  have p15 := hat 15 _ rfl
  have HSF : Hid (F.cell? ⟨bt, 0, none⟩ = some (.int .i64 ta) ∧ F.cell? ⟨bt, 1, none⟩ = some (.int .i64 tbb) ∧ F.cell? ⟨bt, 2, none⟩ = some (.int .i64 k0) ∧ F.cell? ⟨bt, 3, none⟩ = some (.string o1) ∧ F.cell? ⟨bt, 4, none⟩ = some (.string o2) ∧ F.cell? ⟨bt, 5, none⟩ = some (.string o3) ∧ F.cell? ⟨bt, 6, none⟩ = some (.string o4) ∧ F.cell? ⟨bt, 7, none⟩ = some (.string o5) ∧ F.cell? ⟨bt, 8, none⟩ = some (.string o6) ∧ F.cell? ⟨bt, 9, none⟩ = some (.int .i64 k7) ∧ F.cell? ⟨bt, 10, none⟩ = some (.int .i64 k8) ∧ F.cell? ⟨bt, 11, none⟩ = some (.map (some v)) ∧ F.cell? ⟨bt, 12, none⟩ = some (.map (some e)) ∧ F.cell? ⟨bt, 13, none⟩ = some (.string tda)) := by
    have hb : F.heap[bt]? = x4.heap[bt]? := by rw [hF]; exact putS_heap (fun e => HNe.out e.symm) _
    obtain ⟨e0, e1, e2, e3, e4, e5, e6, e7, e8, e9, e10, e11, e12, e13⟩ := HSc.out x4 HBx4.out
    exact ⟨(World.cell?_of_block (a := ⟨bt, 0, none⟩) hb).trans e0, (World.cell?_of_block (a := ⟨bt, 1, none⟩) hb).trans e1, (World.cell?_of_block (a := ⟨bt, 2, none⟩) hb).trans e2, (World.cell?_of_block (a := ⟨bt, 3, none⟩) hb).trans e3, (World.cell?_of_block (a := ⟨bt, 4, none⟩) hb).trans e4, (World.cell?_of_block (a := ⟨bt, 5, none⟩) hb).trans e5, (World.cell?_of_block (a := ⟨bt, 6, none⟩) hb).trans e6, (World.cell?_of_block (a := ⟨bt, 7, none⟩) hb).trans e7, (World.cell?_of_block (a := ⟨bt, 8, none⟩) hb).trans e8, (World.cell?_of_block (a := ⟨bt, 9, none⟩) hb).trans e9, (World.cell?_of_block (a := ⟨bt, 10, none⟩) hb).trans e10, (World.cell?_of_block (a := ⟨bt, 11, none⟩) hb).trans e11, (World.cell?_of_block (a := ⟨bt, 12, none⟩) hb).trans e12, (World.cell?_of_block (a := ⟨bt, 13, none⟩) hb).trans e13⟩
  have HRF : Hid (RowC F 1 (.slice lp L.length lc) L.length (intsL L) ∧ Below w.heap.size w F) := by
    refine ⟨HRl.out.carry fun k hk => ?_, ?_⟩
    · rw [hF]
      exact putS_heap (fun e => by have h1 := HFr.out k hk; have h2 := HU.out.2.1; have h3 := HB0.out.size; omega) _
    · rw [hF]
      exact putS_below (HU.out.1.trans (HBu4.out.mono HU.out.1.size)) HU.out.2.2 _
  have hFe : F = (((((((((((((((x4.setCell ⟨br, 0, none⟩ (.int .i64 aa)).setCell ⟨br, 1, none⟩ (.int .i64 ta)).setCell ⟨br, 2, none⟩ (.int .i64 tbb)).setCell ⟨br, 3, none⟩ (.int .i64 k0)).setCell ⟨br, 4, none⟩ (.string o1)).setCell ⟨br, 5, none⟩ (.string o2)).setCell ⟨br, 6, none⟩ (.string o3)).setCell ⟨br, 7, none⟩ (.string o4)).setCell ⟨br, 8, none⟩ (.string o5)).setCell ⟨br, 9, none⟩ (.string o6)).setCell ⟨br, 10, none⟩ (.int .i64 k7)).setCell ⟨br, 11, none⟩ (.int .i64 k8)).setCell ⟨br, 12, none⟩ (.bool false)).setCell ⟨br, 13, none⟩ (.bool false)).setCell ⟨br, 14, none⟩ (.slice lp L.length lc)).setCell ⟨br, 15, none⟩ (.string tda) := hF
  have HFe : Hid _ := hFe
  clear hF hFe hat hz hf
  refine wpAnyH_ready (rs := [20]) (by kernel_rfl) (by simp) ?_
  refine AllReadyH.cons rfl (fun K hK => ?_) AllReadyH.nil
  go_simp
  rw [← HFe.out]
  refine hK.out _ _ HSF.out (fun hHeld2 => ?_)
  clear hK K hHeld
  have hHeld := hHeld2
  clear hHeld2
  clear z0 f0 z1 f1 z2 f2 z3 f3 z4 f4 z5 f5 z6 f6 z7 f7 z8 f8 z9 f9 z10 f10 z11 f11 z12 f12 z13 f13 z14 f14 z15 f15
  refine takeM (i := 21) (d := 3) (v := .bool true) rfl rfl (by kernel_rfl) (by kernel_rfl) (by kernel_rfl) (fun _ _ _ h => h) (Or.inl ⟨by rfl, ?_⟩) (by assumption) ?_
  · intro X hSw
    obtain ⟨e0, e1, e2, e3, e4, e5, e6, e7, e8, e9, e10, e11, e12, e13⟩ := hSw
    go_simp
  simp only [Act.put, List.setIfInBounds_toArray, List.set_cons_zero, List.set_cons_succ]
  refine wpAnyH_done (by kernel_rfl) ?_ _
  clear hHeld
  go_wp2
  refine bodyPost_ret (v := .tuple #[.agg #[.int .i64 aa, .int .i64 ta, .int .i64 tbb, .int .i64 k0, .string o1, .string o2, .string o3, .string o4, .string o5, .string o6, .int .i64 k7, .int .i64 k8, .bool false, .bool false, .slice lp L.length lc, .string tda], .bool true]) ?qres rfl ?qpost
  case qres => simp [results, Try.results15, go_sem, p0, p1, p2, p3, p4, p5, p6, p7, p8, p9, p10, p11, p12, p13, p14, p15]
  case qpost => exact ⟨_, rfl, HRF.out.1, HRF.out.2⟩
end Go.Proofs.Ytepbmfjimppgcaa
