/-
  Why no transaction of an id may begin.
-/
import Derived.Test.YtepbmfjimppgcaaMeRef
namespace Go.Proofs.Ytepbmfjimppgcaa
open Go.RowKit

theorem idInfo2 : (Try.prog.info? 35).map (·.size) = some 2 := by kernel_rfl
theorem find_low {s : Se.St} (h : ∀ p ∈ s, 1 ≤ p.2.seq) {a b : Int} (hm : Se.may a b = true) : (Se.find s a 1).2 = 3 ↔ Se.get s a = none := by
  have h1 : Se.may a 1 = true := by
    have := Se.may_iff hm
    unfold Se.may
    simp
    omega
  unfold Se.find
  rw [if_neg (by rw [h1]; simp)]
  cases hg : Se.get s a with
  | none => simp
  | some l =>
    have hl : 1 ≤ l.seq := by
      have key : ∀ s : Se.St, (∀ p ∈ s, 1 ≤ p.2.seq) → Se.get s a = some l → 1 ≤ l.seq := by
        intro s
        induction s with
        | nil => intro _ h; cases h
        | cons p r ih =>
          intro hs h
          rw [Se.get] at h
          split at h
          · injection h with h
            rw [← h]
            exact hs _ (List.mem_cons_self ..)
          · exact ih (fun p hp => hs p (List.mem_cons_of_mem _ hp)) h
      exact key s h hg
    have e1 : ¬ l.seq < 1 := by omega
    simp only [if_neg e1]
    split <;> simp
theorem txC_one (t : Me.Tx) (v e : Nat) : ∀ x ∈ txC t v e, x.oneCell' = true := by
  intro x hx
  simp only [txC, List.mem_cons, List.not_mem_nil, or_false] at hx
  rcases hx with rfl | rfl | rfl | rfl | rfl | rfl | rfl | rfl | rfl | rfl | rfl | rfl | rfl | rfl <;> rfl
/-- The loop's count. -/
def wcnt (q : Me.St) (k : Nat) : Nat := q.tab.length + Me.count q.tab (q.wait.take k)
theorem count_snoc (tab : Se.St) (t : Me.Tx) : ∀ l : List Me.Tx, Me.count tab (l ++ [t]) = Me.count tab l + (if Se.get tab t.a = none then 1 else 0)
  | [] => by simp [Me.count]
  | x :: r => by rw [List.cons_append, Me.count, Me.count, count_snoc tab t r]; omega
theorem wcnt_succ (q : Me.St) {k : Nat} {t : Me.Tx} (h : q.wait[k]? = some t) : wcnt q (k + 1) = wcnt q k + (if Se.get q.tab t.a = none then 1 else 0) := by
  obtain ⟨hl, he⟩ := List.getElem?_eq_some_iff.1 h
  unfold wcnt
  rw [List.take_succ_eq_append_getElem hl, count_snoc, he]
  omega
theorem same_at {a : Int} : ∀ {l : List Me.Tx} {k : Nat} {t : Me.Tx}, l[k]? = some t → t.a = a → (∀ (i : Nat) x, i < k → l[i]? = some x → x.a ≠ a) → Me.same a l = some t
  | x :: r, 0, t, h, ha, _ => by
    simp at h
    rw [Me.same, h, if_pos ha]
  | x :: r, k + 1, t, h, ha, hn => by
    rw [Me.same, if_neg (hn 0 x (by omega) rfl)]
    exact same_at (by simpa using h) ha fun i y hi hy => hn (i + 1) y (by omega) (by simpa using hy)
theorem same_none {a : Int} : ∀ {l : List Me.Tx}, (∀ (i : Nat) x, l[i]? = some x → x.a ≠ a) → Me.same a l = none
  | [], _ => rfl
  | x :: r, h => by
    rw [Me.same, if_neg (h 0 x rfl)]
    exact same_none fun i y hy => h (i + 1) y (by simpa using hy)

set_option maxHeartbeats 3200000 in
set_option maxRecDepth 20000 in
theorem refuses_c {w : World} {B n : Nat} {q : Me.St} {who : Nat → Nat} (h : Mt w B q who n) (hn : n ≤ 1000000) (a b : Int) : Calls Try.prog 36 #[.pointer (some ⟨B, 0, none⟩), .agg #[.int .i64 a, .int .i64 b]] w fun e w' => e = .returned (.int .i64 (Me.refuses q a b)) ∧ Below w.heap.size w w' := by
  obtain ⟨u, hu⟩ : ∃ u, u = w.alloc (.cells #[.int .i64 a, .int .i64 b] 35) := ⟨_, rfl⟩
  obtain ⟨bi, hbi⟩ : ∃ bi, bi = w.heap.size := ⟨_, rfl⟩
  have hbu : Below w.heap.size w u := by rw [hu]; exact below_alloc _ _
  have hlu : bi < u.heap.size := by rw [hu, hbi]; simp
  have hcu : ∀ X, Below u.heap.size u X → X.cell? ⟨bi, 0, none⟩ = some (.int .i64 a) ∧ X.cell? ⟨bi, 1, none⟩ = some (.int .i64 b) := fun X hX => by
    have e : ∀ j, X.cell? ⟨bi, j, none⟩ = (#[.int .i64 a, .int .i64 b] : Array Value)[j]? := fun j => by
      rw [hX.cell (p := ⟨bi, j, none⟩) hlu, hu, hbi]
      exact World.cell?_alloc_mark w _ _ _ j
    exact ⟨e 0, e 1⟩
  have HC : Hid (∀ X, Below u.heap.size u X → X.cell? ⟨bi, 0, none⟩ = some (.int .i64 a) ∧ X.cell? ⟨bi, 1, none⟩ = some (.int .i64 b)) := hcu
  obtain ⟨h0, ob, tb, tm, wv, vb, eb, hq⟩ := h.below hbu
  have HQ : Hid (∀ X, Below u.heap.size u X → X.cell? ⟨B, 2, none⟩ = some (.pointer (some ⟨tb, 0, none⟩)) ∧ X.cell? ⟨B, 4, none⟩ = some wv ∧ Tb X tb tm q.tab) := fun X hX => by
    have hb := hq.below h0.np hX
    exact ⟨hb.b.c2, hb.b.c4, hb.r.tab⟩
  obtain ⟨pp, cc, hwv, _, hcm⟩ := hq.r.row.form
  have HRw : Hid (∀ k t, q.wait[k]? = some t → ∃ g off, pp = some ⟨g, off, none⟩ ∧ ∃ v e, ∀ X, Below u.heap.size u X → X.rangeAt g (off + k * 14) (txC t v e)) := fun k t hk => by
    have hkl := (List.getElem?_eq_some_iff.1 hk).1
    obtain ⟨g, off, c, hv, _, _, hR, hC⟩ := hq.r.row.cells (by omega)
    rw [hwv] at hv
    injection hv with e1 _ e3
    refine ⟨g, off, e1, vb (q.ans + 1 + k), eb (q.ans + 1 + k), fun X hX j x hx => ?_⟩
    have hj := (List.getElem?_eq_some_iff.1 hx).1
    rw [txC_len] at hj
    have hy := hC (k * 14 + j) x (by rw [txsC_at _ _ _ _ _ _ _ hk hj]; exact hx)
    rw [← Nat.add_assoc] at hy
    exact (hX.cell (p := ⟨g, off + k * 14 + j, none⟩) (World.block_lt_of_cell? _ _ hy)).trans hy
  have HOk : Hid (Me.Ok n q) := h0
  have HU : Hid (Below w.heap.size w u) := hbu
  have HT : Hid (Calls Try.prog 55 #[.pointer (some ⟨tb, 0, none⟩)] u fun e w' => e = .returned (.int .i64 (q.tab.length : Int)) ∧ w' = u) := LenT_c hq.r.tab
  obtain ⟨m, hm⟩ : ∃ m, m = q.wait.length := ⟨_, rfl⟩
  have HM : Hid (m = q.wait.length) := hm
  have hmn : m ≤ 1000000 := by have := h0.few; omega
  have hT0 : q.tab.length ≤ 64 := hq.r.tab.len
  rw [← hm] at hwv
  subst hwv
  have HC0 : Hid (wcnt q 0 = q.tab.length) := by show wcnt q 0 = _; simp [wcnt, Me.count]
  have HCb : Hid (∀ k, k ≤ m → wcnt q k ≤ 64 + k) := fun k => by
    induction k with
    | zero => intro _; rw [HC0.out]; omega
    | succ k ih =>
      intro hk
      obtain ⟨t, ht⟩ : ∃ t, q.wait[k]? = some t := ⟨_, List.getElem?_eq_getElem (by rw [← HM.out]; omega)⟩
      rw [wcnt_succ q ht]
      have := ih (by omega)
      split <;> omega
  obtain ⟨y2, y4, _⟩ := HQ.out u (Below.refl _ _)
  clear h h0 hq hbu hlu hcu hm hT0
  go_enter Try.func36, Try.ntmps36
  go_upto_region 1 with fail
  rw [← hu]
  try rw [← hbi]
  clear hu hbi
  go_wp2_with fail
  refine Calls.mono HT.out ?_
  rintro e w0 ⟨rfl, hw0⟩
  have hw0 := hw0.symm
  subst hw0
  go_wp2
  go_loopw [21, 5] (fun iv nv wr => ∃ k : Nat, iv = .int .i64 (k : Int) ∧ k ≤ m ∧ nv = .int .i64 (wcnt q k : Int) ∧ Hid (Below u.heap.size u wr ∧ ∀ (i : Nat) x, i < k → q.wait[i]? = some x → x.a ≠ a)) (fun iv _ _ => m - (intOf iv).toNat)
  case atStart => exact ⟨0, rfl, Nat.zero_le _, by rw [HC0.out], Below.refl _ _, fun i x hi => by omega⟩
  case round =>
    clear y2 y4
    obtain ⟨k, rfl, hkm, rfl, HV⟩ := hrel
    by_cases hlt : k < m
    · obtain ⟨t, hk⟩ : ∃ t, q.wait[k]? = some t := ⟨_, List.getElem?_eq_getElem (by rw [← HM.out]; exact hlt)⟩
      have HK : Hid (q.wait[k]? = some t) := hk
      obtain ⟨g, off, hpp, v, e, hrg⟩ := HRw.out k t hk
      subst hpp
      have HRg : Hid (wr.rangeAt g (off + k * 14) (txC t v e)) := hrg wr HV.out.1
      obtain ⟨cs, hcs⟩ : ∃ cs, cs = (txC t v e).toArray := ⟨_, rfl⟩
      have hi14 : (Try.prog.info? 70).map (·.size) = some cs.size := by rw [hcs]; exact txInfo14
      have hone : cs.all (·.oneCell') = true := by rw [hcs]; exact all_oneCell_toArray (txC_one t v e)
      obtain ⟨X0, hX0⟩ : ∃ X0, X0 = wr.alloc (.cells cs 70) := ⟨_, rfl⟩
      obtain ⟨bt, hbt⟩ : ∃ bt, bt = wr.heap.size := ⟨_, rfl⟩
      have hb0 : Below wr.heap.size wr X0 := by rw [hX0]; exact below_alloc _ _
      have HX0 : Hid (Below u.heap.size u X0) := HV.out.1.trans (hb0.mono HV.out.1.size)
      have z0 : X0.cell? ⟨bt, 0, none⟩ = some (.int .i64 t.a) := by rw [hX0, hbt, World.cell?_alloc_mark, hcs]; rfl
      have z1 : X0.cell? ⟨bt, 1, none⟩ = some (.int .i64 t.b) := by rw [hX0, hbt, World.cell?_alloc_mark, hcs]; rfl
      obtain ⟨i0, i1⟩ := HC.out X0 HX0.out
      have hk0 : (0 : Int) ≤ (k : Int) := Int.natCast_nonneg k
      have HTx : Hid (Se.may t.a t.b = true) := (HOk.out.tx t (List.mem_of_getElem? hk)).id
      clear hk hrg hb0
      have HCs : Hid (cs = (txC t v e).toArray) := hcs
      have HSz : Hid (cs.size = 14) := by show cs.size = 14; rw [hcs]; rfl
      clear hcs
      by_cases hta : t.a = a
      · have HE : Hid (Me.refuses q a b = if t.b > b then 110 else 120) := by
          show Me.refuses q a b = _
          unfold Me.refuses
          rw [same_at HK.out hta HV.out.2]
        obtain ⟨r, hr⟩ : ∃ r : Int, r = if t.b > b then 110 else 120 := ⟨_, rfl⟩
        have HEa : Hid (∀ X, Calls Try.prog 56 #[.int .i64 t.b, .int .i64 b] X fun e w' => e = .returned (.int .i64 r) ∧ w' = X) := fun X => by rw [hr]; exact earlier_c t.b b X
        rw [← hr] at HE
        clear hr
        rw [hta] at z0
        clear hta
        go_wp2_with (first
        | (refine wpList_load_mid rfl 70 (.tmp 23) rfl g (off + k * 14) rfl (txC t v e) _ HRg.out Try.underlying70 rfl txInfo14 ?_; rw [← HCs.out])
        | (refine wpList_store_row rfl 70 (.tmp 7) (.tmp 24) rfl wr.heap.size _ rfl rfl 70 _ (heap_alloc_new wr _) hi14 (by first | exact HSz.out | exact HSz.out.symm) hone ?_; rw [setRowN, ← hX0, ← hbt]; clear hX0 hbt))
        refine Calls.mono (HEa.out X0) ?_
        rintro e' w2 ⟨rfl, hw2⟩
        have hw2 := hw2.symm
        subst hw2
        go_wp2
        go_ret
        exact ⟨by rw [HE.out]; rfl, HU.out.trans (HX0.out.mono HU.out.size)⟩
      · have hne : (t.a == a) = false := by simpa using hta
        have HNs : Hid (∀ (i : Nat) x, i < k + 1 → q.wait[i]? = some x → x.a ≠ a) := fun i x hi hx => by
          by_cases hik : i < k
          · exact HV.out.2 i x hik hx
          · have : i = k := by omega
            subst this
            rw [HK.out] at hx
            injection hx with hx
            rw [← hx]
            exact hta
        clear hta
        obtain ⟨ta, hta⟩ : ∃ ta, ta = t.a := ⟨_, rfl⟩
        have HTa : Hid (ta = t.a) := hta
        rw [← hta] at z0 hne
        obtain ⟨X1, hX1⟩ : ∃ X1, X1 = X0.alloc (.cells #[.int .i64 ta, .int .i64 1] 35) := ⟨_, rfl⟩
        obtain ⟨bl, hbl⟩ : ∃ bl, bl = X0.heap.size := ⟨_, rfl⟩
        have hb1 : Below X0.heap.size X0 X1 := by rw [hX1]; exact below_alloc _ _
        have HX1 : Hid (Below u.heap.size u X1) := HX0.out.trans (hb1.mono HX0.out.size)
        have hl1 : bl < X1.heap.size := by rw [hX1, hbl]; simp
        have hc1 : ∀ j, X1.cell? ⟨bl, j, none⟩ = (#[.int .i64 ta, .int .i64 1] : Array Value)[j]? := fun j => by rw [hX1, hbl]; exact World.cell?_alloc_mark X0 _ _ _ j
        have HS8 : Hid (∀ X, Below X1.heap.size X1 X → X.cell? ⟨B, 2, none⟩ = some (.pointer (some ⟨tb, 0, none⟩)) ∧ X.cell? ⟨bl, 0, none⟩ = some (.int .i64 ta) ∧ X.cell? ⟨bl, 1, none⟩ = some (.int .i64 1)) := fun X hX =>
          ⟨(HQ.out X (HX1.out.trans (hX.mono HX1.out.size))).1, (hX.cell (p := ⟨bl, 0, none⟩) hl1).trans (hc1 0), (hX.cell (p := ⟨bl, 1, none⟩) hl1).trans (hc1 1)⟩
        have HZA : Hid (∀ X, Below X1.heap.size X1 X → Below X1.heap.size X1 (X.alloc (.cells #[.int .i64 0, .int .i64 0, .slice none 0 0] 32))) := fun X hX => hX.trans ((below_alloc X _).mono hX.size)
        have HZB : Hid (∀ X o, Below X1.heap.size X1 X → Below X1.heap.size X1 (X.alloc o)) := fun X o hX => hX.trans ((below_alloc X o).mono hX.size)
        have HZ3 : Hid (∀ X, Below (X1.drew.alloc (.cells #[.int .i64 0, .int .i64 0, .slice none 0 0] 32)).heap.size (X1.drew.alloc (.cells #[.int .i64 0, .int .i64 0, .slice none 0 0] 32)) X → (X.cell? ⟨X1.heap.size, 0, none⟩ = some (.int .i64 0) ∧ X.cell? ⟨X1.heap.size, 1, none⟩ = some (.int .i64 0) ∧ X.cell? ⟨X1.heap.size, 2, none⟩ = some (.slice none 0 0)) ∧ X.frozen? ⟨X1.heap.size, 0, none⟩ = false ∧ X.frozen? ⟨X1.heap.size, 1, none⟩ = false ∧ X.frozen? ⟨X1.heap.size, 2, none⟩ = false) := fun X hX => by
          have hlt : X1.heap.size < (X1.drew.alloc (.cells #[.int .i64 0, .int .i64 0, .slice none 0 0] 32)).heap.size := by simp
          have e : ∀ j, X.cell? ⟨X1.heap.size, j, none⟩ = (#[.int .i64 0, .int .i64 0, .slice none 0 0] : Array Value)[j]? := fun j => (hX.cell (p := ⟨X1.heap.size, j, none⟩) hlt).trans (World.cell?_alloc_mark X1.drew _ _ _ j)
          have f : ∀ j, X.frozen? ⟨X1.heap.size, j, none⟩ = false := fun j => (hX.frozen (p := ⟨X1.heap.size, j, none⟩) hlt).trans ((World.frozen?_alloc_mark X1.drew _ _ _ _ j).trans (by simp))
          exact ⟨⟨e 0, e 1, e 2⟩, f 0, f 1, f 2⟩
        have HZ4 : Hid (∀ X, Below X1.heap.size X1 X → ∀ a0 a1 a2, Below X1.heap.size X1 (((X.setCell ⟨X1.heap.size, 0, none⟩ a0).setCell ⟨X1.heap.size, 1, none⟩ a1).setCell ⟨X1.heap.size, 2, none⟩ a2)) := fun X hX a0 a1 a2 => ((hX.setCell (p := ⟨X1.heap.size, 0, none⟩) (Nat.le_refl _) a0).setCell (p := ⟨X1.heap.size, 1, none⟩) (Nat.le_refl _) a1).setCell (p := ⟨X1.heap.size, 2, none⟩) (Nat.le_refl _) a2
        have HFi : Hid (∀ X, Below X1.heap.size X1 X → Calls Try.prog 35 #[.pointer (some ⟨tb, 0, none⟩), .agg #[.int .i64 ta, .int .i64 1]] X fun e w' => ∃ f0 f1 p' n' c', e = .returned (.tuple #[.agg #[.int .i64 f1, .int .i64 f0, .slice p' n' c'], .int .i64 (Se.find q.tab ta 1).2]) ∧ Below X1.heap.size X1 w' ∧ Below X.heap.size X w') := fun X hX => by
          refine (Find_c (HQ.out X (HX1.out.trans (hX.mono HX1.out.size))).2.2 ta 1).mono ?_
          rintro e' w' ⟨pv, rfl, hrow, _, hb⟩
          obtain ⟨p', c', hpv, _, _⟩ := hrow.form
          exact ⟨_, _, p', _, c', by rw [hpv], hX.trans (hb.mono hX.size), hb⟩
        have HFd : Hid ((Se.find q.tab ta 1).2 = 3 ↔ Se.get q.tab ta = none) := find_low HOk.out.sq (b := t.b) (by rw [HTa.out]; exact HTx.out)
        obtain ⟨fe, hfe⟩ : ∃ fe, fe = (Se.find q.tab ta 1).2 := ⟨_, rfl⟩
        rw [← hfe] at HFi HFd
        clear hfe
        clear hb1 hl1 hc1 hta
        go_wp2_with (first
          | (refine wpList_load_mid rfl 70 (.tmp 23) rfl g (off + k * 14) rfl (txC t v e) _ HRg.out Try.underlying70 rfl txInfo14 ?_; rw [← HCs.out])
          | (refine wpList_store_row rfl 70 (.tmp 7) (.tmp 24) rfl wr.heap.size _ rfl rfl 70 _ (heap_alloc_new wr _) hi14 (by first | exact HSz.out | exact HSz.out.symm) hone ?_; rw [setRowN, ← hX0, ← hbt]; clear hX0 hbt))
        rw [← hX1, ← hbl]
        clear hX1 hbl z0 z1 i0 i1 hne
        refine wp_region_held_drew (S := fun X => X.cell? ⟨B, 2, none⟩ = some (.pointer (some ⟨tb, 0, none⟩)) ∧ X.cell? ⟨bl, 0, none⟩ = some (.int .i64 ta) ∧ X.cell? ⟨bl, 1, none⟩ = some (.int .i64 1)) (by kernel_rfl) (HS8.out _ (below_drew X1)) (fun hHeld => ?_)
        refine takeM (i := 0) (d := 42) (v := .pointer (some ⟨B, 0, none⟩)) rfl rfl (by kernel_rfl) (by kernel_rfl) (by kernel_rfl) (fun _ _ _ h => h) (Or.inl ⟨by rfl, ?_⟩) (by assumption) ?_
        · intro X hSw
          go_simp
        simp only [Act.put, List.setIfInBounds_toArray, List.set_cons_zero, List.set_cons_succ]
        refine takeM (i := 1) (d := 43) (v := .pointer (some ⟨B, 0, none⟩)) rfl rfl (by kernel_rfl) (by kernel_rfl) (by kernel_rfl) (fun _ _ _ h => h) (Or.inl ⟨by rfl, ?_⟩) (by assumption) ?_
        · intro X hSw
          go_simp
        simp only [Act.put, List.setIfInBounds_toArray, List.set_cons_zero, List.set_cons_succ]
        refine takeM (i := 2) (d := 44) (v := .pointer (some ⟨B, 2, none⟩)) rfl rfl (by kernel_rfl) (by kernel_rfl) (by kernel_rfl) (fun _ _ _ h => h) (Or.inl ⟨by rfl, ?_⟩) (by assumption) ?_
        · intro X hSw
          go_simp
        simp only [Act.put, List.setIfInBounds_toArray, List.set_cons_zero, List.set_cons_succ]
        refine takeM (i := 3) (d := 45) (v := .pointer (some ⟨tb, 0, none⟩)) rfl rfl (by kernel_rfl) (by kernel_rfl) (by kernel_rfl) (fun _ _ _ h => h) (Or.inl ⟨by rfl, ?_⟩) (by assumption) ?_
        · intro X hSw
          go_simp
        simp only [Act.put, List.setIfInBounds_toArray, List.set_cons_zero, List.set_cons_succ]
        refine takeM (i := 4) (d := 46) (v := .agg #[.int .i64 ta, .int .i64 1]) rfl rfl (by kernel_rfl) (by kernel_rfl) (by kernel_rfl) (fun _ _ _ h => h) (Or.inl ⟨by rfl, ?_⟩) (by assumption) ?_
        · intro X hSw
          go_simp
        simp only [Act.put, List.setIfInBounds_toArray, List.set_cons_zero, List.set_cons_succ]
        refine wpAnyH_ready (rs := [5, 9]) (by kernel_rfl) (by simp) ?_
        refine AllReadyH.cons rfl (fun K hK => ?_) (AllReadyH.cons rfl (fun K hK => ?_) AllReadyH.nil)
        · go_simp
          go_wp2_with fail
          refine Calls.mono (HFi.out _ (below_drew X1)) ?_
          rintro e' w2 ⟨f0, f1, p', n', c', rfl, hb2, hb3⟩
          have HW2 : Hid (Below X1.heap.size X1 w2) := hb2
          have HW3 : Hid _ := hb3
          clear hb2 hb3
          go_wp2
          refine hK.out _ _ (HS8.out _ HW2.out) (fun hHeld2 => ?_)
          clear hK K hHeld
          have hHeld := hHeld2
          clear hHeld2
          refine takeM (i := 6) (d := 41) (v := .tuple #[.agg #[.int .i64 f1, .int .i64 f0, .slice p' n' c'], .int .i64 fe]) rfl rfl (by kernel_rfl) (by kernel_rfl) (by kernel_rfl) (fun _ _ _ h => h) (Or.inl ⟨by rfl, ?_⟩) (by assumption) ?_
          · intro X hSw
            go_simp
          simp only [Act.put, List.setIfInBounds_toArray, List.set_cons_zero, List.set_cons_succ]
          refine takeM (i := 7) (d := 48) (v := .agg #[.int .i64 f1, .int .i64 f0, .slice p' n' c']) rfl rfl (by kernel_rfl) (by kernel_rfl) (by kernel_rfl) (fun _ _ _ h => h) (Or.inl ⟨by rfl, ?_⟩) (by assumption) ?_
          · intro X hSw
            go_simp
          simp only [Act.put, List.setIfInBounds_toArray, List.set_cons_zero, List.set_cons_succ]
          refine takeM (i := 8) (d := 49) (v := .int .i64 fe) rfl rfl (by kernel_rfl) (by kernel_rfl) (by kernel_rfl) (fun _ _ _ h => h) (Or.inl ⟨by rfl, ?_⟩) (by assumption) ?_
          · intro X hSw
            go_simp
          simp only [Act.put, List.setIfInBounds_toArray, List.set_cons_zero, List.set_cons_succ]
          refine wpAnyH_ready (rs := [9]) (by kernel_rfl) (by simp) ?_
          refine AllReadyH.cons rfl (fun K hK => ?_) AllReadyH.nil
          go_simp
          refine hK.out _ _ (HS8.out _ (HZA.out w2 HW2.out)) (fun hHeld2 => ?_)
          clear hK K hHeld
          have hHeld := hHeld2
          clear hHeld2
          refine wpAnyH_ready (rs := [10]) (by kernel_rfl) (by simp) ?_
          refine AllReadyH.cons rfl (fun K hK => ?_) AllReadyH.nil
          go_simp
          refine hK.out _ _ (HS8.out _ (HZB.out w2 _ HW2.out)) (fun hHeld2 => ?_)
          clear hK K hHeld
          have hHeld := hHeld2
          clear hHeld2
          refine takeM (i := 11) (d := 10) (v := .int .i64 fe) rfl rfl (by kernel_rfl) (by kernel_rfl) (by kernel_rfl) (fun _ _ _ h => h) (Or.inl ⟨by rfl, ?_⟩) (by assumption) ?_
          · intro X hSw
            go_simp
          simp only [Act.put, List.setIfInBounds_toArray, List.set_cons_zero, List.set_cons_succ]
          refine wpAnyH_done (by kernel_rfl) ?_ _
          clear hHeld
          have HNx : Hid (Below u.heap.size u _) := HX1.out.trans ((HZB.out w2 (.cells #[.int .i64 f1, .int .i64 f0, .slice p' n' c'] 32) HW2.out).mono HX1.out.size)
          by_cases h3 : fe = 3
          · have HF3 : Hid (wcnt q (k + 1) = wcnt q k + 1) := by
              have e := wcnt_succ q HK.out
              rw [if_pos (by rw [← HTa.out]; exact HFd.out.1 h3)] at e
              exact e
            have HF4 : Hid (((wcnt q k : Nat) : Int) + 1 = ((wcnt q (k + 1) : Nat) : Int)) := by
              show ((wcnt q k : Nat) : Int) + 1 = ((wcnt q (k + 1) : Nat) : Int)
              rw [HF3.out]; rfl
            have hw1 : IntKind.i64.wrap (((wcnt q k : Nat) : Int) + 1) = ((wcnt q k : Nat) : Int) + 1 := by
              have := HCb.out k hkm
              rw [IntKind.wrap_i64]
              omega
            subst h3
            go_wp2
            go_roundw
            case rel =>
              first
                | exact ⟨k + 1, by go_num, by omega, by rw [HF4.out], HNx.out, HNs.out⟩
                | (refine ⟨_, _, _, _, _, _, _, _, _, _, _, _, _, _, _, _, _, _, _, _, _, _, _, _, _, _, _, _, _, _, _, _, _, _, _, _, _, _, ?_, rfl⟩; exact ⟨k + 1, by go_num, by omega, by rw [HF4.out], HNx.out, HNs.out⟩)
            case measure => simp [intOf]; omega
          · have hb3 : (fe == 3) = false := by simpa using h3
            have HF3 : Hid (wcnt q (k + 1) = wcnt q k) := by
              have e := wcnt_succ q HK.out
              rw [if_neg (fun g => h3 (HFd.out.2 (by rw [HTa.out]; exact g)))] at e
              exact e
            go_wp2
            go_roundw
            case rel =>
              first
                | exact ⟨k + 1, by go_num, by omega, by rw [HF3.out], HNx.out, HNs.out⟩
                | (refine ⟨_, _, _, _, _, _, _, _, _, _, _, _, _, _, _, _, _, _, _, _, _, _, _, _, _, _, _, _, _, _, _, _, _, _, _, _, _, _, ?_, rfl⟩; exact ⟨k + 1, by go_num, by omega, by rw [HF3.out], HNx.out, HNs.out⟩)
            case measure => simp [intOf]; omega

        · go_simp
          refine hK.out _ _ (HS8.out _ (HZA.out _ (below_drew X1))) (fun hHeld2 => ?_)
          clear hK K hHeld
          have hHeld := hHeld2
          clear hHeld2
          refine wpAnyH_ready (rs := [5]) (by kernel_rfl) (by simp) ?_
          refine AllReadyH.cons rfl (fun K hK => ?_) AllReadyH.nil
          go_simp
          go_wp2_with fail
          refine Calls.mono (HFi.out _ (HZA.out _ (below_drew X1))) ?_
          rintro e' w2 ⟨f0, f1, p', n', c', rfl, hb2, hb3⟩
          have HW2 : Hid (Below X1.heap.size X1 w2) := hb2
          have HW3 : Hid _ := hb3
          clear hb2 hb3
          go_wp2
          refine hK.out _ _ (HS8.out _ HW2.out) (fun hHeld2 => ?_)
          clear hK K hHeld
          have hHeld := hHeld2
          clear hHeld2
          refine takeM (i := 6) (d := 41) (v := .tuple #[.agg #[.int .i64 f1, .int .i64 f0, .slice p' n' c'], .int .i64 fe]) rfl rfl (by kernel_rfl) (by kernel_rfl) (by kernel_rfl) (fun _ _ _ h => h) (Or.inl ⟨by rfl, ?_⟩) (by assumption) ?_
          · intro X hSw
            go_simp
          simp only [Act.put, List.setIfInBounds_toArray, List.set_cons_zero, List.set_cons_succ]
          refine takeM (i := 7) (d := 48) (v := .agg #[.int .i64 f1, .int .i64 f0, .slice p' n' c']) rfl rfl (by kernel_rfl) (by kernel_rfl) (by kernel_rfl) (fun _ _ _ h => h) (Or.inl ⟨by rfl, ?_⟩) (by assumption) ?_
          · intro X hSw
            go_simp
          simp only [Act.put, List.setIfInBounds_toArray, List.set_cons_zero, List.set_cons_succ]
          refine takeM (i := 8) (d := 49) (v := .int .i64 fe) rfl rfl (by kernel_rfl) (by kernel_rfl) (by kernel_rfl) (fun _ _ _ h => h) (Or.inl ⟨by rfl, ?_⟩) (by assumption) ?_
          · intro X hSw
            go_simp
          simp only [Act.put, List.setIfInBounds_toArray, List.set_cons_zero, List.set_cons_succ]
          obtain ⟨⟨v0, v1, v2⟩, g0, g1, g2⟩ := HZ3.out w2 HW3.out
          refine wpAnyH_ready (rs := [10]) (by kernel_rfl) (by simp) ?_
          refine AllReadyH.cons rfl (fun K hK => ?_) AllReadyH.nil
          go_simp
          refine hK.out _ _ (HS8.out _ (HZ4.out w2 HW2.out _ _ _)) (fun hHeld2 => ?_)
          clear hK K hHeld
          have hHeld := hHeld2
          clear hHeld2
          refine takeM (i := 11) (d := 10) (v := .int .i64 fe) rfl rfl (by kernel_rfl) (by kernel_rfl) (by kernel_rfl) (fun _ _ _ h => h) (Or.inl ⟨by rfl, ?_⟩) (by assumption) ?_
          · intro X hSw
            go_simp
          simp only [Act.put, List.setIfInBounds_toArray, List.set_cons_zero, List.set_cons_succ]
          clear v0 v1 v2 g0 g1 g2
          refine wpAnyH_done (by kernel_rfl) ?_ _
          clear hHeld
          have HNx : Hid (Below u.heap.size u _) := HX1.out.trans ((HZ4.out w2 HW2.out (.int .i64 f1) (.int .i64 f0) (.slice p' n' c')).mono HX1.out.size)
          by_cases h3 : fe = 3
          · have HF3 : Hid (wcnt q (k + 1) = wcnt q k + 1) := by
              have e := wcnt_succ q HK.out
              rw [if_pos (by rw [← HTa.out]; exact HFd.out.1 h3)] at e
              exact e
            have HF4 : Hid (((wcnt q k : Nat) : Int) + 1 = ((wcnt q (k + 1) : Nat) : Int)) := by
              show ((wcnt q k : Nat) : Int) + 1 = ((wcnt q (k + 1) : Nat) : Int)
              rw [HF3.out]; rfl
            have hw1 : IntKind.i64.wrap (((wcnt q k : Nat) : Int) + 1) = ((wcnt q k : Nat) : Int) + 1 := by
              have := HCb.out k hkm
              rw [IntKind.wrap_i64]
              omega
            subst h3
            go_wp2
            go_roundw
            case rel =>
              first
                | exact ⟨k + 1, by go_num, by omega, by rw [HF4.out], HNx.out, HNs.out⟩
                | (refine ⟨_, _, _, _, _, _, _, _, _, _, _, _, _, _, _, _, _, _, _, _, _, _, _, _, _, _, _, _, _, _, _, _, _, _, _, _, _, _, ?_, rfl⟩; exact ⟨k + 1, by go_num, by omega, by rw [HF4.out], HNx.out, HNs.out⟩)
            case measure => simp [intOf]; omega
          · have hb3 : (fe == 3) = false := by simpa using h3
            have HF3 : Hid (wcnt q (k + 1) = wcnt q k) := by
              have e := wcnt_succ q HK.out
              rw [if_neg (fun g => h3 (HFd.out.2 (by rw [HTa.out]; exact g)))] at e
              exact e
            go_wp2
            go_roundw
            case rel =>
              first
                | exact ⟨k + 1, by go_num, by omega, by rw [HF3.out], HNx.out, HNs.out⟩
                | (refine ⟨_, _, _, _, _, _, _, _, _, _, _, _, _, _, _, _, _, _, _, _, _, _, _, _, _, _, _, _, _, _, _, _, _, _, _, _, _, _, ?_, rfl⟩; exact ⟨k + 1, by go_num, by omega, by rw [HF3.out], HNx.out, HNs.out⟩)
            case measure => simp [intOf]; omega
    · obtain rfl : k = m := by omega
      have HE : Hid (Me.refuses q a b = if 64 ≤ wcnt q k then 2 else 0) := by
        show Me.refuses q a b = _
        unfold Me.refuses
        rw [same_none (fun i x hx => HV.out.2 i x (by rw [HM.out]; exact (List.getElem?_eq_some_iff.1 hx).1) hx)]
        have : wcnt q k = q.tab.length + Me.count q.tab q.wait := by unfold wcnt; rw [HM.out, List.take_length]
        rw [this]
      by_cases h64 : 64 ≤ wcnt q k
      · have HE2 : Hid (Me.refuses q a b = 2) := by
          have := HE.out
          rw [if_pos h64] at this
          exact this
        have hd : decide (((wcnt q k : Nat) : Int) ≥ 64) = true := by simp; omega
        go_wp2
        go_ret
        exact ⟨by rw [HE2.out]; rfl, HU.out.trans (HV.out.1.mono HU.out.size)⟩
      · have HE2 : Hid (Me.refuses q a b = 0) := by
          have := HE.out
          rw [if_neg h64] at this
          exact this
        have hd : decide (((wcnt q k : Nat) : Int) ≥ 64) = false := by simp; omega
        go_wp2
        go_ret
        exact ⟨by rw [HE2.out]; rfl, HU.out.trans (HV.out.1.mono HU.out.size)⟩
end Go.Proofs.Ytepbmfjimppgcaa
