/-
  The document's map of bytes: From.
-/
import Derived.Test.YtmdnegjpdedcnaaSlRef3
import Derived.Test.YtmdnegjpdedcnaaSlCut
import Derived.Deep.RegionHeld
import Derived.StillTailTactics
import Derived.Deep.RegionHeld3
namespace Go.Proofs.Ytmdnegjpdedcnaa
open Go.RowKit

theorem intCells_congr {f f' : Nat → Nat} {n : Nat} (h : ∀ i, i < n → f' i = f i) : intCells f' n = intCells f n := by
  unfold intCells
  refine List.map_congr_left (fun i hi => ?_)
  rw [h i (List.mem_range.1 hi)]
theorem Bd.congr {u X : World} {bm k j : Nat} {f g f' g' : Nat → Nat} {vo ve : Value} (h : Bd u bm f g k j vo ve X) (hf : ∀ i, i < k → f' i = f i) (hg : ∀ i, i < j → g' i = g i) : Bd u bm f' g' k j vo ve X :=
  ⟨h.old, h.newm, h.ltm, h.c0, h.c1, h.f0, h.f1, by rw [intCells_congr hf]; exact h.ro, by rw [intCells_congr hg]; exact h.re, h.no, h.ne, h.ap⟩

theorem run_ix10 (W : World) (s : ByteArray) (j : Nat) (h : j < s.size) : (Instr.index 9 (.string s) (.int .i64 (j : Int))).run Try.prog W = .ok (.int .u8 (s[j].toNat : Int)) W := by
  have h := run_index_string (P := Try.prog) W 9 s .i64 (j : Int) Try.underlying9
  rw [dif_pos (by omega)] at h
  simpa using h

/-- An operation that only reads is taken first. -/
theorem take7 {P : Program} {md : Region.Mode} {ops : Array Oper} {Q : Exit → Act → World → Prop} {S : World → Prop} {i d : Nat} {oi : Oper} {v : Value} {fuel : Nat} {listed : Array Bool} {a : Act} {w : World} (hi : ops[i]? = some oi) (hd : oi.dst = some d)
    (hs : Region.noSelect ops = true) (hf : Region.free md ops listed i = true) (hr : (Region.ready md ops listed).contains i = true)
    (hQ : ∀ c a w, Q (.panic c) (a.put (some d) v) w → Q (.panic c) a w) (hy : YieldsIf P ops S oi v a) (hS : S w)
    (h : wpAnyH P md ops Q S fuel (listed.setIfInBounds i true) (a.put (some d) v) w) : wpAnyH P md ops Q S (fuel + 1) listed a w :=
  wpAnyH_take hi hs hf hr (by rw [hd]; exact hQ) hy hS (by rw [hd]; exact h)

/-- append, as one step of a region that draws. -/
theorem step7 {P : Program} {w : World} {ops : Array Oper} {o : Oper} {a : Act} {K : Act → World → Prop} {Q : Exit → Act → World → Prop} {E : Prop} (d : Nat) (hd : o.dst = some d) (hgd : o.guard = none) (s x : Operand) (t tx e : TypeId)
    (ho : o.op = .call { callee := .builtin .append, args := #[s, x], argTypes := #[t, tx] })
    (ht : P.underlying t = some (.slice e)) (z : Value) (size bytes : Nat) (hinfo : (P.info? e).map (fun i => (i.zero, i.size, i.bytes)) = some (some z, size, bytes)) (hzs : z.cells.size = size)
    (v : Value) (n : Nat) (xs : List Value) (hv : a.eval s = v) (hown : RowC w size v n xs) (xv : Value) (m : Nat) (news : List Value) (hx : a.eval x = xv) (hs : Src P size tx xv m news w)
    (hlen : (n + m) * bytes ≤ 140737488355328) (hmax : n + m ≤ maxLen)
    (h : ∀ v' w', RowC w' size v' (n + m) (xs ++ news) → w.grownBy w' (cBlk v) → (∀ k, cBlk v' = some k → cBlk v = some k ∨ w.heap.size ≤ k) → K (a.put (some d) v') w') :
    if Region.wanted o (yielded ops a.tmps) = true then Oper.wp P o a w K Q else E :=
  step_append_rowC hgd s x t tx e ho ht z size bytes hinfo hzs v n xs hv hown xv m news hx hs hlen hmax (by rw [hd]; exact h)

/-- What the document's From answers. -/
def RFrom (w : World) (s : ByteArray) (e : Ending) (w' : World) : Prop := Below w.heap.size w w' ∧ match Sl.frm s.data.toList with
  | none => e = .returned (.tuple #[.agg #[.slice none 0 0, .slice none 0 0], .int .i64 140])
  | some t => ∃ vo ve, e = .returned (.tuple #[.agg #[vo, ve], .int .i64 0]) ∧ Rm w' vo ve t

theorem RFrom.no {w w' : World} {s : ByteArray} (h : Sl.frm s.data.toList = none) (hb : Below w.heap.size w w') : RFrom w s (.returned (.tuple #[.agg #[.slice none 0 0, .slice none 0 0], .int .i64 140])) w' := ⟨hb, by rw [h]⟩
theorem RFrom.yes {w w' : World} {s : ByteArray} {t : Sl.St} {vo ve : Value} (h : Sl.frm s.data.toList = some t) (hb : Below w.heap.size w w') (hr : Rm w' vo ve t) : RFrom w s (.returned (.tuple #[.agg #[vo, ve], .int .i64 0])) w' := ⟨hb, by rw [h]; exact ⟨vo, ve, rfl, hr⟩⟩

theorem drop_at (s : ByteArray) (k : Nat) (h : k < s.size) : s.data.toList.drop k = s[k] :: s.data.toList.drop (k + 1) := by
  have h' : k < s.data.toList.length := by simpa using h
  exact List.drop_eq_getElem_cons h'

set_option maxHeartbeats 3200000 in
set_option maxRecDepth 20000 in
theorem rFromS_c (s : ByteArray) (hs : s.size ≤ 140737488351232) (w : World) : Calls Try.prog 20 #[.string s] w fun e w' => RFrom w s e w' := by
  have HBl : Hid (∀ o, Below w.heap.size w (w.alloc o)) := fun o => below_alloc w o
  by_cases h0 : s.size = 0
  · have e0 : s = ⟨#[]⟩ := by
      apply ByteArray.ext
      exact Array.eq_empty_of_size_eq_zero h0
    subst e0
    have HE : Hid (∀ w', Below w.heap.size w w' → RFrom w ⟨#[]⟩ (.returned (.tuple #[.agg #[.slice none 0 0, .slice none 0 0], .int .i64 140])) w') := fun w' hb => RFrom.no (s := ⟨#[]⟩) frm_nil hb
    clear h0 hs
    go_enter Try.func20, Try.ntmps20
    go_wp2
    exact bodyPost_ret (v := .tuple #[.agg #[.slice none 0 0, .slice none 0 0], .int .i64 140]) (by simp [results, Try.results20, go_sem]) rfl (HE.out _ (HBl.out _))
  · have hlt : 0 < s.size := by omega
    have hem : s.toList.isEmpty = false := by
      rw [ByteArray.toList_eq]
      cases hd : s.data.toList with
      | nil => exact absurd (by show s.data.size = 0; rw [← Array.length_toList, hd]; rfl) h0
      | cons a l => rfl
    by_cases h83 : s[0] = 83
    · have h83' : s[0].toNat = 83 := by rw [h83]; rfl
      have HF : Hid _ := frm_if hlt h83
      have HR0 : Hid (Sl.rdTo (s.data.toList.drop 1) 0 = some ([], s.data.toList.drop 1)) := rfl
      obtain ⟨u, hu⟩ : ∃ u, u = w.alloc (.cells #[.slice none 0 0, .slice none 0 0] 36) := ⟨_, rfl⟩
      obtain ⟨br, hbr⟩ : ∃ br, br = w.heap.size := ⟨_, rfl⟩
      obtain ⟨bm, hbm⟩ : ∃ bm, bm = w.heap.size + 1 := ⟨_, rfl⟩
      obtain ⟨X0, hX0⟩ : ∃ X0, X0 = u.alloc (.cells #[.slice none 0 0, .slice none 0 0] 36) := ⟨_, rfl⟩
      have HBd : Hid (Bd u bm (Sl.ofL []).O (Sl.ofL []).E 0 0 (.slice none 0 0) (.slice none 0 0) X0) := by
        have := Bd.begin u (Sl.ofL []).O (Sl.ofL []).E
        rw [show u.heap.size = bm by rw [hu, hbm]; simp, ← hX0] at this
        exact this
      have HBu : Hid (Below w.heap.size w u ∧ br < u.heap.size ∧ w.heap.size ≤ br) := ⟨by rw [hu]; exact below_alloc w _, by rw [hu, hbr]; simp, by omega⟩
      have HRc : Hid (∀ X, Below u.heap.size u X → X.cell? ⟨br, 0, none⟩ = some (.slice none 0 0) ∧ X.cell? ⟨br, 1, none⟩ = some (.slice none 0 0) ∧ X.frozen? ⟨br, 0, none⟩ = false ∧ X.frozen? ⟨br, 1, none⟩ = false) := fun X hX => by
        have hlt := HBu.out.2.1
        rw [hX.cell (p := ⟨br, 0, none⟩) hlt, hX.cell (p := ⟨br, 1, none⟩) hlt, hX.frozen (p := ⟨br, 0, none⟩) hlt, hX.frozen (p := ⟨br, 1, none⟩) hlt, hu, hbr]
        refine ⟨World.cell?_alloc_mark w _ _ _ 0, World.cell?_alloc_mark w _ _ _ 1, ?_, ?_⟩ <;> (rw [World.frozen?_alloc_mark]; simp)
      have hX0' : X0 = (w.alloc (.cells #[.slice none 0 0, .slice none 0 0] 36)).alloc (.cells #[.slice none 0 0, .slice none 0 0] 36) := by rw [hX0, hu]
      have HNo : Hid (∀ X, Below u.heap.size u X → Sl.frm s.data.toList = none → (fin2 X br (.slice none 0 0) (.slice none 0 0)).cell? ⟨br, 0, none⟩ = some (.slice none 0 0) ∧ (fin2 X br (.slice none 0 0) (.slice none 0 0)).cell? ⟨br, 1, none⟩ = some (.slice none 0 0) ∧ RFrom w s (.returned (.tuple #[.agg #[.slice none 0 0, .slice none 0 0], .int .i64 140])) (fin2 X br (.slice none 0 0) (.slice none 0 0))) := fun X hX hn => by
        obtain ⟨r0, r1, -, -⟩ := HRc.out X hX
        obtain ⟨x0, x1⟩ := fin2_cells r0 r1 (.slice none 0 0) (.slice none 0 0)
        exact ⟨x0, x1, RFrom.no hn (fin2_below (HBu.out.1.trans (hX.mono HBu.out.1.size)) HBu.out.2.2 _ _)⟩
      have HV : Hid (∀ (r : ByteArray) (X : World), r.size ≤ maxLen → Calls Try.prog 37 #[.string r] X fun e w' => e = .returned (.tuple #[.int .i64 ((M.rdVar r.data.toList).1 : Int), .int .i64 ((M.rdVar r.data.toList).2.1 : Int), .int .i64 ((M.rdVar r.data.toList).2.2 : Int)]) ∧ w' = X) := fun r X hr => ref_Var r X hr
      clear h0 h83 hX0 hu
      go_enter Try.func20, Try.ntmps20
      go_wp2
      rw [← hX0', ← hbm, ← hbr]
      clear hX0' hbr hbm h83' hem
      go_loopw [5, 6] (fun av x wr => ∃ (n a : Nat) (xs : List (Nat × Nat)) (vo ve : Value), x = .int .i64 (n : Int) ∧ n ≤ 16 ∧ av = .int .i64 (a : Int) ∧ 1 ≤ a ∧ a ≤ s.size ∧ Hid (xs.length = n) ∧ Hid (Sl.rdTo (s.data.toList.drop 1) n = some (xs, s.data.toList.drop a)) ∧ Hid (Bd u bm (Sl.ofL xs).O (Sl.ofL xs).E n n vo ve wr)) (fun _ x _ => 16 - (intOf x).toNat)
      case atStart => exact ⟨0, 1, [], _, _, rfl, by omega, rfl, by omega, by omega, rfl, HR0, HBd⟩
      case round =>
        clear HBd HR0
        obtain ⟨n, a, xs, vo, ve, rfl, hn, rfl, ha1, ha2, HXl, HRd, HB⟩ := hrel
        obtain ⟨po, co, pe, ce, hvo, hve⟩ := HB.out.shapes
        subst hvo hve
        obtain ⟨r0, r1, rf0, rf1⟩ := HRc.out wr HB.out.old
        by_cases hn16 : n < 16
        · by_cases has : a < s.size
          · have hb' := drop_at s a has
            have hcut := toL_cut s (a + 1) (by omega)
            obtain ⟨t, ht⟩ : ∃ t, t = s.extract (a + 1) s.size := ⟨_, rfl⟩
            have htl : t.size ≤ maxLen := by rw [ht, size_cut s (a + 1) (by omega)]; unfold maxLen; omega
            rw [← ht] at hcut
            have HVr : Hid _ := HV.out t wr htl
            obtain ⟨hvn, hkl, hk9, hx10⟩ := rdVar_top t.data.toList
            have hO : Sl.own1 (s.data.toList.drop a) = if (M.rdVar t.data.toList).2.2 = 0 ∧ 1 ≤ s[a].toNat ∧ s[a].toNat ≤ 8 ∧ 1 ≤ (M.rdVar t.data.toList).1 ∧ (M.rdVar t.data.toList).1 ≤ 2147483647 then some (s[a].toNat, (M.rdVar t.data.toList).1, 1 + (M.rdVar t.data.toList).2.1) else none := by rw [hb', Sl.own1, hcut]
            have hkl2 : (M.rdVar t.data.toList).2.1 ≤ s.size - (a + 1) := by
              have : t.data.toList.length = s.size - (a + 1) := by rw [hcut, List.length_drop]; simp
              omega
            obtain ⟨m, hm'⟩ : ∃ m, m = (M.rdVar t.data.toList).1 := ⟨_, rfl⟩
            obtain ⟨k, hk'⟩ : ∃ k, k = (M.rdVar t.data.toList).2.1 := ⟨_, rfl⟩
            obtain ⟨x, hx'⟩ : ∃ x, x = (M.rdVar t.data.toList).2.2 := ⟨_, rfl⟩
            obtain ⟨b, hbb⟩ : ∃ b, b = s[a].toNat := ⟨_, rfl⟩
            rw [← hm', ← hk', ← hx', ← hbb] at hO
            rw [← hm', ← hk', ← hx'] at HVr
            rw [← hm'] at hvn
            rw [← hk'] at hk9 hkl2
            have hb8 : b < 256 := by rw [hbb]; exact s[a].toNat_lt
            have hb0 : s[a].toNat = b := hbb.symm
            have htt : s.extract (a + 1) s.size = t := ht.symm
            have hge : ¬ (a : Int) ≥ (s.size : Int) := by omega
            have hge' : ¬ s.size ≤ a := by omega
            clear hb' hcut htl hkl hx10 hm' hk' hx' hbb ht HV
            by_cases hb1 : b < 1
            · have HN : Hid (Sl.frm s.data.toList = none) := HF.out.1 (Sl.rdTo_stop HRd.out (by rw [hO, if_neg (by omega)]) hn16)
              clear hO hvn HVr
              obtain ⟨F, hF⟩ : ∃ F, F = fin2 wr br (.slice none 0 0) (.slice none 0 0) := ⟨_, rfl⟩
              obtain ⟨x0, x1, hE⟩ := HNo.out wr HB.out.old HN.out
              rw [← hF] at x0 x1 hE
              unfold fin2 at hF
              have HE : Hid (RFrom w s (.returned (.tuple #[.agg #[.slice none 0 0, .slice none 0 0], .int .i64 140])) F) := hE
              clear hE HN HB
              go_wp2
              rw [← hF]
              clear hF
              refine bodyPost_ret (v := .tuple #[.agg #[.slice none 0 0, .slice none 0 0], .int .i64 140]) ?qres rfl ?qpost
              case qres => simp [results, Try.results20, go_sem, x0, x1]
              case qpost => exact HE.out
            · by_cases hb2 : b > 8
              · have HN : Hid (Sl.frm s.data.toList = none) := HF.out.1 (Sl.rdTo_stop HRd.out (by rw [hO, if_neg (by omega)]) hn16)
                clear hO hvn HVr
                obtain ⟨F, hF⟩ : ∃ F, F = fin2 wr br (.slice none 0 0) (.slice none 0 0) := ⟨_, rfl⟩
                obtain ⟨x0, x1, hE⟩ := HNo.out wr HB.out.old HN.out
                rw [← hF] at x0 x1 hE
                unfold fin2 at hF
                have HE : Hid (RFrom w s (.returned (.tuple #[.agg #[.slice none 0 0, .slice none 0 0], .int .i64 140])) F) := hE
                clear hE HN HB
                go_wp2
                rw [← hF]
                clear hF
                refine bodyPost_ret (v := .tuple #[.agg #[.slice none 0 0, .slice none 0 0], .int .i64 140]) ?qres rfl ?qpost
                case qres => simp [results, Try.results20, go_sem, x0, x1]
                case qpost => exact HE.out
              · have hb1' : ¬ (b : Int) < 1 := by omega
                have hb2' : ¬ (b : Int) > 8 := by omega
                by_cases hx : x = 0
                · subst hx
                  by_cases hm1 : m < 1
                  · have HN : Hid (Sl.frm s.data.toList = none) := HF.out.1 (Sl.rdTo_stop HRd.out (by rw [hO, if_neg (by omega)]) hn16)
                    have hm1' : (m : Int) < 1 := by omega
                    clear hO hvn
                    obtain ⟨F, hF⟩ : ∃ F, F = fin2 wr br (.slice none 0 0) (.slice none 0 0) := ⟨_, rfl⟩
                    obtain ⟨x0, x1, hE⟩ := HNo.out wr HB.out.old HN.out
                    rw [← hF] at x0 x1 hE
                    unfold fin2 at hF
                    have HE : Hid (RFrom w s (.returned (.tuple #[.agg #[.slice none 0 0, .slice none 0 0], .int .i64 140])) F) := hE
                    clear hE HN HB
                    go_wp2_with fail
                    refine Calls.mono HVr.out ?_
                    rintro e w2 ⟨rfl, h2⟩
                    subst h2
                    go_wp2
                    rw [← hF]
                    clear hF
                    refine bodyPost_ret (v := .tuple #[.agg #[.slice none 0 0, .slice none 0 0], .int .i64 140]) ?qres rfl ?qpost
                    case qres => simp [results, Try.results20, go_sem, x0, x1]
                    case qpost => exact HE.out
                  · have hm1' : ¬ (m : Int) < 1 := by omega
                    by_cases hm2 : m > 2147483647
                    · have HN : Hid (Sl.frm s.data.toList = none) := HF.out.1 (Sl.rdTo_stop HRd.out (by rw [hO, if_neg (by omega)]) hn16)
                      have hm2' : (m : Int) > 2147483647 := by omega
                      have hm2'' : decide ((2147483647 : Int) < (m : Int)) = true := by simp; omega
                      clear hO hvn hm2
                      obtain ⟨F, hF⟩ : ∃ F, F = fin2 wr br (.slice none 0 0) (.slice none 0 0) := ⟨_, rfl⟩
                      obtain ⟨x0, x1, hE⟩ := HNo.out wr HB.out.old HN.out
                      rw [← hF] at x0 x1 hE
                      unfold fin2 at hF
                      have HE : Hid (RFrom w s (.returned (.tuple #[.agg #[.slice none 0 0, .slice none 0 0], .int .i64 140])) F) := hE
                      clear hE HN HB
                      go_wp2_with fail
                      refine Calls.mono HVr.out ?_
                      rintro e w2 ⟨rfl, h2⟩
                      subst h2
                      go_wp2
                      rw [← hF]
                      clear hF
                      refine bodyPost_ret (v := .tuple #[.agg #[.slice none 0 0, .slice none 0 0], .int .i64 140]) ?qres rfl ?qpost
                      case qres => simp [results, Try.results20, go_sem, x0, x1]
                      case qpost => exact HE.out
                    · have hm2' : ¬ (m : Int) > 2147483647 := by omega
                      have hm2'' : decide ((2147483647 : Int) < (m : Int)) = false := by simp; omega
                      rw [if_pos (by omega)] at hO
                      have HRd2 : Hid (Sl.rdTo (s.data.toList.drop 1) (n + 1) = some (xs ++ [(b, m)], s.data.toList.drop (a + 1 + k))) := by
                        show _ = _
                        rw [Sl.rdTo_more HRd.out hO, List.drop_drop]
                        congr 3
                        omega
                      have HXl2 : Hid ((xs ++ [(b, m)]).length = n + 1) := by show _ = _; rw [List.length_append, HXl.out]; rfl
                      have hBc : Bd u bm (Sl.ofL (xs ++ [(b, m)])).O (Sl.ofL (xs ++ [(b, m)])).E n n (.slice po n co) (.slice pe n ce) wr := HB.out.congr (fun i hi => (ofL_snoc xs (b, m) i (by rw [HXl.out]; exact hi)).1) (fun i hi => (ofL_snoc xs (b, m) i (by rw [HXl.out]; exact hi)).2)
                      have HF1 : Hid ((((Sl.ofL (xs ++ [(b, m)])).O n : Nat) : Int) = (b : Int)) := by have := (ofL_last xs b m).1; rw [HXl.out] at this; show _ = _; rw [this]
                      have HF2 : Hid ((((Sl.ofL (xs ++ [(b, m)])).E n : Nat) : Int) = (m : Int)) := by have := (ofL_last xs b m).2; rw [HXl.out] at this; show _ = _; rw [this]
                      obtain ⟨q, hq⟩ : ∃ q, q = Sl.ofL (xs ++ [(b, m)]) := ⟨_, rfl⟩
                      rw [← hq] at hBc HF1 HF2
                      have HBc : Hid (Bd u bm q.O q.E n n (.slice po n co) (.slice pe n ce) wr) := hBc
                      have HQ : Hid (q = Sl.ofL (xs ++ [(b, m)])) := hq
                      have b0 := hBc.c0
                      have b1 := hBc.c1
                      have bf0 := hBc.f0
                      have bf1 := hBc.f1
                      clear hO hvn hm2 HB hBc hq HF HNo HRc r0 r1 rf0 rf1
                      go_wp2_with fail
                      refine Calls.mono HVr.out ?_
                      rintro e w2 ⟨rfl, h2⟩
                      have h2 := h2.symm
                      subst h2
                      have hix : ∀ W : World, (Instr.index 9 (.string s) (.int .i64 (a : Int))).run Try.prog W = .ok (.int .u8 (b : Int)) W := fun W => by rw [run_ix10 W s a has, hb0]
                      have hL : Hid ((n + 1) * 8 ≤ 140737488355328 ∧ n + 1 ≤ maxLen) := by unfold maxLen; exact ⟨by omega, by omega⟩
                      go_wp2
                      have hwb : IntKind.i64.wrap (b : Int) = (b : Int) := wraps_i64 _ (by omega) (by omega)
                      clear hb0 hm1 hm1' hm2' hm2'' hb1 hb2 hb1' hb2' hge hge' hb8 b0 b1 bf0 bf1
                      have hd1 : wr.drew.cell? ⟨bm, 1, none⟩ = some (.slice pe n ce) := HBc.out.c1
                      refine wp_region_held_drew (S := fun X => X.cell? ⟨bm, 1, none⟩ = some (.slice pe n ce)) (by kernel_rfl) hd1 (fun hHeld => ?_)
                      clear hd1
                      refine take7 (i := 0) (d := 60) (v := .pointer (some ⟨bm, 0, none⟩)) rfl rfl (by kernel_rfl) (by kernel_rfl) (by kernel_rfl) (fun _ _ _ h => h) (Or.inl ⟨by rfl, ?_⟩) (by assumption) ?_
                      · intro X hSw
                        go_simp
                      simp only [Act.put, List.setIfInBounds_toArray, List.set_cons_zero, List.set_cons_succ]
                      refine take7 (i := 2) (d := 62) (v := .string s) rfl rfl (by kernel_rfl) (by kernel_rfl) (by kernel_rfl) (fun _ _ _ h => h) (Or.inl ⟨by rfl, ?_⟩) (by assumption) ?_
                      · intro X hSw
                        go_simp
                      simp only [Act.put, List.setIfInBounds_toArray, List.set_cons_zero, List.set_cons_succ]
                      refine take7 (i := 3) (d := 63) (v := .int .i64 (a : Int)) rfl rfl (by kernel_rfl) (by kernel_rfl) (by kernel_rfl) (fun _ _ _ h => h) (Or.inl ⟨by rfl, ?_⟩) (by assumption) ?_
                      · intro X hSw
                        go_simp
                      simp only [Act.put, List.setIfInBounds_toArray, List.set_cons_zero, List.set_cons_succ]
                      refine take7 (i := 4) (d := 64) (v := .int .u8 (b : Int)) rfl rfl (by kernel_rfl) (by kernel_rfl) (by kernel_rfl) (fun _ _ _ h => h) (Or.inl ⟨by rfl, ?_⟩) (by assumption) ?_
                      · intro X hSw
                        have hixX := hix X
                        go_simp
                      simp only [Act.put, List.setIfInBounds_toArray, List.set_cons_zero, List.set_cons_succ]
                      clear hix
                      refine take7 (i := 5) (d := 65) (v := .int .i64 (b : Int)) rfl rfl (by kernel_rfl) (by kernel_rfl) (by kernel_rfl) (fun _ _ _ h => h) (Or.inl ⟨by rfl, ?_⟩) (by assumption) ?_
                      · intro X hSw
                        go_simp
                        try exact hwb
                      simp only [Act.put, List.setIfInBounds_toArray, List.set_cons_zero, List.set_cons_succ]
                      obtain ⟨X1, hX1⟩ : ∃ X1, X1 = wr.drew := ⟨_, rfl⟩
                      have hBX : Bd u bm q.O q.E n n (.slice po n co) (.slice pe n ce) X1 := by rw [hX1]; exact HBc.out.below (below_drew wr)
                      rw [← hX1] at hHeld ⊢
                      clear hX1
                      have b0 := hBX.c0
                      have b1 := hBX.c1
                      obtain ⟨Z, hZ⟩ : ∃ Z, Z = X1.alloc (.cells #[.int .i64 (b : Int)] 3) := ⟨_, rfl⟩
                      have hBZ : Bd u bm q.O q.E n n (.slice po n co) (.slice pe n ce) Z := hBX.below (by rw [hZ]; exact below_alloc _ _)
                      have HBZ : Hid (Bd u bm q.O q.E n n (.slice po n co) (.slice pe n ce) Z) := hBZ
                      have HRow : Hid (RowC Z 1 (.slice po n co) n (intCells q.O n)) := hBZ.ro
                      have z0 := hBZ.c0
                      have z1 := hBZ.c1
                      have HSrc : Hid (Src Try.prog 1 27 (.slice (some ⟨X1.heap.size, 0, none⟩) 1 1) 1 [.int .i64 (b : Int)] Z) := by rw [hZ]; exact src_int X1 (b : Int)
                      have HPO : Hid (∀ v' Y, RowC Y 1 v' (n + 1) (intCells q.O n ++ [.int .i64 (b : Int)]) → Z.grownBy Y (cBlk (.slice po n co)) → (∀ j, cBlk v' = some j → cBlk (.slice po n co) = some j ∨ Z.heap.size ≤ j) → Y.cell? ⟨bm, 0, none⟩ = some (.slice po n co) ∧ Y.cell? ⟨bm, 1, none⟩ = some (.slice pe n ce) ∧ Y.frozen? ⟨bm, 0, none⟩ = false ∧ Y.frozen? ⟨bm, 1, none⟩ = false ∧ Bd u bm q.O q.E (n + 1) n v' (.slice pe n ce) (Y.setCell ⟨bm, 0, none⟩ v')) := fun v' Y g1 g2 g3 => HBZ.out.putO (by rw [HF1.out]; exact g1) g2 g3
                      clear hBX hBZ
                      refine wpAnyH_ready (rs := [1, 6]) (by kernel_rfl) (by simp) ?_
                      refine AllReadyH.cons rfl (fun K hK => ?_) (AllReadyH.cons rfl (fun K hK => ?_) AllReadyH.nil)
                      · go_simp
                        refine hK.out _ _ b1 (fun hHeld => ?_)
                        clear hK K
                        try simp only [Act.put, List.setIfInBounds_toArray, List.set_cons_zero, List.set_cons_succ]
                        refine wpAnyH_ready (rs := [6]) (by kernel_rfl) (by simp) ?_
                        refine AllReadyH.cons rfl (fun K hK => ?_) AllReadyH.nil
                        go_simp
                        rw [← hZ]
                        refine hK.out _ _ z1 (fun hHeld => ?_)
                        clear hK K hZ
                        try simp only [Act.put, List.setIfInBounds_toArray, List.set_cons_zero, List.set_cons_succ]
                        refine wpAnyH_ready (rs := [7]) (by kernel_rfl) (by simp) ?_
                        refine AllReadyH.cons rfl (fun K hK => ?_) AllReadyH.nil
                        refine step7 67 rfl rfl (.tmp 61) (.tmp 66) 27 27 3 rfl Try.underlying27 _ 1 8 infoInt10 rfl (.slice po n co) n (intCells q.O n) (by simp [Act.eval]) HRow.out _ 1 _ (by simp [Act.eval]) HSrc.out hL.out.1 hL.out.2 ?_
                        intro v' Y g1 g2 g3
                        obtain ⟨p1, c3, hv', _⟩ := g1.form
                        subst hv'
                        obtain ⟨y0, y1, yf0, yf1, hB2⟩ := HPO.out _ Y g1 g2 g3
                        have HB2 : Hid (Bd u bm q.O q.E (n + 1) n (.slice p1 (n + 1) c3) (.slice pe n ce) (Y.setCell ⟨bm, 0, none⟩ (.slice p1 (n + 1) c3))) := hB2
                        clear g1 g2 g3 hB2
                        refine hK.out _ _ y1 (fun hHeld => ?_)
                        clear hK K
                        simp only [Act.put, List.setIfInBounds_toArray, List.set_cons_zero, List.set_cons_succ]
                        refine take7 (i := 8) (d := 68) (v := .pointer (some ⟨bm, 0, none⟩)) rfl rfl (by kernel_rfl) (by kernel_rfl) (by kernel_rfl) (fun _ _ _ h => h) (Or.inl ⟨by rfl, ?_⟩) (by assumption) ?_
                        · intro X hSw
                          go_simp
                        simp only [Act.put, List.setIfInBounds_toArray, List.set_cons_zero, List.set_cons_succ]
                        refine wpAnyH_ready (rs := [9]) (by kernel_rfl) (by simp) ?_
                        refine AllReadyH.cons rfl (fun K hK => ?_) AllReadyH.nil
                        go_simp
                        refine hK.out _ _ HB2.out.c1 (fun hHeld => ?_)
                        clear hK K hHeld y0 y1 yf0 yf1
                        refine wpAnyH_done (by kernel_rfl) ?_ _
                        obtain ⟨W3, hW3⟩ : ∃ W3, W3 = Y.setCell ⟨bm, 0, none⟩ (.slice p1 (n + 1) c3) := ⟨_, rfl⟩
                        rw [← hW3] at HB2 ⊢
                        clear hW3
                        obtain ⟨Z2, hZ2⟩ : ∃ Z2, Z2 = W3.alloc (.cells #[.int .i64 (m : Int)] 3) := ⟨_, rfl⟩
                        have hBZ2 : Bd u bm q.O q.E (n + 1) n (.slice p1 (n + 1) c3) (.slice pe n ce) Z2 := HB2.out.below (by rw [hZ2]; exact below_alloc _ _)
                        have HBZ2 : Hid (Bd u bm q.O q.E (n + 1) n (.slice p1 (n + 1) c3) (.slice pe n ce) Z2) := hBZ2
                        have HRow2 : Hid (RowC Z2 1 (.slice pe n ce) n (intCells q.E n)) := hBZ2.re
                        have k1 := HB2.out.c1
                        have x1 := hBZ2.c1
                        have xf1 := hBZ2.f1
                        have HSrc2 : Hid (Src Try.prog 1 27 (.slice (some ⟨W3.heap.size, 0, none⟩) 1 1) 1 [.int .i64 (m : Int)] Z2) := by rw [hZ2]; exact src_int W3 (m : Int)
                        have HZs2 : Hid (Z2.heap.size = W3.heap.size + 1) := by rw [hZ2]; show _ = _; simp
                        clear hBZ2
                        go_wp2_with (at_builtin; rw [← hZ2]; refine wpList_append_rowC rfl (.tmp 70) (.tmp 72) 27 27 3 rfl Try.underlying27 _ 1 8 infoInt10 rfl (.slice pe n ce) n (intCells q.E n) rfl HRow2.out _ 1 _ rfl HSrc2.out hL.out.1 hL.out.2 ?qnext2)
                        case qnext2 =>
                          intro v2 Y2 a1 a2 a3
                          obtain ⟨p2, c4, hv2, _⟩ := a1.form
                          subst hv2
                          try rw [← hZ2] at a2
                          rw [← HF2.out] at a1
                          obtain ⟨q0, q1, qf0, qf1, hB3⟩ := HBZ2.out.putE a1 a2 (fun q hq => Or.elim (a3 q hq) (fun e => .inl e) (fun e => .inr (by have := HZs2.out; first | omega | (simp at e; omega))))
                          have HB3 : Hid _ := hB3
                          clear a1 a2 a3 hB3 hZ2 x1 xf1
                          go_wp2
                          go_roundw
                          case rel => exact ⟨n + 1, a + 1 + k, xs ++ [(b, m)], _, _, by go_num, by omega, by go_num, by omega, by omega, HXl2, HRd2, by rw [← HQ.out]; exact HB3⟩
                          case measure => simp [intOf]; omega
                      · go_simp
                        rw [← hZ]
                        refine hK.out _ _ z1 (fun hHeld => ?_)
                        clear hK K hZ
                        try simp only [Act.put, List.setIfInBounds_toArray, List.set_cons_zero, List.set_cons_succ]
                        refine wpAnyH_ready (rs := [1]) (by kernel_rfl) (by simp) ?_
                        refine AllReadyH.cons rfl (fun K hK => ?_) AllReadyH.nil
                        go_simp
                        refine hK.out _ _ z1 (fun hHeld => ?_)
                        clear hK K
                        try simp only [Act.put, List.setIfInBounds_toArray, List.set_cons_zero, List.set_cons_succ]
                        refine wpAnyH_ready (rs := [7]) (by kernel_rfl) (by simp) ?_
                        refine AllReadyH.cons rfl (fun K hK => ?_) AllReadyH.nil
                        refine step7 67 rfl rfl (.tmp 61) (.tmp 66) 27 27 3 rfl Try.underlying27 _ 1 8 infoInt10 rfl (.slice po n co) n (intCells q.O n) (by simp [Act.eval]) HRow.out _ 1 _ (by simp [Act.eval]) HSrc.out hL.out.1 hL.out.2 ?_
                        intro v' Y g1 g2 g3
                        obtain ⟨p1, c3, hv', _⟩ := g1.form
                        subst hv'
                        obtain ⟨y0, y1, yf0, yf1, hB2⟩ := HPO.out _ Y g1 g2 g3
                        have HB2 : Hid (Bd u bm q.O q.E (n + 1) n (.slice p1 (n + 1) c3) (.slice pe n ce) (Y.setCell ⟨bm, 0, none⟩ (.slice p1 (n + 1) c3))) := hB2
                        clear g1 g2 g3 hB2
                        refine hK.out _ _ y1 (fun hHeld => ?_)
                        clear hK K
                        simp only [Act.put, List.setIfInBounds_toArray, List.set_cons_zero, List.set_cons_succ]
                        refine take7 (i := 8) (d := 68) (v := .pointer (some ⟨bm, 0, none⟩)) rfl rfl (by kernel_rfl) (by kernel_rfl) (by kernel_rfl) (fun _ _ _ h => h) (Or.inl ⟨by rfl, ?_⟩) (by assumption) ?_
                        · intro X hSw
                          go_simp
                        simp only [Act.put, List.setIfInBounds_toArray, List.set_cons_zero, List.set_cons_succ]
                        refine wpAnyH_ready (rs := [9]) (by kernel_rfl) (by simp) ?_
                        refine AllReadyH.cons rfl (fun K hK => ?_) AllReadyH.nil
                        go_simp
                        refine hK.out _ _ HB2.out.c1 (fun hHeld => ?_)
                        clear hK K hHeld y0 y1 yf0 yf1
                        refine wpAnyH_done (by kernel_rfl) ?_ _
                        obtain ⟨W3, hW3⟩ : ∃ W3, W3 = Y.setCell ⟨bm, 0, none⟩ (.slice p1 (n + 1) c3) := ⟨_, rfl⟩
                        rw [← hW3] at HB2 ⊢
                        clear hW3
                        obtain ⟨Z2, hZ2⟩ : ∃ Z2, Z2 = W3.alloc (.cells #[.int .i64 (m : Int)] 3) := ⟨_, rfl⟩
                        have hBZ2 : Bd u bm q.O q.E (n + 1) n (.slice p1 (n + 1) c3) (.slice pe n ce) Z2 := HB2.out.below (by rw [hZ2]; exact below_alloc _ _)
                        have HBZ2 : Hid (Bd u bm q.O q.E (n + 1) n (.slice p1 (n + 1) c3) (.slice pe n ce) Z2) := hBZ2
                        have HRow2 : Hid (RowC Z2 1 (.slice pe n ce) n (intCells q.E n)) := hBZ2.re
                        have k1 := HB2.out.c1
                        have x1 := hBZ2.c1
                        have xf1 := hBZ2.f1
                        have HSrc2 : Hid (Src Try.prog 1 27 (.slice (some ⟨W3.heap.size, 0, none⟩) 1 1) 1 [.int .i64 (m : Int)] Z2) := by rw [hZ2]; exact src_int W3 (m : Int)
                        have HZs2 : Hid (Z2.heap.size = W3.heap.size + 1) := by rw [hZ2]; show _ = _; simp
                        clear hBZ2
                        go_wp2_with (at_builtin; rw [← hZ2]; refine wpList_append_rowC rfl (.tmp 70) (.tmp 72) 27 27 3 rfl Try.underlying27 _ 1 8 infoInt10 rfl (.slice pe n ce) n (intCells q.E n) rfl HRow2.out _ 1 _ rfl HSrc2.out hL.out.1 hL.out.2 ?qnext2)
                        case qnext2 =>
                          intro v2 Y2 a1 a2 a3
                          obtain ⟨p2, c4, hv2, _⟩ := a1.form
                          subst hv2
                          try rw [← hZ2] at a2
                          rw [← HF2.out] at a1
                          obtain ⟨q0, q1, qf0, qf1, hB3⟩ := HBZ2.out.putE a1 a2 (fun q hq => Or.elim (a3 q hq) (fun e => .inl e) (fun e => .inr (by have := HZs2.out; first | omega | (simp at e; omega))))
                          have HB3 : Hid _ := hB3
                          clear a1 a2 a3 hB3 hZ2 x1 xf1
                          go_wp2
                          go_roundw
                          case rel => exact ⟨n + 1, a + 1 + k, xs ++ [(b, m)], _, _, by go_num, by omega, by go_num, by omega, by omega, HXl2, HRd2, by rw [← HQ.out]; exact HB3⟩
                          case measure => simp [intOf]; omega
                · have HN : Hid (Sl.frm s.data.toList = none) := HF.out.1 (Sl.rdTo_stop HRd.out (by rw [hO, if_neg (by omega)]) hn16)
                  have hx' : ((x : Int) != 0) = true := by simpa using hx
                  have hx'' : ((x : Int) == 0) = false := by simpa using hx
                  clear hO hvn
                  obtain ⟨F, hF⟩ : ∃ F, F = fin2 wr br (.slice none 0 0) (.slice none 0 0) := ⟨_, rfl⟩
                  obtain ⟨x0, x1, hE⟩ := HNo.out wr HB.out.old HN.out
                  rw [← hF] at x0 x1 hE
                  unfold fin2 at hF
                  have HE : Hid (RFrom w s (.returned (.tuple #[.agg #[.slice none 0 0, .slice none 0 0], .int .i64 140])) F) := hE
                  clear hE HN HB
                  go_wp2_with fail
                  refine Calls.mono HVr.out ?_
                  rintro e w2 ⟨rfl, h2⟩
                  subst h2
                  go_wp2
                  rw [← hF]
                  clear hF
                  refine bodyPost_ret (v := .tuple #[.agg #[.slice none 0 0, .slice none 0 0], .int .i64 140]) ?qres rfl ?qpost
                  case qres => simp [results, Try.results20, go_sem, x0, x1]
                  case qpost => exact HE.out
          · have hae : a = s.size := by omega
            have HN : Hid (Sl.frm s.data.toList = none) := HF.out.1 (Sl.rdTo_stop HRd.out (by rw [hae, List.drop_eq_nil_of_le (by simp)]; rfl) hn16)
            have hge : (a : Int) ≥ (s.size : Int) := by omega
            have hge' : s.size ≤ a := by omega
            clear hae has
            obtain ⟨F, hF⟩ : ∃ F, F = fin2 wr br (.slice none 0 0) (.slice none 0 0) := ⟨_, rfl⟩
            obtain ⟨x0, x1, hE⟩ := HNo.out wr HB.out.old HN.out
            rw [← hF] at x0 x1 hE
            unfold fin2 at hF
            have HE : Hid (RFrom w s (.returned (.tuple #[.agg #[.slice none 0 0, .slice none 0 0], .int .i64 140])) F) := hE
            clear hE HN HB
            go_wp2
            rw [← hF]
            clear hF
            refine bodyPost_ret (v := .tuple #[.agg #[.slice none 0 0, .slice none 0 0], .int .i64 140]) ?qres rfl ?qpost
            case qres => simp [results, Try.results20, go_sem, x0, x1]
            case qpost => exact HE.out
        · obtain rfl : n = 16 := by omega
          by_cases has : a = s.size
          · have HN : Hid (Sl.frm s.data.toList = some (Sl.ofL xs)) := HF.out.2.1 xs (by rw [HRd.out, has, List.drop_eq_nil_of_le (by simp)])
            have b0 := HB.out.c0
            have b1 := HB.out.c1
            obtain ⟨F, hF⟩ : ∃ F, F = fin2 wr br (.slice po 16 co) (.slice pe 16 ce) := ⟨_, rfl⟩
            obtain ⟨x0, x1⟩ := fin2_cells r0 r1 (.slice po 16 co) (.slice pe 16 ce)
            have HRm : Hid (Rm F (.slice po 16 co) (.slice pe 16 ce) (Sl.ofL xs)) := by rw [hF]; exact Rm.fin HB.out HBu.out.2.1 _ _
            have HBF : Hid (Below w.heap.size w F) := by rw [hF]; exact fin2_below (HBu.out.1.trans (HB.out.old.mono HBu.out.1.size)) HBu.out.2.2 _ _
            rw [← hF] at x0 x1
            unfold fin2 at hF
            have hne : br ≠ bm := by have := HB.out.newm; have := HBu.out.2.1; omega
            subst has
            go_wp2
            rw [← hF]
            clear hF
            refine bodyPost_ret (v := .tuple #[.agg #[.slice po 16 co, .slice pe 16 ce], .int .i64 0]) ?qres rfl ?qpost
            case qres => simp [results, Try.results20, go_sem, x0, x1]
            case qpost => exact RFrom.yes HN.out HBF.out HRm.out
          · have HN : Hid (Sl.frm s.data.toList = none) := by
              have hd := drop_at s a (by omega)
              exact HF.out.2.2 xs _ _ (by rw [HRd.out, hd])
            have hna : ((a : Int) == (s.size : Int)) = false := by simpa using fun e : (a : Int) = (s.size : Int) => has (by omega)
            clear has
            obtain ⟨F, hF⟩ : ∃ F, F = fin2 wr br (.slice none 0 0) (.slice none 0 0) := ⟨_, rfl⟩
            obtain ⟨x0, x1, hE⟩ := HNo.out wr HB.out.old HN.out
            rw [← hF] at x0 x1 hE
            unfold fin2 at hF
            have HE : Hid (RFrom w s (.returned (.tuple #[.agg #[.slice none 0 0, .slice none 0 0], .int .i64 140])) F) := hE
            clear hE HN HB
            go_wp2
            rw [← hF]
            clear hF
            refine bodyPost_ret (v := .tuple #[.agg #[.slice none 0 0, .slice none 0 0], .int .i64 140]) ?qres rfl ?qpost
            case qres => simp [results, Try.results20, go_sem, x0, x1]
            case qpost => exact HE.out
    · have h83' : (s[0].toNat == 83) = false := by
        rw [Bool.eq_false_iff]
        intro e
        apply h83
        have : s[0].toNat = (83 : UInt8).toNat := by simpa using e
        exact UInt8.toNat_inj.1 this
      have h83n : s[0].toNat ≠ 83 := by simpa using h83'
      have h83'' : ((s[0].toNat : Int) == 83) = false := by simpa using fun e : (s[0].toNat : Int) = 83 => h83n (by omega)
      have HE : Hid (∀ w', Below w.heap.size w w' → RFrom w s (.returned (.tuple #[.agg #[.slice none 0 0, .slice none 0 0], .int .i64 140])) w') := fun w' hb => RFrom.no (frm_not hlt h83) hb
      clear h0 h83
      go_enter Try.func20, Try.ntmps20
      go_wp2
      exact bodyPost_ret (v := .tuple #[.agg #[.slice none 0 0, .slice none 0 0], .int .i64 140]) (by simp [results, Try.results20, go_sem]) rfl (HE.out _ (HBl.out _))

end Go.Proofs.Ytmdnegjpdedcnaa
