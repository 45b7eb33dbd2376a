/-
  What records do: doBase.
-/
import Derived.Test.YtpfnkjfbhcffiaaWlDel
import Derived.StillTailTactics
namespace Go.Proofs.Ytpfnkjfbhcffiaa
open Go.RowKit

theorem addr_addo (b o j : Nat) : (⟨b, o, none⟩ : Addr).add j = ⟨b, o + j, none⟩ := by
  unfold Addr.add
  split
  · rename_i q; subst q; rfl
  · rfl

/-- A region that reads, then goes on in the order of the text. -/
theorem wp_tail5 {P : Program} {id : Nat} {Q : Exit → Act → World → Prop} {a : Act} {w : World} {l : List Oper} (n : Nat) (hm : P.follows .mixedOrders = true) (hB : Region.lexTailB .any l.toArray n = true)
    (h : wpStill P l.toArray w.drew (fun a' => wpList P l.toArray Q (l.drop n) a' w.drew) (l.take n) a) : (Code.region id l.toArray true).wp P Q a w := wp_region_still_tail n hm hB h

/-- The base is another one: four cells. -/
theorem Did.base {w w1 : World} {B o : Nat} {s : W.Sv} {v v' : Value} (h : SvC w B o s v) (hv : rowBlk v ≠ some B) (i t : Int) (d : ByteArray) (l : List (Int × ByteArray)) (h1 : w.grownBy w1 (rowBlk v))
    (hent : EntV w1 v' l) (hloc : ∀ k, rowBlk v' = some k → rowBlk v = some k ∨ w.heap.size ≤ k) :
    Did w ((((w1.setCell ⟨B, o + 2, none⟩ (.int .i64 i)).setCell ⟨B, o + 3, none⟩ (.int .i64 t)).setCell ⟨B, o + 4, none⟩ (.string d)).setCell ⟨B, o + 5, none⟩ v') B o v { s with base := i, bterm := t, data := d, ents := l } v' := by
  have hB : w1.heap[B]? = w.heap[B]? := h1.block B h.lt (fun e => hv e.symm)
  have hw := h.carry hB
  have e1 : (w1.setCell ⟨B, o + 2, none⟩ (.int .i64 i)).cell? ⟨B, o + 3, none⟩ = some (.int .i64 s.bterm) := by rw [cell_set _ hw.c2, if_neg (by omega)]; exact hw.c3
  have e2 : ((w1.setCell ⟨B, o + 2, none⟩ (.int .i64 i)).setCell ⟨B, o + 3, none⟩ (.int .i64 t)).cell? ⟨B, o + 4, none⟩ = some (.string s.data) := by rw [cell_set _ e1, if_neg (by omega), cell_set _ hw.c2, if_neg (by omega)]; exact hw.c4
  have e3 : (((w1.setCell ⟨B, o + 2, none⟩ (.int .i64 i)).setCell ⟨B, o + 3, none⟩ (.int .i64 t)).setCell ⟨B, o + 4, none⟩ (.string d)).cell? ⟨B, o + 5, none⟩ = some v := by rw [cell_set _ e2, if_neg (by omega), cell_set _ e1, if_neg (by omega), cell_set _ hw.c2, if_neg (by omega)]; exact hw.c5
  have hc : ∀ p, ((((w1.setCell ⟨B, o + 2, none⟩ (.int .i64 i)).setCell ⟨B, o + 3, none⟩ (.int .i64 t)).setCell ⟨B, o + 4, none⟩ (.string d)).setCell ⟨B, o + 5, none⟩ v').cell? ⟨B, p, none⟩ = if p = o + 5 then some v' else if p = o + 4 then some (.string d) else if p = o + 3 then some (.int .i64 t) else if p = o + 2 then some (.int .i64 i) else w1.cell? ⟨B, p, none⟩ := by
    intro p
    rw [cell_set _ e3, cell_set _ e2, cell_set _ e1, cell_set _ hw.c2]
  refine Did.mk' h hv h1 (grown_trans (grown_trans (grown_trans (grown_set w1 B (o + 2) _) (grown_set _ B (o + 3) _)) (grown_set _ B (o + 4) _)) (grown_set _ B (o + 5) _)) hent hloc (fun p hp => ?_) (fun p => ?_) ?_ ?_ ?_ ?_ ?_ ?_
  · rw [hc, if_neg (by omega), if_neg (by omega), if_neg (by omega), if_neg (by omega)]
  · rw [World.frozen?_setCell, World.frozen?_setCell, World.frozen?_setCell, World.frozen?_setCell]
  · rw [hc, if_neg (by omega), if_neg (by omega), if_neg (by omega), if_neg (by omega)]; exact hw.c0
  · rw [hc, if_neg (by omega), if_neg (by omega), if_neg (by omega), if_neg (by omega)]; exact hw.c1
  · rw [hc, if_neg (by omega), if_neg (by omega), if_neg (by omega), if_pos rfl]
  · rw [hc, if_neg (by omega), if_neg (by omega), if_pos rfl]
  · rw [hc, if_neg (by omega), if_pos rfl]
  · rw [hc, if_pos rfl]

/-- The end of doBase: four stores, whatever the new list is. -/
theorem did_drew {w u : World} {B o : Nat} {v v' : Value} {s' : W.Sv} (h : Did w u B o v s' v') : Did w u.drew B o v s' v' :=
  ⟨h.os, h.tape, h.output, h.size, h.block, h.cell, h.froz, h.sv.carry rfl, RowV.carry h.ent (fun _ _ => rfl), h.loc⟩

/-- Cloning what stays. -/
theorem clone_rest {w : World} {v : Value} {l : List (Int × ByteArray)} (he : EntV w v l) (hlen : l.length ≤ 1099511627776) (k : Nat) (hk : k ≤ l.length) (p : Option Addr) (n c : Nat) (hv : v = .slice p n c) :
    ∀ u, Old w u → ∀ p', (p' = if c = k then p else p.map (fun a => a.add (k * 2))) → Calls Try.prog 45 #[.slice p' (n - k) (c - k)] u fun e w' =>
      ∃ v', e = .returned v' ∧ EntV w' v' (l.drop k) ∧ Below u.heap.size u w' ∧ ∀ q, rowBlk v' = some q → u.heap.size ≤ q := by
  intro u hu p' hp'
  have he' := hu.ent he
  have hn : n = l.length := by
    obtain ⟨p2, c2, e, _⟩ := he.form
    rw [hv] at e
    injection e
  have hsz : ∀ q, rowBlk v = some q → q < u.heap.size := fun q hq => RowV.lt he' hq
  cases p with
  | none =>
    have hz : n = 0 ∧ c = 0 := by
      obtain ⟨_, ⟨h0, p2, e⟩ | ⟨g, cap, cur, e, _⟩⟩ := he
      · rw [hv] at e; injection e with _ e1 e2; exact ⟨e1, e2⟩
      · rw [hv] at e; injection e with e1; cases e1
    obtain ⟨h1, h2⟩ := hz
    subst h1 h2
    have hp : p' = none := by rw [hp']; split <;> rfl
    subst hp
    have hl : l.drop k = [] := by rw [List.drop_eq_nil_iff]; omega
    have hk0 : k = 0 := by omega
    subst hk0
    rw [Nat.sub_zero]
    refine (EClone_nil u).mono ?_
    rintro e w' ⟨rfl, hw⟩
    subst hw
    refine ⟨_, rfl, ?_, Below.refl _ _, fun q hq => by simp [rowBlk] at hq⟩
    rw [hl]
    exact RowV.nil _ _ _ _
  | some a =>
    obtain ⟨a', ha', hblk⟩ : ∃ a', p' = some a' ∧ (n - k = 0 ∨ (a' = a.add (k * 2))) := by
      by_cases e : c = k
      · rw [if_pos e] at hp'
        obtain ⟨p2, c2, e2, h3, _⟩ := he.form
        rw [hv] at e2
        injection e2 with _ e3 e4
        exact ⟨a, hp', .inl (by omega)⟩
      · rw [if_neg e] at hp'
        exact ⟨_, hp', .inr rfl⟩
    subst ha'
    have hx : (entCells (l.drop k)).length = (n - k) * 2 := by rw [entCells_len, List.length_drop, hn]
    refine (EClone_c u a' (n - k) (c - k) (entCells (l.drop k)) hx ?_ ?_ (entCells_one _) (by omega)).mono ?_
    · intro j x hj
      have hjl := (List.getElem?_eq_some_iff.1 hj).1
      rw [hx] at hjl
      rcases hblk with q | q
      · omega
      · obtain ⟨g, c2, e2, _, _, _, hc⟩ := RowV.cells he' (by omega)
        rw [hv] at e2
        injection e2 with e3
        injection e3 with e3
        subst e3
        rw [q, addr_add0 g (k * 2), addr_addo, hc _ (by omega)]
        rw [entCells_drop, List.getElem?_drop] at hj
        exact hj
    · rcases hblk with q | q
      · exact .inl q
      · by_cases hz : n - k = 0
        · exact .inl hz
        · obtain ⟨g, c2, e2, hb, _⟩ := RowV.cells he' (by omega)
          have := hsz g hb
          rw [hv] at e2
          injection e2 with e3
          injection e3 with e3
          subst e3
          rw [q, addr_add0 g (k * 2)]
          exact .inr this
    · rintro e w' ⟨v', rfl, h1, h2, h3⟩
      refine ⟨v', rfl, ?_, h2, h3⟩
      unfold EntV
      rw [List.length_drop, ← hn]
      exact h1

set_option maxHeartbeats 1600000 in
set_option maxRecDepth 20000 in
theorem doBase_no {w : World} {B o : Nat} {s : W.Sv} {v : Value} (h : SvC w B o s v) (he : EntV w v s.ents) (hv : rowBlk v ≠ some B) (hok : W.Ok s) (r : W.Rec) (hf : W.fitsBase s r = true) (hs : W.stays s r = false) :
    Calls Try.prog 58 #[.pointer (some ⟨B, o, none⟩), recV r] w fun e w' => e = .returned (.tuple #[]) ∧ ∃ v', Did w w' B o v (W.doBase s r) v' := by
  have H1 : Hid _ := last_old h he hok
  have hlt := h.lt
  unfold W.doBase
  rw [hs]
  have HS : Hid (SvC w B o s v) := h
  have HV : Hid (rowBlk v ≠ some B) := hv
  have HG : Hid (∀ ob n, w.grownBy ((w.alloc ob).drewN n) (rowBlk v)) := fun ob n => ⟨rfl, rfl, rfl, by simp, fun k hk _ => Below.heap_alloc w ob k hk⟩
  have c2 := h.c2
  have c3 := h.c3
  have c4 := h.c4
  have c5 := h.c5
  have f2 := h.fz 2 (by omega)
  have f3 := h.fz 3 (by omega)
  have f4 := h.fz 4 (by omega)
  have f5 := h.fz 5 (by omega)
  obtain ⟨p, c, hvf, _, _⟩ := he.form
  rw [hvf] at c5
  have HO : Hid (∀ o n, Old w ((w.alloc o).drewN n)) := old_alloc w
  unfold W.stays at hs
  unfold W.fitsBase at hf
  by_cases q : r.index ≤ W.last s
  · have hd : decide (r.index ≤ W.last s) = true := decide_eq_true q
    rw [hd, Bool.true_and] at hs
    have H2 : Hid _ := termAt_old h he hok r.index ⟨of_decide_eq_true hf, q⟩
    obtain ⟨T, hT⟩ : ∃ T, T = W.termAt s r.index := ⟨_, rfl⟩
    obtain ⟨L, hL⟩ : ∃ L, L = W.last s := ⟨_, rfl⟩
    rw [← hT] at H2 hs
    rw [← hL] at H1 hd
    obtain ⟨rg, rk, i, t, vv, d⟩ := r
    unfold recV
    dsimp only at hd hs H2 ⊢
    clear h he hv hok hT hL hf q hvf
    go_enter Try.func58, Try.ntmps58
    go_wp2
    go_quiet (first | (go_at_call 77; exact Calls.quiet_of (H1.out _ (HO.out _ _))) | (go_at_call 78; exact Calls.quiet_of (H2.out _ (HO.out _ _))))
    go_wp2
    go_region
    exact bodyPost_end (v := .tuple #[]) (by simp [results, Try.results58]) rfl ⟨rfl, _, Did.base HS.out HV.out i t d [] (HG.out _ _) (RowV.nil _ _ _ _) (fun q hq => by simp [rowBlk] at hq)⟩
  · have hd : decide (r.index ≤ W.last s) = false := decide_eq_false q
    obtain ⟨L, hL⟩ : ∃ L, L = W.last s := ⟨_, rfl⟩
    rw [← hL] at H1 hd
    obtain ⟨rg, rk, i, t, vv, d⟩ := r
    unfold recV
    dsimp only at hd ⊢
    clear h he hv hok hL hf q hvf hs
    go_enter Try.func58, Try.ntmps58
    go_wp2
    go_quiet (first | (go_at_call 77; exact Calls.quiet_of (H1.out _ (HO.out _ _))))
    go_wp2
    go_region
    exact bodyPost_end (v := .tuple #[]) (by simp [results, Try.results58]) rfl ⟨rfl, _, Did.base HS.out HV.out i t d [] (HG.out _ _) (RowV.nil _ _ _ _) (fun q hq => by simp [rowBlk] at hq)⟩

theorem slice_from (p : Option Addr) (n c k : Nat) (hk : k ≤ n) (u : World) : (Instr.slice 43 (.slice p n c) (some (.int .i64 (k : Int))) none none).run Try.prog u = .ok (.slice (if c = k then p else p.map (fun a => a.add (k * 2))) (n - k) (c - k)) u := by
  obtain ⟨inf, hinf, _, hsz, _⟩ := info_parts infoEnt
  have hb : (Instr.sliceBound (.int .i64 (k : Int)) n .sliceB).run Try.prog u = .ok k u := by
    unfold Instr.sliceBound
    simp [asIntOf, hk]
  simp [Instr.slice, Instr.sliceBounds, run_underlying Try.underlying43, sizeOf, typeInfo, hinf, hsz, hb]

theorem baseGo {w w2 : World} {B o n : Nat} {s : W.Sv} {v v' : Value} {l : List (Int × ByteArray)} {x0 x1 x2 x3 x4 x5 : Value} (h : SvC w B o s v) (hen : EntV w2 v' l)
    (hbl : Below ((w.alloc (.cells #[x0, x1, x2, x3, x4, x5] 37)).drewN n).heap.size ((w.alloc (.cells #[x0, x1, x2, x3, x4, x5] 37)).drewN n) w2)
    (hrb : ∀ q, rowBlk v' = some q → ((w.alloc (.cells #[x0, x1, x2, x3, x4, x5] 37)).drewN n).heap.size ≤ q) :
    Hid (w.grownBy w2 (rowBlk v) ∧ EntV w2 v' l ∧ ∀ k, rowBlk v' = some k → rowBlk v = some k ∨ w.heap.size ≤ k) ∧
      w2.cell? ⟨B, o + 2, none⟩ = some (.int .i64 s.base) ∧ w2.cell? ⟨B, o + 3, none⟩ = some (.int .i64 s.bterm) ∧ w2.cell? ⟨B, o + 4, none⟩ = some (.string s.data) ∧ w2.cell? ⟨B, o + 5, none⟩ = some v ∧
      w2.frozen? ⟨B, o + 2, none⟩ = false ∧ w2.frozen? ⟨B, o + 3, none⟩ = false ∧ w2.frozen? ⟨B, o + 4, none⟩ = false ∧ w2.frozen? ⟨B, o + 5, none⟩ = false ∧
      w2.cell? ⟨w.heap.size, 2, none⟩ = some x2 ∧ w2.cell? ⟨w.heap.size, 3, none⟩ = some x3 ∧ w2.cell? ⟨w.heap.size, 5, none⟩ = some x5 := by
  have hs : ((w.alloc (.cells #[x0, x1, x2, x3, x4, x5] 37)).drewN n).heap.size = w.heap.size + 1 := by simp
  rw [hs] at hbl hrb
  have hold : ∀ k, k < w.heap.size → w2.heap[k]? = w.heap[k]? := fun k hk => (hbl.block k (by omega)).trans (Below.heap_alloc w _ k hk)
  have hw := h.carry (hold B h.lt)
  have hc : ∀ j, w2.cell? ⟨w.heap.size, j, none⟩ = (#[x0, x1, x2, x3, x4, x5] : Array Value)[j]? := by
    intro j
    rw [hbl.cell (p := ⟨w.heap.size, j, none⟩) (Nat.lt_succ_self _)]
    exact World.cell?_alloc_mark w _ _ _ j
  refine ⟨⟨⟨hbl.os, hbl.tape, hbl.output, by have := hbl.size; omega, fun k hk _ => hold k hk⟩, hen, fun k hk => .inr (by have := hrb k hk; omega)⟩, hw.c2, hw.c3, hw.c4, hw.c5, hw.fz 2 (by omega), hw.fz 3 (by omega), hw.fz 4 (by omega), hw.fz 5 (by omega), hc 2, hc 3, hc 5⟩

theorem did_drewN {w u : World} {B o : Nat} {v v' : Value} {s' : W.Sv} (h : Did w u B o v s' v') (n : Nat) : Did w (u.drewN n) B o v s' v' :=
  ⟨h.os, h.tape, h.output, h.size, h.block, h.cell, h.froz, h.sv.carry rfl, RowV.carry h.ent (fun _ _ => rfl), h.loc⟩

set_option maxHeartbeats 1600000 in
set_option maxRecDepth 20000 in
theorem doBase_yes {w : World} {B o : Nat} {s : W.Sv} {v : Value} (h : SvC w B o s v) (he : EntV w v s.ents) (hv : rowBlk v ≠ some B) (hok : W.Ok s) (r : W.Rec) (hf : W.fitsBase s r = true) (hs : W.stays s r = true) :
    Calls Try.prog 58 #[.pointer (some ⟨B, o, none⟩), recV r] w fun e w' => e = .returned (.tuple #[]) ∧ ∃ v', Did w w' B o v (W.doBase s r) v' := by
  have H1 : Hid _ := last_old h he hok
  have hlt := h.lt
  unfold W.doBase
  rw [hs]
  unfold W.stays at hs
  unfold W.fitsBase at hf
  rw [Bool.and_eq_true, decide_eq_true_eq] at hs
  obtain ⟨q, hst⟩ := hs
  have hf' := of_decide_eq_true hf
  have hd : decide (r.index ≤ W.last s) = true := decide_eq_true q
  have H2 : Hid _ := termAt_old h he hok r.index ⟨hf', q⟩
  have hb := hok.base
  have hl := hok.last
  obtain ⟨T, hT⟩ : ∃ T, T = W.termAt s r.index := ⟨_, rfl⟩
  obtain ⟨L, hL⟩ : ∃ L, L = W.last s := ⟨_, rfl⟩
  have hq := q
  unfold W.last at hq hl
  rw [← hT] at H2 hst
  rw [← hL] at H1 hd
  obtain ⟨rg, rk, i, t, vv, d⟩ := r
  unfold recV
  dsimp only at hd hst H2 hq hf' ⊢
  have HS : Hid (SvC w B o s v) := h
  have HV : Hid (rowBlk v ≠ some B) := hv
  have HG : Hid (∀ ob n, w.grownBy ((w.alloc ob).drewN n) (rowBlk v)) := fun ob n => ⟨rfl, rfl, rfl, by simp, fun k hk _ => Below.heap_alloc w ob k hk⟩
  have HO : Hid (∀ o n, Old w ((w.alloc o).drewN n)) := old_alloc w
  have c2 := h.c2
  have c5 := h.c5
  obtain ⟨p, c, hvf, hnc, _⟩ := he.form
  rw [hvf] at c5
  obtain ⟨k, hk⟩ : ∃ k : Nat, i = s.base + (k : Int) := ⟨(i - s.base).toNat, by omega⟩
  subst hk
  have hkn : k ≤ s.ents.length := by omega
  have HC : Hid _ := clone_rest he (by omega) k hkn p s.ents.length c hvf
  rw [show (s.base + (k : Int) - s.base).toNat = k by omega]
  obtain ⟨n, hn⟩ : ∃ n, n = s.ents.length := ⟨_, rfl⟩
  rw [← hn] at c5 hkn HC
  obtain ⟨x, hx⟩ : ∃ x, x = s.base := ⟨_, rfl⟩
  rw [← hx] at c2 hb hq hl H2 hd ⊢
  have hsl := slice_from p n c k hkn
  obtain ⟨p', hp'⟩ : ∃ p', p' = (if c = k then p else p.map (fun a => a.add (k * 2))) := ⟨_, rfl⟩
  rw [← hp'] at hsl
  have HP : Hid (p' = (if c = k then p else p.map (fun a => a.add (k * 2)))) := hp'
  have hw : IntKind.i64.wrap (x + (k : Int) - x) = (k : Int) := by rw [IntKind.wrap_i64]; omega
  obtain ⟨l, hl'⟩ : ∃ l, l = s.ents.drop k := ⟨_, rfl⟩
  rw [← hl'] at HC ⊢
  clear h he hv hok hT hL hf q hvf hq hl hb hf' hx hp' hl' hn hnc hkn
  go_enter Try.func58, Try.ntmps58
  go_wp2
  go_quiet (first | (go_at_call 77; exact Calls.quiet_of (H1.out _ (HO.out _ _))) | (go_at_call 78; exact Calls.quiet_of (H2.out _ (HO.out _ _))))
  go_wp2
  refine wp_tail5 12 (by kernel_rfl) (by kernel_rfl) ?_
  simp only [List.take_succ_cons, List.take_zero, List.drop_succ_cons, List.drop_zero]
  repeat still_step
  try refine wpStill_nil ?_
  go_wp2_with fail
  refine (HC.out _ (HO.out _ _) p' HP.out).mono ?_
  rintro e w2 ⟨v', rfl, hen, hbl, hrb⟩
  obtain ⟨HE, b2, b3, b4, b5, b6, b7, b8, b9, k2, k3, k5⟩ := baseGo HS.out hen hbl hrb
  obtain ⟨pv, cv, hvf, _⟩ := HE.out.2.1.form
  subst hvf
  clear hen hbl hrb
  go_wp2
  go_region
  exact bodyPost_end (v := .tuple #[]) (by simp [results, Try.results58]) rfl ⟨rfl, _, did_drewN (Did.base HS.out HV.out _ t d l HE.out.1 HE.out.2.1 HE.out.2.2) _⟩

end Go.Proofs.Ytpfnkjfbhcffiaa
