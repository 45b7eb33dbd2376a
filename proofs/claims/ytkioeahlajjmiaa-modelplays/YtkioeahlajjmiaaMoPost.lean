/-
  A post is put.
-/
import Derived.Test.YtkioeahlajjmiaaMoJoin
namespace Go.Proofs.Ytkioeahlajjmiaa
open Go.RowKit

/-- A call by its contract, as one step of a region that draws. -/
theorem stepCall {P : Program} {w : World} {ops : Array Oper} {o : Oper} {a : Act} {K : Act → World → Prop} {Q : Exit → Act → World → Prop} {E : Prop} (d : Nat) (hd : o.dst = some d) (hgd : o.guard = none) (f : FuncId) (args : Array Value)
    (hrun : (execOp a.eval o).run P w = .ok (.enter f args) w) {R : Ending → World → Prop} (hc : Calls P f args w R) (h : ∀ e w', R e w' → ∃ v, e = .returned v ∧ K (a.put (some d) v) w') :
    if Region.wanted o (yielded ops a.tmps) = true then Oper.wp P o a w K Q else E := by
  have hw : Region.wanted o (yielded ops a.tmps) = true := by simp [Region.wanted, hgd]
  rw [if_pos hw]
  unfold Oper.wp
  rw [hrun, Oper.upon_enter]
  refine hc.mono fun e w'' hh => ?_
  obtain ⟨v, rfl, hk⟩ := h e w'' hh
  show K (a.put o.dst v) w''
  rw [hd]
  exact hk

theorem wrap_small {m : Nat} (h : m < 1024) : wrap64 (m : Int) = (m : Int) := IntWalk.wrap64_in _ ⟨by omega, by omega⟩

/-- A box of three cells is written. -/
def fin3 (X : World) (b : Nat) (v0 v1 v2 : Value) : World := ((X.setCell ⟨b, 0, none⟩ v0).setCell ⟨b, 1, none⟩ v1).setCell ⟨b, 2, none⟩ v2
theorem fin3_cells {X : World} {b : Nat} {x0 x1 x2 : Value} (h0 : X.cell? ⟨b, 0, none⟩ = some x0) (h1 : X.cell? ⟨b, 1, none⟩ = some x1) (h2 : X.cell? ⟨b, 2, none⟩ = some x2) (v0 v1 v2 : Value) : (fin3 X b v0 v1 v2).cell? ⟨b, 0, none⟩ = some v0 ∧ (fin3 X b v0 v1 v2).cell? ⟨b, 1, none⟩ = some v1 ∧ (fin3 X b v0 v1 v2).cell? ⟨b, 2, none⟩ = some v2 := by
  have ne : ∀ (Y : World) (i j : Nat) (v : Value), i ≠ j → (Y.setCell ⟨b, i, none⟩ v).cell? ⟨b, j, none⟩ = Y.cell? ⟨b, j, none⟩ := fun Y i j v hij => World.cell?_setCell_other _ _ _ _ (by intro e; injection e with _ e; exact hij e)
  unfold fin3
  refine ⟨?_, ?_, ?_⟩
  · rw [ne _ 2 0 _ (by omega), ne _ 1 0 _ (by omega)]
    exact World.cell?_setCell_same _ _ _ (by rw [h0])
  · rw [ne _ 2 1 _ (by omega)]
    exact World.cell?_setCell_same _ _ _ (by rw [ne _ 0 1 _ (by omega), h1])
  · exact World.cell?_setCell_same _ _ _ (by rw [ne _ 1 2 _ (by omega), ne _ 0 2 _ (by omega), h2])
theorem fin3_below {w X : World} {b : Nat} (hb : Below w.heap.size w X) (h1 : w.heap.size ≤ b) (v0 v1 v2 : Value) : Below w.heap.size w (fin3 X b v0 v1 v2) := ((hb.setCell (p := ⟨b, 0, none⟩) h1 _).setCell (p := ⟨b, 1, none⟩) h1 _).setCell (p := ⟨b, 2, none⟩) h1 _
theorem fin3_other {X : World} {b k : Nat} (h1 : k ≠ b) (v0 v1 v2 : Value) : (fin3 X b v0 v1 v2).heap[k]? = X.heap[k]? := by
  unfold fin3
  rw [Below.heap_setCell _ _ _ _ h1, Below.heap_setCell _ _ _ _ h1, Below.heap_setCell _ _ _ _ h1]
theorem fin3_size (X : World) (b : Nat) (v0 v1 v2 : Value) : (fin3 X b v0 v1 v2).heap.size = X.heap.size := by
  unfold fin3
  simp [World.setCell]

/-- Behind a call of a model a box of the caller's is written. -/
theorem AftM.fin3 {who who' : Nat → Nat} {w u X : World} {B : Nat} {s : Mo.St} {n b : Nat} (h : AftM who u X B s n who') (hu : Below w.heap.size w u) (h1 : w.heap.size ≤ b) (h2 : b < u.heap.size) (h3 : who b = 0) (v0 v1 v2 : Value) : AftM who w (fin3 X b v0 v1 v2) B s n who' := by
  have hz := h.2.1 b h2 h3
  refine ⟨h.1.carry (by rw [fin3_size]; exact Nat.le_refl _) (fun i hi => fin3_other (fun e => hi (by rw [e]; exact hz)) _ _ _), fun k hk e => h.2.1 k (Nat.lt_of_lt_of_le hk hu.size) e, ?_⟩
  have hk := (KeptW.ofBelow (who := who) hu).trans h.2.2 (fun _ _ e => e)
  exact ((hk.setCell ⟨b, 0, none⟩ (fun q => by have q : b < w.heap.size := q; omega) _).setCell ⟨b, 1, none⟩ (fun q => by have q : b < w.heap.size := q; omega) _).setCell ⟨b, 2, none⟩ (fun q => by have q : b < w.heap.size := q; omega) _

/-- The boxes of a call that is handed an op and answers a reply. -/
structure RxOf (w u : World) (oc : Array Value) : Prop where
  below : Below w.heap.size w u
  size : u.heap.size = w.heap.size + 2
  op : ∀ X, Below u.heap.size u X → ∀ j, X.cell? ⟨w.heap.size, j, none⟩ = oc[j]?
  re : ∀ X, Below u.heap.size u X → X.cell? ⟨w.heap.size + 1, 0, none⟩ = some (.int .i64 0) ∧ X.cell? ⟨w.heap.size + 1, 1, none⟩ = some (.int .i64 0) ∧ X.cell? ⟨w.heap.size + 1, 2, none⟩ = some (.slice none 0 0) ∧ X.frozen? ⟨w.heap.size + 1, 0, none⟩ = false ∧ X.frozen? ⟨w.heap.size + 1, 1, none⟩ = false ∧ X.frozen? ⟨w.heap.size + 1, 2, none⟩ = false

theorem RxOf.of (w : World) (oc : Array Value) {T T' : TypeId} {u0 u : World} (h0 : u0 = w.alloc (.cells oc T)) (h1 : u = u0.alloc (.cells #[.int .i64 0, .int .i64 0, .slice none 0 0] T')) : RxOf w u oc := by
  have b0 : Below w.heap.size w u0 := by rw [h0]; exact below_alloc _ _
  have b1 : Below u0.heap.size u0 u := by rw [h1]; exact below_alloc _ _
  have s0 : u0.heap.size = w.heap.size + 1 := by rw [h0]; simp
  have s1 : u.heap.size = w.heap.size + 2 := by rw [h1]; simp [s0]
  refine ⟨b0.trans (b1.mono b0.size), s1, fun X hX j => ?_, fun X hX => ?_⟩
  · rw [hX.cell (p := ⟨w.heap.size, j, none⟩) (show w.heap.size < u.heap.size by omega), b1.cell (p := ⟨w.heap.size, j, none⟩) (show w.heap.size < u0.heap.size by omega), h0]
    exact World.cell?_alloc_mark w _ _ _ j
  · have c : ∀ j, X.cell? ⟨w.heap.size + 1, j, none⟩ = (#[.int .i64 0, .int .i64 0, .slice none 0 0] : Array Value)[j]? := fun j => by
      rw [hX.cell (p := ⟨w.heap.size + 1, j, none⟩) (show w.heap.size + 1 < u.heap.size by omega), h1, ← s0]
      exact World.cell?_alloc_mark u0 _ _ _ j
    have f : ∀ j, X.frozen? ⟨w.heap.size + 1, j, none⟩ = false := fun j => by
      rw [hX.frozen (p := ⟨w.heap.size + 1, j, none⟩) (show w.heap.size + 1 < u.heap.size by omega), h1, ← s0, World.frozen?_alloc_mark]
      simp
    exact ⟨c 0, c 1, c 2, f 0, f 1, f 2⟩

section
variable {w W : World} {B : Nat} {s : Mo.St} {who : Nat → Nat} {n bc bo : Nat} {f : ByteArray → ByteArray → Option Nat} {cs : Nat → Mo.Ch}

theorem ChV.below {k bm : Nat} {c : Mo.Ch} {v : Value} (hc : ChV w k c n bm v) (w4 : who k = 4) (wm : who bm = 10 + 2 * k) (wr : ∀ g, cBlk v = some g → who g = 11 + 2 * k) (hh : ∀ i, who i ≠ 0 → i < w.heap.size) (hX : Below w.heap.size w W) : ChV W k c n bm v :=
  hc.carry (hX.block k (hh k (by rw [w4]; decide))) (hX.block bm (hh bm (by rw [wm]; omega))) (fun g hg => hX.block g (hh g (by rw [wr g hg]; omega)))

set_option maxHeartbeats 800000 in
theorem mayPost_c (h : MdV w B s who n bc bo f cs) {k bm : Nat} {v : Value} {c : Mo.Ch} (hc : ChV w k c n bm v) (w4 : who k = 4) (wm : who bm = 10 + 2 * k) (wr : ∀ g, cBlk v = some g → who g = 11 + 2 * k) {a : ByteArray} (ha : Ok a) :
    Calls Try.prog 55 #[.pointer (some ⟨B, 0, none⟩), .pointer (some ⟨k, 0, none⟩), .string a] w fun e w' => e = .returned (.int .i64 (Mo.mayPost s c a)) ∧ Below w.heap.size w w' := by
  have HO : Hid _ := isOff_c h ha
  have HM : Hid (∀ X, Below w.heap.size w X → Calls Try.prog 53 #[.pointer (some ⟨k, 0, none⟩), .string a] X fun e w' => e = .returned (.bool (c.mem a)) ∧ Below X.heap.size X w') := fun X hX => isMember_c (hc.below w4 wm wr h.here hX) ha
  obtain ⟨p, cap, hv, hc1, hc2⟩ := hc.row.form
  obtain ⟨m, hm⟩ : ∃ m, m = c.posts.length := ⟨_, rfl⟩
  have hfew := hc.few
  rw [← hm] at hv hc1 hfew
  have HP : Hid (∀ X, Below w.heap.size w X → X.cell? ⟨k, 1, none⟩ = some (.slice p m cap)) := fun X hX => by
    have := (hc.below w4 wm wr h.here hX).c1
    rw [hv] at this
    exact this
  have HE : Hid (Mo.mayPost s c a = if s.off a = true then 92 else if c.mem a = false then 91 else if 1024 ≤ m then 2 else 0) := by rw [hm]; show _ = _; rfl
  clear h hc w4 wm wr ha hv hm hc1 hc2
  cases hq : s.off a with
  | true =>
    rw [hq] at HO HE
    clear hq
    go_enter Try.func55, Try.ntmps55
    go_wp2_with fail
    refine Calls.mono HO.out ?_
    rintro e w1 ⟨rfl, hb1⟩
    have HB1 : Hid _ := hb1
    clear hb1
    go_wp2
    go_ret
    exact ⟨by rw [HE.out]; rfl, HB1.out⟩
  | false =>
    rw [hq] at HO HE
    clear hq
    cases hq : c.mem a with
    | false =>
      rw [hq] at HM HE
      clear hq
      go_enter Try.func55, Try.ntmps55
      go_wp2_with fail
      refine Calls.mono HO.out ?_
      rintro e w1 ⟨rfl, hb1⟩
      have HB1 : Hid _ := hb1
      clear hb1
      go_wp2_with fail
      refine (HM.out _ HB1.out).mono ?_
      rintro e w2 ⟨rfl, hb2⟩
      have HB2 : Hid (Below w.heap.size w w2) := HB1.out.trans (hb2.mono HB1.out.size)
      clear hb2
      go_wp2
      go_ret
      exact ⟨by rw [HE.out]; rfl, HB2.out⟩
    | true =>
      rw [hq] at HM HE
      clear hq
      by_cases hq : 1024 ≤ m
      · have hq' : (decide ((1024 : Int) ≤ (m : Int))) = true := by simp; omega
        have HE' : Hid (Mo.mayPost s c a = 2) := by rw [HE.out, if_neg (by decide), if_neg (by decide), if_pos hq]; show _ = _; rfl
        clear HE hq hfew
        go_enter Try.func55, Try.ntmps55
        go_wp2_with fail
        refine Calls.mono HO.out ?_
        rintro e w1 ⟨rfl, hb1⟩
        have HB1 : Hid _ := hb1
        clear hb1
        go_wp2_with fail
        refine (HM.out _ HB1.out).mono ?_
        rintro e w2 ⟨rfl, hb2⟩
        have HB2 : Hid (Below w.heap.size w w2) := HB1.out.trans (hb2.mono HB1.out.size)
        have hp := HP.out w2 HB2.out
        clear hb2
        go_wp2
        go_ret
        exact ⟨by rw [HE'.out]; rfl, HB2.out⟩
      · have hq' : (decide ((1024 : Int) ≤ (m : Int))) = false := by simp; omega
        have HE' : Hid (Mo.mayPost s c a = 0) := by rw [HE.out, if_neg (by decide), if_neg (by decide), if_neg hq]; show _ = _; rfl
        clear HE hq hfew
        go_enter Try.func55, Try.ntmps55
        go_wp2_with fail
        refine Calls.mono HO.out ?_
        rintro e w1 ⟨rfl, hb1⟩
        have HB1 : Hid _ := hb1
        clear hb1
        go_wp2_with fail
        refine (HM.out _ HB1.out).mono ?_
        rintro e w2 ⟨rfl, hb2⟩
        have HB2 : Hid (Below w.heap.size w w2) := HB1.out.trans (hb2.mono HB1.out.size)
        have hp := HP.out w2 HB2.out
        clear hb2
        go_wp2
        go_ret
        exact ⟨by rw [HE'.out]; rfl, HB2.out⟩

set_option maxHeartbeats 1600000 in
set_option maxRecDepth 20000 in
theorem post_none (h : MdV w B s who n bc bo f cs) (o : Mo.Op) (ho : OpOk o) (hf : f o.space o.channel = none) :
    Calls Try.prog 28 #[.pointer (some ⟨B, 0, none⟩), .agg #[.int .i64 o.kind, .string o.space, .string o.channel, .string o.user, .string o.text, .string o.toSpace, .string o.to, .int .i64 o.frm, .int .i64 o.most]] w fun e w' => e = .returned (.agg #[.int .i64 3, .int .i64 0, .slice none 0 0]) ∧ Below w.heap.size w w' := by
  obtain ⟨u0, hu0⟩ : ∃ u0, u0 = w.alloc (.cells #[.int .i64 o.kind, .string o.space, .string o.channel, .string o.user, .string o.text, .string o.toSpace, .string o.to, .int .i64 o.frm, .int .i64 o.most] 32) := ⟨_, rfl⟩
  obtain ⟨u, hu⟩ : ∃ u, u = u0.alloc (.cells #[.int .i64 0, .int .i64 0, .slice none 0 0] 29) := ⟨_, rfl⟩
  have hR := RxOf.of w #[.int .i64 o.kind, .string o.space, .string o.channel, .string o.user, .string o.text, .string o.toSpace, .string o.to, .int .i64 o.frm, .int .i64 o.most] hu0 hu
  have hbu := hR.below
  have hV := h.below hbu
  have HR : Hid (RxOf w u #[.int .i64 o.kind, .string o.space, .string o.channel, .string o.user, .string o.text, .string o.toSpace, .string o.to, .int .i64 o.frm, .int .i64 o.most]) := hR
  have HBx : Hid (∀ X, Below u.heap.size u X → X.cell? ⟨w.heap.size, 1, none⟩ = some (.string o.space) ∧ X.cell? ⟨w.heap.size, 2, none⟩ = some (.string o.channel) ∧ X.cell? ⟨w.heap.size, 3, none⟩ = some (.string o.user) ∧ X.cell? ⟨w.heap.size, 4, none⟩ = some (.string o.text) ∧ X.cell? ⟨w.heap.size, 7, none⟩ = some (.int .i64 o.frm) ∧ X.cell? ⟨w.heap.size, 8, none⟩ = some (.int .i64 o.most)) := fun X hX =>
    ⟨hR.op X hX 1, hR.op X hX 2, hR.op X hX 3, hR.op X hX 4, hR.op X hX 7, hR.op X hX 8⟩
  have HFi : Hid _ := find_none hV ho.1 ho.2.1 hf
  obtain ⟨u1, u2, u3, u4, u7, u8⟩ := HBx.out u (Below.refl _ _)
  clear h hV ho hf hbu hR
  go_enter Try.func28, Try.ntmps28
  go_wp2_with fail
  rw [← hu0, ← hu]
  refine Calls.mono HFi.out ?_
  rintro e w1 ⟨rfl, hw1⟩
  have hw1 := hw1.symm
  subst hw1
  clear hu hu0
  obtain ⟨r0, r1, r2, g0, g1, g2⟩ := HR.out.re u (Below.refl u.heap.size u)
  go_wp2
  obtain ⟨x0, x1, x2⟩ := fin3_cells r0 r1 r2 (.int .i64 3) (.int .i64 0) (.slice none 0 0)
  have HF : Hid (Below w.heap.size w (fin3 u (w.heap.size + 1) (.int .i64 3) (.int .i64 0) (.slice none 0 0))) := fin3_below (HR.out.below.trans ((Below.refl u.heap.size u).mono HR.out.below.size)) (Nat.le_succ _) _ _ _
  obtain ⟨Fw, hFw⟩ : ∃ Fw, Fw = fin3 u (w.heap.size + 1) (.int .i64 3) (.int .i64 0) (.slice none 0 0) := ⟨_, rfl⟩
  rw [← hFw] at x0 x1 x2 HF
  unfold fin3 at hFw
  rw [← hFw]
  clear hFw
  refine bodyPost_ret (v := .agg #[.int .i64 3, .int .i64 0, .slice none 0 0]) ?qres rfl ?qpost
  case qres => simp [results, Try.results28, go_sem, x0, x1, x2]
  case qpost => exact ⟨rfl, HF.out⟩

set_option maxHeartbeats 1600000 in
set_option maxRecDepth 20000 in
theorem post_no (h : MdV w B s who n bc bo f cs) (o : Mo.Op) (ho : OpOk o) {k : Nat} {er : Int} (hf : f o.space o.channel = some k) (he : Mo.mayPost s (cs k) o.user = er) (hne : er ≠ 0) :
    Calls Try.prog 28 #[.pointer (some ⟨B, 0, none⟩), .agg #[.int .i64 o.kind, .string o.space, .string o.channel, .string o.user, .string o.text, .string o.toSpace, .string o.to, .int .i64 o.frm, .int .i64 o.most]] w fun e w' => e = .returned (.agg #[.int .i64 er, .int .i64 0, .slice none 0 0]) ∧ Below w.heap.size w w' := by
  obtain ⟨u0, hu0⟩ : ∃ u0, u0 = w.alloc (.cells #[.int .i64 o.kind, .string o.space, .string o.channel, .string o.user, .string o.text, .string o.toSpace, .string o.to, .int .i64 o.frm, .int .i64 o.most] 32) := ⟨_, rfl⟩
  obtain ⟨u, hu⟩ : ∃ u, u = u0.alloc (.cells #[.int .i64 0, .int .i64 0, .slice none 0 0] 29) := ⟨_, rfl⟩
  have hR := RxOf.of w #[.int .i64 o.kind, .string o.space, .string o.channel, .string o.user, .string o.text, .string o.toSpace, .string o.to, .int .i64 o.frm, .int .i64 o.most] hu0 hu
  have hbu := hR.below
  have hV := h.below hbu
  have HR : Hid (RxOf w u #[.int .i64 o.kind, .string o.space, .string o.channel, .string o.user, .string o.text, .string o.toSpace, .string o.to, .int .i64 o.frm, .int .i64 o.most]) := hR
  have HBx : Hid (∀ X, Below u.heap.size u X → X.cell? ⟨w.heap.size, 1, none⟩ = some (.string o.space) ∧ X.cell? ⟨w.heap.size, 2, none⟩ = some (.string o.channel) ∧ X.cell? ⟨w.heap.size, 3, none⟩ = some (.string o.user) ∧ X.cell? ⟨w.heap.size, 4, none⟩ = some (.string o.text) ∧ X.cell? ⟨w.heap.size, 7, none⟩ = some (.int .i64 o.frm) ∧ X.cell? ⟨w.heap.size, 8, none⟩ = some (.int .i64 o.most)) := fun X hX =>
    ⟨hR.op X hX 1, hR.op X hX 2, hR.op X hX 3, hR.op X hX 4, hR.op X hX 7, hR.op X hX 8⟩
  have HFi : Hid _ := find_some hV ho.1 ho.2.1 hf
  obtain ⟨bm, v, hc, w4, wm, wr⟩ := hV.one _ _ k hf
  have HMp : Hid _ := mayPost_c hV hc w4 wm wr ho.2.2.1
  rw [he] at HMp
  have hne' : (er == 0) = false := by simpa using hne
  obtain ⟨u1, u2, u3, u4, u7, u8⟩ := HBx.out u (Below.refl _ _)
  clear h hV ho hf he hne hc w4 wm wr hbu hR
  go_enter Try.func28, Try.ntmps28
  go_wp2_with fail
  rw [← hu0, ← hu]
  refine Calls.mono HFi.out ?_
  rintro e w1 ⟨rfl, hw1⟩
  have hw1 := hw1.symm
  subst hw1
  clear hu hu0
  go_wp2_with fail
  refine Calls.mono HMp.out ?_
  rintro e w2 ⟨rfl, hb2⟩
  have HB2 : Hid (Below u.heap.size u w2) := hb2
  clear hb2 u1 u2 u3 u4 u7 u8
  obtain ⟨r0, r1, r2, g0, g1, g2⟩ := HR.out.re w2 HB2.out
  go_wp2
  obtain ⟨x0, x1, x2⟩ := fin3_cells r0 r1 r2 (.int .i64 er) (.int .i64 0) (.slice none 0 0)
  have HF : Hid (Below w.heap.size w (fin3 w2 (w.heap.size + 1) (.int .i64 er) (.int .i64 0) (.slice none 0 0))) := fin3_below (HR.out.below.trans (HB2.out.mono HR.out.below.size)) (Nat.le_succ _) _ _ _
  obtain ⟨Fw, hFw⟩ : ∃ Fw, Fw = fin3 w2 (w.heap.size + 1) (.int .i64 er) (.int .i64 0) (.slice none 0 0) := ⟨_, rfl⟩
  rw [← hFw] at x0 x1 x2 HF
  unfold fin3 at hFw
  rw [← hFw]
  clear hFw
  refine bodyPost_ret (v := .agg #[.int .i64 er, .int .i64 0, .slice none 0 0]) ?qres rfl ?qpost
  case qres => simp [results, Try.results28, go_sem, x0, x1, x2]
  case qpost => exact ⟨rfl, HF.out⟩

set_option maxHeartbeats 1600000 in
set_option maxRecDepth 20000 in
theorem post_yes (h : MdV w B s who n bc bo f cs) (o : Mo.Op) (ho : OpOk o) {k : Nat} (hsz1 : o.user.size ≤ 1024) (hsz2 : o.text.size ≤ 1024) (hf : f o.space o.channel = some k) (he : Mo.mayPost s (cs k) o.user = 0) (hlt : (cs k).posts.length < 1024) :
    Calls Try.prog 28 #[.pointer (some ⟨B, 0, none⟩), .agg #[.int .i64 o.kind, .string o.space, .string o.channel, .string o.user, .string o.text, .string o.toSpace, .string o.to, .int .i64 o.frm, .int .i64 o.most]] w fun e w' => e = .returned (.agg #[.int .i64 0, .int .i64 ((cs k).posts.length : Int), .slice none 0 0]) ∧ ∃ who', AftM who w w' B (Mo.setC s o.space o.channel (some (Mo.withP (cs k) ⟨o.user, o.text⟩))) (n + 1) who' := by
  obtain ⟨u0, hu0⟩ : ∃ u0, u0 = w.alloc (.cells #[.int .i64 o.kind, .string o.space, .string o.channel, .string o.user, .string o.text, .string o.toSpace, .string o.to, .int .i64 o.frm, .int .i64 o.most] 32) := ⟨_, rfl⟩
  obtain ⟨u, hu⟩ : ∃ u, u = u0.alloc (.cells #[.int .i64 0, .int .i64 0, .slice none 0 0] 29) := ⟨_, rfl⟩
  have hR := RxOf.of w #[.int .i64 o.kind, .string o.space, .string o.channel, .string o.user, .string o.text, .string o.toSpace, .string o.to, .int .i64 o.frm, .int .i64 o.most] hu0 hu
  have hbu := hR.below
  have hV := h.below hbu
  have HR : Hid (RxOf w u #[.int .i64 o.kind, .string o.space, .string o.channel, .string o.user, .string o.text, .string o.toSpace, .string o.to, .int .i64 o.frm, .int .i64 o.most]) := hR
  have HBx : Hid (∀ X, Below u.heap.size u X → X.cell? ⟨w.heap.size, 1, none⟩ = some (.string o.space) ∧ X.cell? ⟨w.heap.size, 2, none⟩ = some (.string o.channel) ∧ X.cell? ⟨w.heap.size, 3, none⟩ = some (.string o.user) ∧ X.cell? ⟨w.heap.size, 4, none⟩ = some (.string o.text) ∧ X.cell? ⟨w.heap.size, 7, none⟩ = some (.int .i64 o.frm) ∧ X.cell? ⟨w.heap.size, 8, none⟩ = some (.int .i64 o.most)) := fun X hX =>
    ⟨hR.op X hX 1, hR.op X hX 2, hR.op X hX 3, hR.op X hX 4, hR.op X hX 7, hR.op X hX 8⟩
  have HFi : Hid _ := find_some hV ho.1 ho.2.1 hf
  obtain ⟨bm, v, hc, w4, wm, wr⟩ := hV.one _ _ k hf
  have HMp : Hid _ := mayPost_c hV hc w4 wm wr ho.2.2.1
  rw [he] at HMp
  obtain ⟨p, cap, hv, hc1, hc2⟩ := hc.row.form
  obtain ⟨m, hm⟩ : ∃ m, m = (cs k).posts.length := ⟨_, rfl⟩
  rw [← hm] at hv hc1 hlt
  have HM : Hid ((((cs k).posts.length : Nat) : Int) = (m : Int)) := by rw [← hm]; show _ = _; rfl
  have hkl : k < w.heap.size := h.here k (by rw [w4]; decide)
  have hR2 := hR.size
  have HS : Hid (∀ X, Below u.heap.size u X → X.cell? ⟨w.heap.size, 3, none⟩ = some (.string o.user) ∧ X.cell? ⟨w.heap.size, 4, none⟩ = some (.string o.text)) := fun X hX => ⟨hR.op X hX 3, hR.op X hX 4⟩
  have HP1 : Hid (∀ X, Below u.heap.size u X → X.cell? ⟨k, 1, none⟩ = some (.slice p m cap)) := fun X hX => by
    have := (hc.below w4 wm wr hV.here hX).c1
    rw [hv] at this
    exact this
  have HRow : Hid (∀ X, Below u.heap.size u X → RowC X 2 (.slice p m cap) m (poCells (cs k).posts)) := fun X hX => by
    have := (hc.below w4 wm wr hV.here hX).row
    rw [hv, ← hm] at this
    exact this
  have HWm : Hid (wrap64 (m : Int) = (m : Int)) := wrap_small hlt
  have hL1 : Hid ((m + 1) * 32 ≤ 140737488355328) := by show _ ≤ _; omega
  have hL2 : Hid (m + 1 ≤ maxLen) := by unfold maxLen; show _ ≤ _; omega
  have HEnd : Hid (∀ X w4 v', Below u.heap.size u X → RowC w4 2 v' (m + 1) (poCells (cs k).posts ++ [.string o.user, .string o.text]) → X.grownBy w4 (cBlk (.slice p m cap)) → (∀ g, cBlk v' = some g → cBlk (.slice p m cap) = some g ∨ X.heap.size ≤ g) →
      ∃ p' c', v' = .slice p' (m + 1) c' ∧ (w4.cell? ⟨w.heap.size, 3, none⟩ = some (.string o.user) ∧ w4.cell? ⟨w.heap.size, 4, none⟩ = some (.string o.text)) ∧ ((w4.setCell ⟨k, 1, none⟩ v').cell? ⟨w.heap.size, 3, none⟩ = some (.string o.user) ∧ (w4.setCell ⟨k, 1, none⟩ v').cell? ⟨w.heap.size, 4, none⟩ = some (.string o.text)) ∧ w4.cell? ⟨k, 1, none⟩ = some (.slice p m cap) ∧ w4.frozen? ⟨k, 1, none⟩ = false ∧
        ∀ Z, Z = w4.setCell ⟨k, 1, none⟩ v' → Z.cell? ⟨k, 1, none⟩ = some v' ∧ (Z.cell? ⟨w.heap.size + 1, 0, none⟩ = some (.int .i64 0) ∧ Z.cell? ⟨w.heap.size + 1, 1, none⟩ = some (.int .i64 0) ∧ Z.cell? ⟨w.heap.size + 1, 2, none⟩ = some (.slice none 0 0) ∧ Z.frozen? ⟨w.heap.size + 1, 0, none⟩ = false ∧ Z.frozen? ⟨w.heap.size + 1, 1, none⟩ = false ∧ Z.frozen? ⟨w.heap.size + 1, 2, none⟩ = false) ∧ Hid (∃ who', AftM who w (fin3 Z (w.heap.size + 1) (.int .i64 0) (.int .i64 (m : Int)) (.slice none 0 0)) B (Mo.setC s o.space o.channel (some (Mo.withP (cs k) ⟨o.user, o.text⟩))) (n + 1) who')) := by
    intro X w5 v' hX a1 a2 a3
    obtain ⟨p', c', hv', _⟩ := a1.form
    have hVX := hV.below hX
    have hcX := hc.below w4 wm wr hV.here hX
    have hXs := hX.size
    have hbo : ∀ i, i < X.heap.size → who i ≠ 11 + 2 * k → w5.heap[i]? = X.heap[i]? := fun i hi hw => a2.block i hi (fun e => hw (wr i (by rw [hv]; exact e.symm)))
    have z0 : ∀ i, w.heap.size ≤ i → who i = 0 := fun i hi => by
      by_cases e : who i = 0
      · exact e
      · have := h.here i e
        omega
    have ex : w5.heap[w.heap.size]? = X.heap[w.heap.size]? := hbo _ (by omega) (by rw [z0 _ (Nat.le_refl _)]; omega)
    have er : w5.heap[w.heap.size + 1]? = X.heap[w.heap.size + 1]? := hbo _ (by omega) (by rw [z0 _ (Nat.le_succ _)]; omega)
    have ek : w5.heap[k]? = X.heap[k]? := hbo k (by omega) (by rw [w4]; omega)
    have y1 : w5.cell? ⟨k, 1, none⟩ = some (.slice p m cap) := (World.cell?_of_block (a := ⟨k, 1, none⟩) ek).trans (HP1.out X hX)
    obtain ⟨s3, s4⟩ := HS.out X hX
    have nw : w.heap.size ≠ k := by omega
    have nr : w.heap.size + 1 ≠ k := by omega
    have ex' : (w5.setCell ⟨k, 1, none⟩ v').heap[w.heap.size]? = X.heap[w.heap.size]? := (Below.heap_setCell _ _ _ _ nw).trans ex
    have er' : (w5.setCell ⟨k, 1, none⟩ v').heap[w.heap.size + 1]? = X.heap[w.heap.size + 1]? := (Below.heap_setCell _ _ _ _ nr).trans er
    refine ⟨p', c', hv', ⟨(World.cell?_of_block (a := ⟨w.heap.size, 3, none⟩) ex).trans s3, (World.cell?_of_block (a := ⟨w.heap.size, 4, none⟩) ex).trans s4⟩, ⟨(World.cell?_of_block (a := ⟨w.heap.size, 3, none⟩) ex').trans s3, (World.cell?_of_block (a := ⟨w.heap.size, 4, none⟩) ex').trans s4⟩, y1, (World.frozen?_of_block (a := ⟨k, 1, none⟩) ek).trans (hcX.fz 1), ?_⟩
    intro Z hZ
    have cz : ∀ j, Z.cell? ⟨w.heap.size + 1, j, none⟩ = X.cell? ⟨w.heap.size + 1, j, none⟩ := fun j => by rw [hZ]; exact World.cell?_of_block (a := ⟨w.heap.size + 1, j, none⟩) er'
    have fz : ∀ j, Z.frozen? ⟨w.heap.size + 1, j, none⟩ = X.frozen? ⟨w.heap.size + 1, j, none⟩ := fun j => by rw [hZ]; exact World.frozen?_of_block (a := ⟨w.heap.size + 1, j, none⟩) er'
    obtain ⟨t0, t1, t2, t3, t4, t5⟩ := hR.re X hX
    have hz1 : Z.cell? ⟨k, 1, none⟩ = some v' := by rw [hZ]; exact World.cell?_setCell_same _ _ _ (by rw [y1])
    refine ⟨hz1, ⟨(cz 0).trans t0, (cz 1).trans t1, (cz 2).trans t2, (fz 0).trans t3, (fz 1).trans t4, (fz 2).trans t5⟩, ?_⟩
    have zs : Z.heap.size = w5.heap.size := by rw [hZ]; simp [World.setCell]
    have bz : ∀ i, i ≠ k → Z.heap[i]? = w5.heap[i]? := fun i hi => by rw [hZ]; exact Below.heap_setCell _ _ _ _ hi
    have hg5 := a2.size
    obtain ⟨who', hwho⟩ : ∃ who' : Nat → Nat, who' = fun i => if cBlk v' = some i then 11 + 2 * k else who i := ⟨_, rfl⟩
    have hnk : ∀ i, cBlk v' = some i → i ≠ k ∧ (who i = 11 + 2 * k ∨ X.heap.size ≤ i) := fun i hi => by
      rcases a3 i hi with q | q
      · have q' := wr i (by rw [hv]; exact q)
        exact ⟨fun e => by rw [e, w4] at q'; omega, .inl q'⟩
      · exact ⟨by omega, .inr q⟩
    have e1 : ∀ i, who i ≠ 0 → who' i = who i := fun i hi => by
      rw [hwho]
      dsimp only
      split
      · rename_i q
        rcases (hnk i q).2 with r | r
        · exact r.symm
        · have := hVX.here i hi
          omega
      · rfl
    have hch : ChW Z who' k (Mo.withP (cs k) ⟨o.user, o.text⟩) (n + 1) := by
      refine ⟨bm, v', ⟨?_, hz1, fun j => ?_, ?_, ?_, ?_⟩, by rw [e1 k (by rw [w4]; decide)]; exact w4, by rw [e1 bm (by rw [wm]; omega)]; exact wm, fun g hg => by rw [hwho]; dsimp only; rw [if_pos hg]⟩
      · rw [hZ, World.cell?_setCell_other _ _ _ _ (by intro e; injection e with _ e; cases e)]
        exact (World.cell?_of_block (a := ⟨k, 0, none⟩) ek).trans hcX.c0
      · rw [hZ, World.frozen?_setCell]
        exact (World.frozen?_of_block (a := ⟨k, j, none⟩) ek).trans (hcX.fz j)
      · exact (hcX.mem.mono (Nat.le_succ _)).carry ((bz bm (fun e => by rw [e, w4] at wm; omega)).trans (hbo bm (hVX.here bm (by rw [wm]; omega)) (by rw [wm]; omega)))
      · have hl : (Mo.withP (cs k) ⟨o.user, o.text⟩).posts.length = m + 1 := by unfold Mo.withP; simp [← hm]
        rw [hl]
        unfold Mo.withP
        dsimp only
        rw [poCells_snoc]
        exact a1.carry (fun g hg => bz g (hnk g hg).1)
      · unfold Mo.withP
        simp
        omega
    have hM : MdV Z B (Mo.setC s o.space o.channel (some (Mo.withP (cs k) ⟨o.user, o.text⟩))) who' (n + 1) bc bo f _ := hVX.upd (Nat.le_succ _) hf (fun i hi h1 h2 h3 => (bz i h1).trans (hbo i (hVX.here i hi) h3)) hch e1 (fun i hi => by
      rw [zs]
      rw [hwho] at hi
      dsimp only at hi
      by_cases q : cBlk v' = some i
      · exact RowC.lt a1 (by omega) q
      · rw [if_neg q] at hi
        have := hVX.here i hi
        omega)
    refine ⟨who', AftM.fin3 (u := u) ⟨⟨bc, bo, f, _, hM⟩, fun i hi e => ?_, ?_⟩ hbu (Nat.le_succ _) (by omega) (z0 _ (Nat.le_succ _)) _ _ _⟩
    · rw [hwho]
      dsimp only
      split
      · rename_i q
        rcases (hnk i q).2 with r | r
        · rw [e] at r; omega
        · omega
      · exact e
    · have k1 : KeptW who u w5 := (KeptW.ofBelow hX).grown a2 (fun g hg _ => by rw [wr g (by rw [hv]; exact hg)]; omega)
      rw [hZ]
      exact k1.setCell ⟨k, 1, none⟩ (fun _ => by show who k ≠ 0; rw [w4]; decide) _
  have HC1 : Hid (∀ X, Calls Try.prog 54 #[.string o.user] X fun e w' => e = .returned (.string o.user) ∧ Below X.heap.size X w') := fun X => Clone_any _ X (by omega)
  have HC2 : Hid (∀ X, Calls Try.prog 54 #[.string o.text] X fun e w' => e = .returned (.string o.text) ∧ Below X.heap.size X w') := fun X => Clone_any _ X (by omega)
  have HSl : Hid (∀ X Y : World, Y = X.alloc (.cells #[.string o.user, .string o.text] 35) → Src Try.prog 2 27 (.slice (some ⟨X.heap.size, 0, none⟩) 1 1) 1 [.string o.user, .string o.text] Y) := fun X Y hY => by
    refine Src.ofSlice Y Try.underlying27 _ _ _ _ rfl (fun j u hu => ?_) (fun u hu => by simp at hu; rcases hu with rfl | rfl <;> rfl)
    rw [Addr.add_lit, Nat.zero_add, hY, World.cell?_alloc_mark]
    simpa using hu
  obtain ⟨u1, u2, u3, u4, u7, u8⟩ := HBx.out u (Below.refl _ _)
  clear h hV ho hf he hsz1 hsz2 hlt hc w4 wm wr hbu hR hkl hR2 hv hm hc1 hc2
  go_enter Try.func28, Try.ntmps28
  go_wp2_with fail
  rw [← hu0, ← hu]
  refine Calls.mono HFi.out ?_
  rintro e w1 ⟨rfl, hw1⟩
  have hw1 := hw1.symm
  subst hw1
  clear hu hu0
  go_wp2_with fail
  refine Calls.mono HMp.out ?_
  rintro e w2 ⟨rfl, hb2⟩
  have HB2 : Hid (Below u.heap.size u w2) := hb2
  clear hb2 u1 u2 u3 u4 u7 u8
  have HB3 : Hid (Below u.heap.size u w2.drew) := HB2.out.drew
  go_wp2
  refine wp_region_held_drew (S := fun X => X.cell? ⟨w.heap.size, 3, none⟩ = some (.string o.user) ∧ X.cell? ⟨w.heap.size, 4, none⟩ = some (.string o.text)) (by kernel_rfl) (HS.out _ HB3.out) (fun hHeld => ?_)
  refine take7 (i := 0) (d := 27) (v := .pointer (some ⟨k, 0, none⟩)) rfl rfl (by kernel_rfl) (by kernel_rfl) (by kernel_rfl) (fun _ _ _ h => h) (Or.inl ⟨by rfl, ?_⟩) (by assumption) ?_
  · intro X hSw
    go_simp
  simp only [Act.put, List.setIfInBounds_toArray, List.set_cons_zero, List.set_cons_succ]
  refine take7 (i := 1) (d := 28) (v := .pointer (some ⟨k, 0, none⟩)) rfl rfl (by kernel_rfl) (by kernel_rfl) (by kernel_rfl) (fun _ _ _ h => h) (Or.inl ⟨by rfl, ?_⟩) (by assumption) ?_
  · intro X hSw
    go_simp
  simp only [Act.put, List.setIfInBounds_toArray, List.set_cons_zero, List.set_cons_succ]
  refine take7 (i := 2) (d := 29) (v := .pointer (some ⟨k, 0, none⟩)) rfl rfl (by kernel_rfl) (by kernel_rfl) (by kernel_rfl) (fun _ _ _ h => h) (Or.inl ⟨by rfl, ?_⟩) (by assumption) ?_
  · intro X hSw
    go_simp
  simp only [Act.put, List.setIfInBounds_toArray, List.set_cons_zero, List.set_cons_succ]
  refine take7 (i := 3) (d := 30) (v := .pointer (some ⟨k, 1, none⟩)) rfl rfl (by kernel_rfl) (by kernel_rfl) (by kernel_rfl) (fun _ _ _ h => h) (Or.inl ⟨by rfl, ?_⟩) (by assumption) ?_
  · intro X hSw
    go_simp
  simp only [Act.put, List.setIfInBounds_toArray, List.set_cons_zero, List.set_cons_succ]
  refine take7 (i := 5) (d := 32) (v := .pointer (some ⟨w.heap.size, 3, none⟩)) rfl rfl (by kernel_rfl) (by kernel_rfl) (by kernel_rfl) (fun _ _ _ h => h) (Or.inl ⟨by rfl, ?_⟩) (by assumption) ?_
  · intro X hSw
    go_simp
  simp only [Act.put, List.setIfInBounds_toArray, List.set_cons_zero, List.set_cons_succ]
  refine take7 (i := 6) (d := 33) (v := .string o.user) rfl rfl (by kernel_rfl) (by kernel_rfl) (by kernel_rfl) (fun _ _ _ h => h) (Or.inl ⟨by rfl, ?_⟩) (by assumption) ?_
  · intro X hSw
    go_simp
  simp only [Act.put, List.setIfInBounds_toArray, List.set_cons_zero, List.set_cons_succ]
  refine take7 (i := 8) (d := 35) (v := .pointer (some ⟨w.heap.size, 4, none⟩)) rfl rfl (by kernel_rfl) (by kernel_rfl) (by kernel_rfl) (fun _ _ _ h => h) (Or.inl ⟨by rfl, ?_⟩) (by assumption) ?_
  · intro X hSw
    go_simp
  simp only [Act.put, List.setIfInBounds_toArray, List.set_cons_zero, List.set_cons_succ]
  refine take7 (i := 9) (d := 36) (v := .string o.text) rfl rfl (by kernel_rfl) (by kernel_rfl) (by kernel_rfl) (fun _ _ _ h => h) (Or.inl ⟨by rfl, ?_⟩) (by assumption) ?_
  · intro X hSw
    go_simp
  simp only [Act.put, List.setIfInBounds_toArray, List.set_cons_zero, List.set_cons_succ]
  obtain ⟨X0, hX0⟩ : ∃ X0, X0 = w2.drew := ⟨_, rfl⟩
  have h0 : Below u.heap.size u X0 := by rw [hX0]; exact HB3.out
  rw [← hX0] at hHeld ⊢
  clear hX0
  refine wpAnyH_ready (rs := [4, 7]) (by kernel_rfl) (by simp) ?_
  refine AllReadyH.cons rfl (fun K hK => ?_) (AllReadyH.cons rfl (fun K hK => ?_) AllReadyH.nil)
  · have hp := HP1.out X0 h0
    go_simp
    refine hK.out _ _ (HS.out _ h0) (fun hHeld => ?_)
    clear hK K hp
    try simp only [Act.put, List.setIfInBounds_toArray, List.set_cons_zero, List.set_cons_succ]
    refine wpAnyH_ready (rs := [7]) (by kernel_rfl) (by simp) ?_
    refine AllReadyH.cons rfl (fun K hK => ?_) AllReadyH.nil
    refine stepCall 34 rfl rfl 54 #[.string o.user] (by kernel_rfl) (HC1.out _) ?_
    rintro e X1 ⟨rfl, hbX1⟩
    refine ⟨_, rfl, ?_⟩
    have h1 : Below u.heap.size u X1 := h0.trans (hbX1.mono h0.size)
    refine hK.out _ _ (HS.out _ h1) (fun hHeld => ?_)
    clear hK K hbX1
    try simp only [Act.put, List.setIfInBounds_toArray, List.set_cons_zero, List.set_cons_succ]
    refine wpAnyH_ready (rs := [10]) (by kernel_rfl) (by simp) ?_
    refine AllReadyH.cons rfl (fun K hK => ?_) AllReadyH.nil
    refine stepCall 37 rfl rfl 54 #[.string o.text] (by kernel_rfl) (HC2.out _) ?_
    rintro e X2 ⟨rfl, hbX2⟩
    refine ⟨_, rfl, ?_⟩
    have h2 : Below u.heap.size u X2 := h1.trans (hbX2.mono h1.size)
    refine hK.out _ _ (HS.out _ h2) (fun hHeld => ?_)
    clear hK K hbX2
    try simp only [Act.put, List.setIfInBounds_toArray, List.set_cons_zero, List.set_cons_succ]
    refine take7 (i := 11) (d := 38) (v := .agg #[.string o.user, .string o.text]) rfl rfl (by kernel_rfl) (by kernel_rfl) (by kernel_rfl) (fun _ _ _ h => h) (Or.inl ⟨by rfl, ?_⟩) (by assumption) ?_
    · intro X hSw
      go_simp
    simp only [Act.put, List.setIfInBounds_toArray, List.set_cons_zero, List.set_cons_succ]
    refine wpAnyH_ready (rs := [12]) (by kernel_rfl) (by simp) ?_
    refine AllReadyH.cons rfl (fun K hK => ?_) AllReadyH.nil
    go_simp
    obtain ⟨X3, hX3⟩ : ∃ X3, X3 = X2.alloc (.cells #[.string o.user, .string o.text] 35) := ⟨_, rfl⟩
    have hb3 : Below X2.heap.size X2 X3 := by rw [hX3]; exact below_alloc _ _
    have HSrc : Hid _ := HSl.out X2 X3 hX3
    have h3 : Below u.heap.size u X3 := h2.trans (hb3.mono h2.size)
    rw [← hX3]
    refine hK.out _ _ (HS.out _ h3) (fun hHeld => ?_)
    clear hK K hX3 hb3
    try simp only [Act.put, List.setIfInBounds_toArray, List.set_cons_zero, List.set_cons_succ]
    refine wpAnyH_ready (rs := [13]) (by kernel_rfl) (by simp) ?_
    refine AllReadyH.cons rfl (fun K hK => ?_) AllReadyH.nil
    refine step7 40 rfl rfl (.tmp 31) (.tmp 39) 27 27 35 rfl Try.underlying27 _ 2 32 infoPo rfl (.slice p m cap) m (poCells (cs k).posts) (by simp [Act.eval]) (HRow.out X3 h3) _ 1 _ (by simp [Act.eval]) HSrc.out hL1.out hL2.out ?_
    intro v' w5 ho hg hl
    obtain ⟨p', c', hv', t4, t5, y1, y2, hZ⟩ := HEnd.out X3 w5 v' h3 ho hg hl
    subst hv'
    have HZ : Hid _ := hZ
    clear ho hg hl hZ
    refine hK.out _ _ t4 (fun hHeld => ?_)
    clear hK K
    simp only [Act.put, List.setIfInBounds_toArray, List.set_cons_zero, List.set_cons_succ]
    refine take7 (i := 14) (d := 41) (v := .pointer (some ⟨k, 0, none⟩)) rfl rfl (by kernel_rfl) (by kernel_rfl) (by kernel_rfl) (fun _ _ _ h => h) (Or.inl ⟨by rfl, ?_⟩) (by assumption) ?_
    · intro X hSw
      go_simp
    simp only [Act.put, List.setIfInBounds_toArray, List.set_cons_zero, List.set_cons_succ]
    refine take7 (i := 15) (d := 42) (v := .pointer (some ⟨k, 1, none⟩)) rfl rfl (by kernel_rfl) (by kernel_rfl) (by kernel_rfl) (fun _ _ _ h => h) (Or.inl ⟨by rfl, ?_⟩) (by assumption) ?_
    · intro X hSw
      go_simp
    simp only [Act.put, List.setIfInBounds_toArray, List.set_cons_zero, List.set_cons_succ]
    refine wpAnyH_ready (rs := [16]) (by kernel_rfl) (by simp) ?_
    refine AllReadyH.cons rfl (fun K hK => ?_) AllReadyH.nil
    go_simp
    refine hK.out _ _ t5 (fun hHeld => ?_)
    clear hK K hHeld t4 t5
    refine wpAnyH_done (by kernel_rfl) ?_ _
    clear hHeld y1 y2
    obtain ⟨Z, hZ⟩ : ∃ Z, Z = w5.setCell ⟨k, 1, none⟩ (.slice p' (m + 1) c') := ⟨_, rfl⟩
    obtain ⟨z1, ⟨r0, r1, r2, g0, g1, g2⟩, HF⟩ := HZ.out Z hZ
    rw [← hZ]
    clear hZ HZ
    go_wp2
    rw [HWm.out]
    obtain ⟨x0, x1, x2⟩ := fin3_cells r0 r1 r2 (.int .i64 0) (.int .i64 (m : Int)) (.slice none 0 0)
    obtain ⟨Fw, hFw⟩ : ∃ Fw, Fw = fin3 Z (w.heap.size + 1) (.int .i64 0) (.int .i64 (m : Int)) (.slice none 0 0) := ⟨_, rfl⟩
    rw [← hFw] at x0 x1 x2 HF
    unfold fin3 at hFw
    rw [← hFw]
    clear hFw
    refine bodyPost_ret (v := .agg #[.int .i64 0, .int .i64 (m : Int), .slice none 0 0]) ?qres rfl ?qpost
    case qres => simp [results, Try.results28, go_sem, x0, x1, x2]
    case qpost => exact ⟨by rw [HM.out], HF.out⟩
  · refine stepCall 34 rfl rfl 54 #[.string o.user] (by kernel_rfl) (HC1.out _) ?_
    rintro e X1 ⟨rfl, hbX1⟩
    refine ⟨_, rfl, ?_⟩
    have h1 : Below u.heap.size u X1 := h0.trans (hbX1.mono h0.size)
    refine hK.out _ _ (HS.out _ h1) (fun hHeld => ?_)
    clear hK K hbX1
    try simp only [Act.put, List.setIfInBounds_toArray, List.set_cons_zero, List.set_cons_succ]
    refine wpAnyH_ready (rs := [4, 10]) (by kernel_rfl) (by simp) ?_
    refine AllReadyH.cons rfl (fun K hK => ?_) (AllReadyH.cons rfl (fun K hK => ?_) AllReadyH.nil)
    · have hp := HP1.out X1 h1
      go_simp
      refine hK.out _ _ (HS.out _ h1) (fun hHeld => ?_)
      clear hK K hp
      try simp only [Act.put, List.setIfInBounds_toArray, List.set_cons_zero, List.set_cons_succ]
      refine wpAnyH_ready (rs := [10]) (by kernel_rfl) (by simp) ?_
      refine AllReadyH.cons rfl (fun K hK => ?_) AllReadyH.nil
      refine stepCall 37 rfl rfl 54 #[.string o.text] (by kernel_rfl) (HC2.out _) ?_
      rintro e X2 ⟨rfl, hbX2⟩
      refine ⟨_, rfl, ?_⟩
      have h2 : Below u.heap.size u X2 := h1.trans (hbX2.mono h1.size)
      refine hK.out _ _ (HS.out _ h2) (fun hHeld => ?_)
      clear hK K hbX2
      try simp only [Act.put, List.setIfInBounds_toArray, List.set_cons_zero, List.set_cons_succ]
      refine take7 (i := 11) (d := 38) (v := .agg #[.string o.user, .string o.text]) rfl rfl (by kernel_rfl) (by kernel_rfl) (by kernel_rfl) (fun _ _ _ h => h) (Or.inl ⟨by rfl, ?_⟩) (by assumption) ?_
      · intro X hSw
        go_simp
      simp only [Act.put, List.setIfInBounds_toArray, List.set_cons_zero, List.set_cons_succ]
      refine wpAnyH_ready (rs := [12]) (by kernel_rfl) (by simp) ?_
      refine AllReadyH.cons rfl (fun K hK => ?_) AllReadyH.nil
      go_simp
      obtain ⟨X3, hX3⟩ : ∃ X3, X3 = X2.alloc (.cells #[.string o.user, .string o.text] 35) := ⟨_, rfl⟩
      have hb3 : Below X2.heap.size X2 X3 := by rw [hX3]; exact below_alloc _ _
      have HSrc : Hid _ := HSl.out X2 X3 hX3
      have h3 : Below u.heap.size u X3 := h2.trans (hb3.mono h2.size)
      rw [← hX3]
      refine hK.out _ _ (HS.out _ h3) (fun hHeld => ?_)
      clear hK K hX3 hb3
      try simp only [Act.put, List.setIfInBounds_toArray, List.set_cons_zero, List.set_cons_succ]
      refine wpAnyH_ready (rs := [13]) (by kernel_rfl) (by simp) ?_
      refine AllReadyH.cons rfl (fun K hK => ?_) AllReadyH.nil
      refine step7 40 rfl rfl (.tmp 31) (.tmp 39) 27 27 35 rfl Try.underlying27 _ 2 32 infoPo rfl (.slice p m cap) m (poCells (cs k).posts) (by simp [Act.eval]) (HRow.out X3 h3) _ 1 _ (by simp [Act.eval]) HSrc.out hL1.out hL2.out ?_
      intro v' w5 ho hg hl
      obtain ⟨p', c', hv', t4, t5, y1, y2, hZ⟩ := HEnd.out X3 w5 v' h3 ho hg hl
      subst hv'
      have HZ : Hid _ := hZ
      clear ho hg hl hZ
      refine hK.out _ _ t4 (fun hHeld => ?_)
      clear hK K
      simp only [Act.put, List.setIfInBounds_toArray, List.set_cons_zero, List.set_cons_succ]
      refine take7 (i := 14) (d := 41) (v := .pointer (some ⟨k, 0, none⟩)) rfl rfl (by kernel_rfl) (by kernel_rfl) (by kernel_rfl) (fun _ _ _ h => h) (Or.inl ⟨by rfl, ?_⟩) (by assumption) ?_
      · intro X hSw
        go_simp
      simp only [Act.put, List.setIfInBounds_toArray, List.set_cons_zero, List.set_cons_succ]
      refine take7 (i := 15) (d := 42) (v := .pointer (some ⟨k, 1, none⟩)) rfl rfl (by kernel_rfl) (by kernel_rfl) (by kernel_rfl) (fun _ _ _ h => h) (Or.inl ⟨by rfl, ?_⟩) (by assumption) ?_
      · intro X hSw
        go_simp
      simp only [Act.put, List.setIfInBounds_toArray, List.set_cons_zero, List.set_cons_succ]
      refine wpAnyH_ready (rs := [16]) (by kernel_rfl) (by simp) ?_
      refine AllReadyH.cons rfl (fun K hK => ?_) AllReadyH.nil
      go_simp
      refine hK.out _ _ t5 (fun hHeld => ?_)
      clear hK K hHeld t4 t5
      refine wpAnyH_done (by kernel_rfl) ?_ _
      clear hHeld y1 y2
      obtain ⟨Z, hZ⟩ : ∃ Z, Z = w5.setCell ⟨k, 1, none⟩ (.slice p' (m + 1) c') := ⟨_, rfl⟩
      obtain ⟨z1, ⟨r0, r1, r2, g0, g1, g2⟩, HF⟩ := HZ.out Z hZ
      rw [← hZ]
      clear hZ HZ
      go_wp2
      rw [HWm.out]
      obtain ⟨x0, x1, x2⟩ := fin3_cells r0 r1 r2 (.int .i64 0) (.int .i64 (m : Int)) (.slice none 0 0)
      obtain ⟨Fw, hFw⟩ : ∃ Fw, Fw = fin3 Z (w.heap.size + 1) (.int .i64 0) (.int .i64 (m : Int)) (.slice none 0 0) := ⟨_, rfl⟩
      rw [← hFw] at x0 x1 x2 HF
      unfold fin3 at hFw
      rw [← hFw]
      clear hFw
      refine bodyPost_ret (v := .agg #[.int .i64 0, .int .i64 (m : Int), .slice none 0 0]) ?qres rfl ?qpost
      case qres => simp [results, Try.results28, go_sem, x0, x1, x2]
      case qpost => exact ⟨by rw [HM.out], HF.out⟩
    · refine stepCall 37 rfl rfl 54 #[.string o.text] (by kernel_rfl) (HC2.out _) ?_
      rintro e X2 ⟨rfl, hbX2⟩
      refine ⟨_, rfl, ?_⟩
      have h2 : Below u.heap.size u X2 := h1.trans (hbX2.mono h1.size)
      refine hK.out _ _ (HS.out _ h2) (fun hHeld => ?_)
      clear hK K hbX2
      try simp only [Act.put, List.setIfInBounds_toArray, List.set_cons_zero, List.set_cons_succ]
      refine take7 (i := 11) (d := 38) (v := .agg #[.string o.user, .string o.text]) rfl rfl (by kernel_rfl) (by kernel_rfl) (by kernel_rfl) (fun _ _ _ h => h) (Or.inl ⟨by rfl, ?_⟩) (by assumption) ?_
      · intro X hSw
        go_simp
      simp only [Act.put, List.setIfInBounds_toArray, List.set_cons_zero, List.set_cons_succ]
      refine wpAnyH_ready (rs := [4, 12]) (by kernel_rfl) (by simp) ?_
      refine AllReadyH.cons rfl (fun K hK => ?_) (AllReadyH.cons rfl (fun K hK => ?_) AllReadyH.nil)
      · have hp := HP1.out X2 h2
        go_simp
        refine hK.out _ _ (HS.out _ h2) (fun hHeld => ?_)
        clear hK K hp
        try simp only [Act.put, List.setIfInBounds_toArray, List.set_cons_zero, List.set_cons_succ]
        refine wpAnyH_ready (rs := [12]) (by kernel_rfl) (by simp) ?_
        refine AllReadyH.cons rfl (fun K hK => ?_) AllReadyH.nil
        go_simp
        obtain ⟨X3, hX3⟩ : ∃ X3, X3 = X2.alloc (.cells #[.string o.user, .string o.text] 35) := ⟨_, rfl⟩
        have hb3 : Below X2.heap.size X2 X3 := by rw [hX3]; exact below_alloc _ _
        have HSrc : Hid _ := HSl.out X2 X3 hX3
        have h3 : Below u.heap.size u X3 := h2.trans (hb3.mono h2.size)
        rw [← hX3]
        refine hK.out _ _ (HS.out _ h3) (fun hHeld => ?_)
        clear hK K hX3 hb3
        try simp only [Act.put, List.setIfInBounds_toArray, List.set_cons_zero, List.set_cons_succ]
        refine wpAnyH_ready (rs := [13]) (by kernel_rfl) (by simp) ?_
        refine AllReadyH.cons rfl (fun K hK => ?_) AllReadyH.nil
        refine step7 40 rfl rfl (.tmp 31) (.tmp 39) 27 27 35 rfl Try.underlying27 _ 2 32 infoPo rfl (.slice p m cap) m (poCells (cs k).posts) (by simp [Act.eval]) (HRow.out X3 h3) _ 1 _ (by simp [Act.eval]) HSrc.out hL1.out hL2.out ?_
        intro v' w5 ho hg hl
        obtain ⟨p', c', hv', t4, t5, y1, y2, hZ⟩ := HEnd.out X3 w5 v' h3 ho hg hl
        subst hv'
        have HZ : Hid _ := hZ
        clear ho hg hl hZ
        refine hK.out _ _ t4 (fun hHeld => ?_)
        clear hK K
        simp only [Act.put, List.setIfInBounds_toArray, List.set_cons_zero, List.set_cons_succ]
        refine take7 (i := 14) (d := 41) (v := .pointer (some ⟨k, 0, none⟩)) rfl rfl (by kernel_rfl) (by kernel_rfl) (by kernel_rfl) (fun _ _ _ h => h) (Or.inl ⟨by rfl, ?_⟩) (by assumption) ?_
        · intro X hSw
          go_simp
        simp only [Act.put, List.setIfInBounds_toArray, List.set_cons_zero, List.set_cons_succ]
        refine take7 (i := 15) (d := 42) (v := .pointer (some ⟨k, 1, none⟩)) rfl rfl (by kernel_rfl) (by kernel_rfl) (by kernel_rfl) (fun _ _ _ h => h) (Or.inl ⟨by rfl, ?_⟩) (by assumption) ?_
        · intro X hSw
          go_simp
        simp only [Act.put, List.setIfInBounds_toArray, List.set_cons_zero, List.set_cons_succ]
        refine wpAnyH_ready (rs := [16]) (by kernel_rfl) (by simp) ?_
        refine AllReadyH.cons rfl (fun K hK => ?_) AllReadyH.nil
        go_simp
        refine hK.out _ _ t5 (fun hHeld => ?_)
        clear hK K hHeld t4 t5
        refine wpAnyH_done (by kernel_rfl) ?_ _
        clear hHeld y1 y2
        obtain ⟨Z, hZ⟩ : ∃ Z, Z = w5.setCell ⟨k, 1, none⟩ (.slice p' (m + 1) c') := ⟨_, rfl⟩
        obtain ⟨z1, ⟨r0, r1, r2, g0, g1, g2⟩, HF⟩ := HZ.out Z hZ
        rw [← hZ]
        clear hZ HZ
        go_wp2
        rw [HWm.out]
        obtain ⟨x0, x1, x2⟩ := fin3_cells r0 r1 r2 (.int .i64 0) (.int .i64 (m : Int)) (.slice none 0 0)
        obtain ⟨Fw, hFw⟩ : ∃ Fw, Fw = fin3 Z (w.heap.size + 1) (.int .i64 0) (.int .i64 (m : Int)) (.slice none 0 0) := ⟨_, rfl⟩
        rw [← hFw] at x0 x1 x2 HF
        unfold fin3 at hFw
        rw [← hFw]
        clear hFw
        refine bodyPost_ret (v := .agg #[.int .i64 0, .int .i64 (m : Int), .slice none 0 0]) ?qres rfl ?qpost
        case qres => simp [results, Try.results28, go_sem, x0, x1, x2]
        case qpost => exact ⟨by rw [HM.out], HF.out⟩
      · go_simp
        obtain ⟨X3, hX3⟩ : ∃ X3, X3 = X2.alloc (.cells #[.string o.user, .string o.text] 35) := ⟨_, rfl⟩
        have hb3 : Below X2.heap.size X2 X3 := by rw [hX3]; exact below_alloc _ _
        have HSrc : Hid _ := HSl.out X2 X3 hX3
        have h3 : Below u.heap.size u X3 := h2.trans (hb3.mono h2.size)
        rw [← hX3]
        refine hK.out _ _ (HS.out _ h3) (fun hHeld => ?_)
        clear hK K hX3 hb3
        try simp only [Act.put, List.setIfInBounds_toArray, List.set_cons_zero, List.set_cons_succ]
        refine wpAnyH_ready (rs := [4]) (by kernel_rfl) (by simp) ?_
        refine AllReadyH.cons rfl (fun K hK => ?_) AllReadyH.nil
        have hp := HP1.out X3 h3
        go_simp
        refine hK.out _ _ (HS.out _ h3) (fun hHeld => ?_)
        clear hK K hp
        try simp only [Act.put, List.setIfInBounds_toArray, List.set_cons_zero, List.set_cons_succ]
        refine wpAnyH_ready (rs := [13]) (by kernel_rfl) (by simp) ?_
        refine AllReadyH.cons rfl (fun K hK => ?_) AllReadyH.nil
        refine step7 40 rfl rfl (.tmp 31) (.tmp 39) 27 27 35 rfl Try.underlying27 _ 2 32 infoPo rfl (.slice p m cap) m (poCells (cs k).posts) (by simp [Act.eval]) (HRow.out X3 h3) _ 1 _ (by simp [Act.eval]) HSrc.out hL1.out hL2.out ?_
        intro v' w5 ho hg hl
        obtain ⟨p', c', hv', t4, t5, y1, y2, hZ⟩ := HEnd.out X3 w5 v' h3 ho hg hl
        subst hv'
        have HZ : Hid _ := hZ
        clear ho hg hl hZ
        refine hK.out _ _ t4 (fun hHeld => ?_)
        clear hK K
        simp only [Act.put, List.setIfInBounds_toArray, List.set_cons_zero, List.set_cons_succ]
        refine take7 (i := 14) (d := 41) (v := .pointer (some ⟨k, 0, none⟩)) rfl rfl (by kernel_rfl) (by kernel_rfl) (by kernel_rfl) (fun _ _ _ h => h) (Or.inl ⟨by rfl, ?_⟩) (by assumption) ?_
        · intro X hSw
          go_simp
        simp only [Act.put, List.setIfInBounds_toArray, List.set_cons_zero, List.set_cons_succ]
        refine take7 (i := 15) (d := 42) (v := .pointer (some ⟨k, 1, none⟩)) rfl rfl (by kernel_rfl) (by kernel_rfl) (by kernel_rfl) (fun _ _ _ h => h) (Or.inl ⟨by rfl, ?_⟩) (by assumption) ?_
        · intro X hSw
          go_simp
        simp only [Act.put, List.setIfInBounds_toArray, List.set_cons_zero, List.set_cons_succ]
        refine wpAnyH_ready (rs := [16]) (by kernel_rfl) (by simp) ?_
        refine AllReadyH.cons rfl (fun K hK => ?_) AllReadyH.nil
        go_simp
        refine hK.out _ _ t5 (fun hHeld => ?_)
        clear hK K hHeld t4 t5
        refine wpAnyH_done (by kernel_rfl) ?_ _
        clear hHeld y1 y2
        obtain ⟨Z, hZ⟩ : ∃ Z, Z = w5.setCell ⟨k, 1, none⟩ (.slice p' (m + 1) c') := ⟨_, rfl⟩
        obtain ⟨z1, ⟨r0, r1, r2, g0, g1, g2⟩, HF⟩ := HZ.out Z hZ
        rw [← hZ]
        clear hZ HZ
        go_wp2
        rw [HWm.out]
        obtain ⟨x0, x1, x2⟩ := fin3_cells r0 r1 r2 (.int .i64 0) (.int .i64 (m : Int)) (.slice none 0 0)
        obtain ⟨Fw, hFw⟩ : ∃ Fw, Fw = fin3 Z (w.heap.size + 1) (.int .i64 0) (.int .i64 (m : Int)) (.slice none 0 0) := ⟨_, rfl⟩
        rw [← hFw] at x0 x1 x2 HF
        unfold fin3 at hFw
        rw [← hFw]
        clear hFw
        refine bodyPost_ret (v := .agg #[.int .i64 0, .int .i64 (m : Int), .slice none 0 0]) ?qres rfl ?qpost
        case qres => simp [results, Try.results28, go_sem, x0, x1, x2]
        case qpost => exact ⟨by rw [HM.out], HF.out⟩

end
end Go.Proofs.Ytkioeahlajjmiaa
