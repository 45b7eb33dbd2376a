import Derived.Test.YtkioeahlajjmiaaMpC

/-
  The document's Do.
-/
namespace Go.Proofs.Ytkioeahlajjmiaa
open Go.RowKit

/-- The boxes of Do. -/
structure Di (bn bo br bp : Nat) (a b : Value) (o : Mo.Op) (X : World) : Prop where
  m : Bq bn a b X
  o0 : X.cell? ⟨bo, 0, none⟩ = some (.int .i64 o.kind)
  o1 : X.cell? ⟨bo, 1, none⟩ = some (.string o.space)
  o2 : X.cell? ⟨bo, 2, none⟩ = some (.string o.channel)
  o3 : X.cell? ⟨bo, 3, none⟩ = some (.string o.user)
  o4 : X.cell? ⟨bo, 4, none⟩ = some (.string o.text)
  o5 : X.cell? ⟨bo, 5, none⟩ = some (.string o.toSpace)
  o6 : X.cell? ⟨bo, 6, none⟩ = some (.string o.to)
  o7 : X.cell? ⟨bo, 7, none⟩ = some (.int .i64 o.frm)
  o8 : X.cell? ⟨bo, 8, none⟩ = some (.int .i64 o.most)
  r : Bq br (.slice none 0 0) (.slice none 0 0) X
  p : R3 bp (.int .i64 0) (.int .i64 0) (.slice none 0 0) X
theorem Di.keep {bn bo br bp : Nat} {a b : Value} {o : Mo.Op} {X Y : World} (h : Di bn bo br bp a b o X) (hn : Y.heap[bn]? = X.heap[bn]?) (ho : Y.heap[bo]? = X.heap[bo]?) (hr : Y.heap[br]? = X.heap[br]?) (hp : Y.heap[bp]? = X.heap[bp]?) : Di bn bo br bp a b o Y :=
  ⟨h.m.keep hn, (World.cell?_of_block (a := ⟨bo, 0, none⟩) ho).trans h.o0, (World.cell?_of_block (a := ⟨bo, 1, none⟩) ho).trans h.o1, (World.cell?_of_block (a := ⟨bo, 2, none⟩) ho).trans h.o2, (World.cell?_of_block (a := ⟨bo, 3, none⟩) ho).trans h.o3, (World.cell?_of_block (a := ⟨bo, 4, none⟩) ho).trans h.o4, (World.cell?_of_block (a := ⟨bo, 5, none⟩) ho).trans h.o5, (World.cell?_of_block (a := ⟨bo, 6, none⟩) ho).trans h.o6, (World.cell?_of_block (a := ⟨bo, 7, none⟩) ho).trans h.o7, (World.cell?_of_block (a := ⟨bo, 8, none⟩) ho).trans h.o8, h.r.keep hr, h.p.keep hp⟩
theorem Di.below {bn bo br bp : Nat} {a b : Value} {o : Mo.Op} {X Y : World} (h : Di bn bo br bp a b o X) (hb : Below X.heap.size X Y) : Di bn bo br bp a b o Y :=
  h.keep (hb.block bn h.m.lt) (hb.block bo (World.block_lt_of_cell? _ _ h.o0)) (hb.block br h.r.lt) (hb.block bp h.p.lt)
theorem Di.start (w : World) (a b : Value) (o : Mo.Op) : ∃ u, u = (((w.alloc (.cells #[a, b] 54)).alloc (.cells #[.int .i64 o.kind, .string o.space, .string o.channel, .string o.user, .string o.text, .string o.toSpace, .string o.to, .int .i64 o.frm, .int .i64 o.most] 32)).alloc (.cells #[.slice none 0 0, .slice none 0 0] 54)).alloc (.cells #[.int .i64 0, .int .i64 0, .slice none 0 0] 29) ∧ Below w.heap.size w u ∧ u.heap.size = w.heap.size + 4 ∧ Di w.heap.size (w.heap.size + 1) (w.heap.size + 1 + 1) (w.heap.size + 1 + 1 + 1) a b o u := by
  obtain ⟨w1, h1⟩ : ∃ w1, w1 = w.alloc (.cells #[a, b] 54) := ⟨_, rfl⟩
  obtain ⟨w2, h2⟩ : ∃ w2, w2 = w1.alloc (.cells #[.int .i64 o.kind, .string o.space, .string o.channel, .string o.user, .string o.text, .string o.toSpace, .string o.to, .int .i64 o.frm, .int .i64 o.most] 32) := ⟨_, rfl⟩
  obtain ⟨w3, h3⟩ : ∃ w3, w3 = w2.alloc (.cells #[.slice none 0 0, .slice none 0 0] 54) := ⟨_, rfl⟩
  obtain ⟨w4, h4⟩ : ∃ w4, w4 = w3.alloc (.cells #[.int .i64 0, .int .i64 0, .slice none 0 0] 29) := ⟨_, rfl⟩
  have s1 : w1.heap.size = w.heap.size + 1 := by rw [h1]; simp
  have s2 : w2.heap.size = w.heap.size + 1 + 1 := by rw [h2]; simp [s1]
  have s3 : w3.heap.size = w.heap.size + 1 + 1 + 1 := by rw [h3]; simp [s2]
  have s4 : w4.heap.size = w.heap.size + 4 := by rw [h4]; simp [s3]
  have b1 : Below w.heap.size w w1 := by rw [h1]; exact below_alloc _ _
  have b2 : Below w1.heap.size w1 w2 := by rw [h2]; exact below_alloc _ _
  have b3 : Below w2.heap.size w2 w3 := by rw [h3]; exact below_alloc _ _
  have b4 : Below w3.heap.size w3 w4 := by rw [h4]; exact below_alloc _ _
  have c34 := b3.trans (b4.mono (by omega))
  have c24 := b2.trans (c34.mono (by omega))
  have m1 : Bq w.heap.size a b w1 := by rw [h1]; exact Bq.start _ _ _ _
  have cc : ∀ j, w2.cell? ⟨w.heap.size + 1, j, none⟩ = (#[.int .i64 o.kind, .string o.space, .string o.channel, .string o.user, .string o.text, .string o.toSpace, .string o.to, .int .i64 o.frm, .int .i64 o.most] : Array Value)[j]? := fun j => by
    rw [h2, ← s1]
    exact World.cell?_alloc_mark w1 _ _ _ j
  have ce : ∀ j, w4.cell? ⟨w.heap.size + 1, j, none⟩ = (#[.int .i64 o.kind, .string o.space, .string o.channel, .string o.user, .string o.text, .string o.toSpace, .string o.to, .int .i64 o.frm, .int .i64 o.most] : Array Value)[j]? := fun j => by
    rw [c34.cell (p := ⟨w.heap.size + 1, j, none⟩) (show w.heap.size + 1 < w2.heap.size by omega)]
    exact cc j
  have m3 : Bq (w.heap.size + 1 + 1) (.slice none 0 0) (.slice none 0 0) w3 := by rw [h3, ← s2]; exact Bq.start _ _ _ _
  have m4 : R3 (w.heap.size + 1 + 1 + 1) (.int .i64 0) (.int .i64 0) (.slice none 0 0) w4 := by rw [h4, ← s3]; exact R3.start _ _ _ _ _
  refine ⟨w4, by rw [h4, h3, h2, h1], b1.trans (c24.mono (by omega)), s4, m1.below c24, ce 0, ce 1, ce 2, ce 3, ce 4, ce 5, ce 6, ce 7, ce 8, m3.below b4, m4⟩
/-- The end of a call that left channels out, or made other ones: the list is the call's own. -/
theorem DoR.lists {L : Nat → Prop} {w Y : World} {p' po' : Option Addr} {c' co' : Nat} {t' : List Rw} {q' : Mp.Dm} {br bp us : Nat} (h : DvT (Lp L w us) Y p' c' po' co' t' q'.off) (hq : t'.map (·.cn) = q'.list) (hZ : Below w.heap.size w Y) (hbr : w.heap.size ≤ br ∧ br < us) (hbp : w.heap.size ≤ bp ∧ bp < us) :
    DoR L w (q', ⟨0, 0, []⟩) (.returned (.tuple #[.agg #[.slice p' t'.length c', .slice po' q'.off.length co'], .agg #[.int .i64 0, .int .i64 0, .slice none 0 0]])) (ex9 Y br bp (.slice p' t'.length c') (.slice po' q'.off.length co') (.int .i64 0) (.int .i64 0) (.slice none 0 0)) := by
  have h3 := (h.carry (w' := ex9 Y br bp (.slice p' t'.length c') (.slice po' q'.off.length co') (.int .i64 0) (.int .i64 0) (.slice none 0 0)) (fun g hg _ => by
    have h9 := hg.2
    exact ex9_other (by omega) (by omega) _ _ _ _ _)).weak (L' := L) (fun g hg _ => hg.1)
  exact ⟨_, none, 0, rfl, RowC.nil _ _ _, fun g hg => by simp [cBlk] at hg, ⟨p', c', po', co', _, rfl, hq, h3⟩, ex9_below hZ hbr.1 hbp.1 _ _ _ _ _⟩
/-- What a callee left, handed on. -/
theorem DoR.on {L : Nat → Prop} {w X Y : World} {us : Nat} {D : Mp.Dm × Mo.Re} {e : Ending} (h : DoR (Lp L w us) X D e Y) : ∃ p1 n1 c1 p2 n2 c2 e1 e2 p3 n3 c3, e = .returned (.tuple #[.agg #[.slice p1 n1 c1, .slice p2 n2 c2], .agg #[.int .i64 e1, .int .i64 e2, .slice p3 n3 c3]]) ∧ Below X.heap.size X Y ∧
    Hid (∀ br bp, Below w.heap.size w X → w.heap.size ≤ br ∧ br < us → w.heap.size ≤ bp ∧ bp < us → DoR L w D (.returned (.tuple #[.agg #[.slice p1 n1 c1, .slice p2 n2 c2], .agg #[.int .i64 e1, .int .i64 e2, .slice p3 n3 c3]])) (ex9 Y br bp (.slice p1 n1 c1) (.slice p2 n2 c2) (.int .i64 e1) (.int .i64 e2) (.slice p3 n3 c3))) := by
  obtain ⟨v', pr, cr, rfl, hrow, hrb, ⟨pl, cl, po, co, t, rfl, hq, hd⟩, hb⟩ := h
  refine ⟨_, _, _, _, _, _, _, _, _, _, _, rfl, hb, fun br bp hwX hbr hbp => ?_⟩
  have ho : ∀ g, Lp L w us g → (ex9 Y br bp (.slice pl t.length cl) (.slice po D.1.off.length co) (.int .i64 D.2.err) (.int .i64 D.2.at_) (.slice pr D.2.posts.length cr)).heap[g]? = Y.heap[g]? := fun g hg => by
    have h9 := hg.2
    exact ex9_other (by omega) (by omega) _ _ _ _ _
  exact ⟨_, pr, cr, rfl, RowC.carry hrow (fun g hg => ho g (hrb g hg)), fun g hg => (hrb g hg).1, ⟨pl, cl, po, co, t, rfl, hq, (hd.carry (fun g hg _ => ho g hg)).weak (fun g hg _ => hg.1)⟩, ex9_below (hwX.trans (hb.mono hwX.size)) hbr.1 hbp.1 _ _ _ _ _⟩

set_option maxHeartbeats 12800000 in
set_option maxRecDepth 20000 in
theorem rDo_no {L : Nat → Prop} {w : World} {pl po : Option Addr} {cl co : Nat} {t : List Rw} {off : List ByteArray} {q : Mp.Dm} (h : DvT L w pl cl po co t off) (hq : t.map (·.cn) = q.list) (hoff : off = q.off) (hL : ∀ g, w.heap.size ≤ g → L g) {s : Mo.St} (hRel : Mp.Rel s q) (hn : t.length ≤ 1000000 ∧ off.length ≤ 1000000 ∧ ∀ p ∈ t, p.cn.mems.length ≤ 1000000) (kd : Int) (sp ch us te tt to : ByteArray) (fr mo : Int) (hmay : Mo.may ⟨kd, sp, ch, us, te, tt, to, fr, mo⟩ = false) (hMay : ∀ X, Calls Try.prog 37 #[.agg #[.int .i64 kd, .string sp, .string ch, .string us, .string te, .string tt, .string to, .int .i64 fr, .int .i64 mo]] X fun e X' => e = .returned (.bool (Mo.may ⟨kd, sp, ch, us, te, tt, to, fr, mo⟩)) ∧ Below X.heap.size X X') :
    Calls Try.prog 20 #[.agg #[.slice pl t.length cl, .slice po off.length co], .agg #[.int .i64 kd, .string sp, .string ch, .string us, .string te, .string tt, .string to, .int .i64 fr, .int .i64 mo]] w (DoR L w (Mp.dDo q ⟨kd, sp, ch, us, te, tt, to, fr, mo⟩)) := by
  obtain ⟨u, hu, hbu, hus, hWi⟩ := Di.start w (.slice pl t.length cl) (.slice po off.length co) ⟨kd, sp, ch, us, te, tt, to, fr, mo⟩
  dsimp only at hu
  obtain ⟨bn, hbn⟩ : ∃ bn, bn = w.heap.size := ⟨_, rfl⟩
  obtain ⟨bo, hbo⟩ : ∃ bo, bo = w.heap.size + 1 := ⟨_, rfl⟩
  obtain ⟨br, hbr⟩ : ∃ br, br = w.heap.size + 1 + 1 := ⟨_, rfl⟩
  obtain ⟨bp, hbp⟩ : ∃ bp, bp = w.heap.size + 1 + 1 + 1 := ⟨_, rfl⟩
  rw [← hbp, ← hbr, ← hbo, ← hbn] at hWi
  have HW : Hid (∀ X, Below u.heap.size u X → Di bn bo br bp (.slice pl t.length cl) (.slice po off.length co) ⟨kd, sp, ch, us, te, tt, to, fr, mo⟩ X) := fun X hX => hWi.below hX
  have HB : Hid (bn = w.heap.size ∧ bo = w.heap.size + 1 ∧ br = w.heap.size + 2 ∧ bp = w.heap.size + 3 ∧ u.heap.size = w.heap.size + 4) := ⟨hbn, hbo, by omega, by omega, hus⟩
  have HU : Hid (Below w.heap.size w u) := hbu
  have HD : Hid (DvT L w pl cl po co t off) := h
  have HL : Hid (∀ g, w.heap.size ≤ g → L g) := hL
  have HRel : Hid (Mp.Rel s q) := hRel
  have hst := sorted_cn hq hRel.rise
  have HE : Hid (t.map (·.cn) = q.list ∧ off = q.off ∧ Mp.Sorted Rw.key Mp.ltK t ∧ t.length ≤ 1000000 ∧ off.length ≤ 1000000 ∧ ∀ p ∈ t, p.cn.mems.length ≤ 1000000) := ⟨hq, hoff, hst, hn⟩
  have HMay : Hid (Mo.may ⟨kd, sp, ch, us, te, tt, to, fr, mo⟩ = false) := hmay
  have HMc : Hid (∀ X, Calls Try.prog 37 #[.agg #[.int .i64 kd, .string sp, .string ch, .string us, .string te, .string tt, .string to, .int .i64 fr, .int .i64 mo]] X fun e X' => e = .returned (.bool false) ∧ Below X.heap.size X X') := fun X => by
    have h9 := hMay X
    rw [hmay] at h9
    exact h9
  have HF : Hid (∀ X, Below u.heap.size u X → Calls Try.prog 39 #[.agg #[.slice pl t.length cl, .slice po off.length co], .string sp, .string ch] X fun e w' => ∃ k : Int, e = .returned (.int .i64 k) ∧ Where t sp ch k ∧ Below X.heap.size X w') := fun X hX => rFind_c (HD.out.ls.below (HU.out.trans (hX.mono HU.out.size))) HE.out.2.2.2.1 po off.length co sp ch
  generalize hQ : DoR L w (Mp.dDo q ⟨kd, sp, ch, us, te, tt, to, fr, mo⟩) = Q
  have HQ : Hid (∀ e w', DoR L w (Mp.dDo q ⟨kd, sp, ch, us, te, tt, to, fr, mo⟩) e w' → Q e w') := fun e w' h => by rw [← hQ]; exact h
  clear h hbu hWi hQ hus hL hq hoff hRel hst hn hmay hMay 
  go_enter Try.func20, Try.ntmps20
  go_upto_region 1 with fail
  rw [← hu, ← hbp, ← hbr, ← hbo, ← hbn]
  clear hu hbp hbr hbo hbn
  have H0 : Hid (Below u.heap.size u u) := Below.refl _ _
  obtain ⟨_, o0, o1, o2, o3, o4, o5, o6, o7, o8, _, _⟩ := HW.out u H0.out
  dsimp only at o0
  go_wp2_with fail
  refine (HMc.out u).mono ?_
  rintro e M1 ⟨rfl, hbM1⟩
  have HM1 : Hid (Below u.heap.size u M1) := hbM1
  clear hbM1 o0 o1 o2 o3 o4 o5 o6 o7 o8
  obtain ⟨n0, n1, _, _⟩ := (HW.out M1 HM1.out).m
  go_wp2_with fail
  refine (no_c M1 _ _ _ _ _ _ 1).mono ?_
  rintro e N1 ⟨rfl, hbN1⟩
  have HN1 : Hid (Below u.heap.size u N1) := HM1.out.trans (hbN1.mono HM1.out.size)
  clear hbN1 n0 n1

  obtain ⟨g1, g2, g3⟩ := ex9_cells (HW.out N1 HN1.out).r (HW.out N1 HN1.out).p (by have := HB.out; omega) (.slice pl t.length cl) (.slice po off.length co) (.int .i64 1) (.int .i64 0) (.slice none 0 0)
  have HOut : Hid (Q (.returned (.tuple #[.agg #[.slice pl t.length cl, .slice po off.length co], .agg #[.int .i64 1, .int .i64 0, .slice none 0 0]])) (ex9 N1 br bp (.slice pl t.length cl) (.slice po off.length co) (.int .i64 1) (.int .i64 0) (.slice none 0 0))) := HQ.out _ _ (by unfold Mp.dDo; rw [if_pos HMay.out]; exact DoR.no HD.out HE.out.1 HE.out.2.1 (ex9_below (HU.out.trans (HN1.out.mono HU.out.size)) (by have := HB.out; omega) (by have := HB.out; omega) _ _ _ _ _) _)
  obtain ⟨z0, z1, h0, h1⟩ := (HW.out N1 HN1.out).r
  obtain ⟨y0, y1, y2, j0, j1, j2⟩ := g1
  obtain ⟨x0, x1, _, _⟩ := g2
  obtain ⟨x2, x3, x4, _, _, _⟩ := g3
  obtain ⟨F, hF⟩ : ∃ F, F = ex9 N1 br bp (.slice pl t.length cl) (.slice po off.length co) (.int .i64 1) (.int .i64 0) (.slice none 0 0) := ⟨_, rfl⟩
  rw [← hF] at HOut x0 x1 x2 x3 x4
  unfold ex9 at hF
  go_wp2
  rw [← hF]
  clear hF
  refine bodyPost_ret (v := .tuple #[.agg #[.slice pl t.length cl, .slice po off.length co], .agg #[.int .i64 1, .int .i64 0, .slice none 0 0]]) ?qres rfl ?qpost
  case qres => simp [results, Try.results20, go_sem, x0, x1, x2, x3, x4]
  case qpost => exact HOut.out

set_option maxHeartbeats 12800000 in
set_option maxRecDepth 20000 in
theorem rDo_1 {L : Nat → Prop} {w : World} {pl po : Option Addr} {cl co : Nat} {t : List Rw} {off : List ByteArray} {q : Mp.Dm} (h : DvT L w pl cl po co t off) (hq : t.map (·.cn) = q.list) (hoff : off = q.off) (hL : ∀ g, w.heap.size ≤ g → L g) {s : Mo.St} (hRel : Mp.Rel s q) (hn : t.length ≤ 1000000 ∧ off.length ≤ 1000000 ∧ ∀ p ∈ t, p.cn.mems.length ≤ 1000000) (sp ch us te tt to : ByteArray) (fr mo : Int) (hmay : Mo.may ⟨1, sp, ch, us, te, tt, to, fr, mo⟩ = true) (hMay : ∀ X, Calls Try.prog 37 #[.agg #[.int .i64 1, .string sp, .string ch, .string us, .string te, .string tt, .string to, .int .i64 fr, .int .i64 mo]] X fun e X' => e = .returned (.bool (Mo.may ⟨1, sp, ch, us, te, tt, to, fr, mo⟩)) ∧ Below X.heap.size X X') :
    Calls Try.prog 20 #[.agg #[.slice pl t.length cl, .slice po off.length co], .agg #[.int .i64 1, .string sp, .string ch, .string us, .string te, .string tt, .string to, .int .i64 fr, .int .i64 mo]] w (DoR L w (Mp.dDo q ⟨1, sp, ch, us, te, tt, to, fr, mo⟩)) := by
  obtain ⟨u, hu, hbu, hus, hWi⟩ := Di.start w (.slice pl t.length cl) (.slice po off.length co) ⟨1, sp, ch, us, te, tt, to, fr, mo⟩
  dsimp only at hu
  obtain ⟨bn, hbn⟩ : ∃ bn, bn = w.heap.size := ⟨_, rfl⟩
  obtain ⟨bo, hbo⟩ : ∃ bo, bo = w.heap.size + 1 := ⟨_, rfl⟩
  obtain ⟨br, hbr⟩ : ∃ br, br = w.heap.size + 1 + 1 := ⟨_, rfl⟩
  obtain ⟨bp, hbp⟩ : ∃ bp, bp = w.heap.size + 1 + 1 + 1 := ⟨_, rfl⟩
  rw [← hbp, ← hbr, ← hbo, ← hbn] at hWi
  have HW : Hid (∀ X, Below u.heap.size u X → Di bn bo br bp (.slice pl t.length cl) (.slice po off.length co) ⟨1, sp, ch, us, te, tt, to, fr, mo⟩ X) := fun X hX => hWi.below hX
  have HB : Hid (bn = w.heap.size ∧ bo = w.heap.size + 1 ∧ br = w.heap.size + 2 ∧ bp = w.heap.size + 3 ∧ u.heap.size = w.heap.size + 4) := ⟨hbn, hbo, by omega, by omega, hus⟩
  have HU : Hid (Below w.heap.size w u) := hbu
  have HD : Hid (DvT L w pl cl po co t off) := h
  have HL : Hid (∀ g, w.heap.size ≤ g → L g) := hL
  have HRel : Hid (Mp.Rel s q) := hRel
  have hst := sorted_cn hq hRel.rise
  have HE : Hid (t.map (·.cn) = q.list ∧ off = q.off ∧ Mp.Sorted Rw.key Mp.ltK t ∧ t.length ≤ 1000000 ∧ off.length ≤ 1000000 ∧ ∀ p ∈ t, p.cn.mems.length ≤ 1000000) := ⟨hq, hoff, hst, hn⟩
  have HMay : Hid (Mo.may ⟨1, sp, ch, us, te, tt, to, fr, mo⟩ = true) := hmay
  have HMc : Hid (∀ X, Calls Try.prog 37 #[.agg #[.int .i64 1, .string sp, .string ch, .string us, .string te, .string tt, .string to, .int .i64 fr, .int .i64 mo]] X fun e X' => e = .returned (.bool true) ∧ Below X.heap.size X X') := fun X => by
    have h9 := hMay X
    rw [hmay] at h9
    exact h9
  have HF : Hid (∀ X, Below u.heap.size u X → Calls Try.prog 39 #[.agg #[.slice pl t.length cl, .slice po off.length co], .string sp, .string ch] X fun e w' => ∃ k : Int, e = .returned (.int .i64 k) ∧ Where t sp ch k ∧ Below X.heap.size X w') := fun X hX => rFind_c (HD.out.ls.below (HU.out.trans (hX.mono HU.out.size))) HE.out.2.2.2.1 po off.length co sp ch
  generalize hQ : DoR L w (Mp.dDo q ⟨1, sp, ch, us, te, tt, to, fr, mo⟩) = Q
  have HQ : Hid (∀ e w', DoR L w (Mp.dDo q ⟨1, sp, ch, us, te, tt, to, fr, mo⟩) e w' → Q e w') := fun e w' h => by rw [← hQ]; exact h
  have HP : Hid (∀ X, Below u.heap.size u X → Calls Try.prog 40 #[.agg #[.slice pl t.length cl, .slice po off.length co], .agg #[.string sp, .string ch, .slice none 0 0, .slice none 0 0]] X fun e Y => ∃ p' n' c', e = .returned (.agg #[.slice p' n' c', .slice po off.length co]) ∧ Below X.heap.size X Y ∧ Hid (n' = (Mp.ins Rw.key Mp.ltK (⟨⟨sp, ch, [], []⟩, none, 0, none, 0⟩ : Rw) t).length ∧ Mk X Y 4 (.slice p' (Mp.ins Rw.key Mp.ltK (⟨⟨sp, ch, [], []⟩, none, 0, none, 0⟩ : Rw) t).length c') (Mp.ins Rw.key Mp.ltK (⟨⟨sp, ch, [], []⟩, none, 0, none, 0⟩ : Rw) t).length (lsC (Mp.ins Rw.key Mp.ltK (⟨⟨sp, ch, [], []⟩, none, 0, none, 0⟩ : Rw) t)))) := fun X hX => by
    have h9 := rPut_c (HD.out.ls.below (HU.out.trans (hX.mono HU.out.size))) HE.out.2.2.2.1 po off.length co ⟨⟨sp, ch, [], []⟩, none, 0, none, 0⟩ HE.out.2.2.1
    dsimp only [List.length_nil] at h9
    refine h9.mono ?_
    rintro e Y ⟨p', c', rfl, hM⟩
    exact ⟨p', _, c', rfl, hM.1, rfl, hM⟩
  clear h hbu hWi hQ hus hL hq hoff hRel hst hn hmay hMay 
  go_enter Try.func20, Try.ntmps20
  go_upto_region 1 with fail
  rw [← hu, ← hbp, ← hbr, ← hbo, ← hbn]
  clear hu hbp hbr hbo hbn
  have H0 : Hid (Below u.heap.size u u) := Below.refl _ _
  obtain ⟨_, o0, o1, o2, o3, o4, o5, o6, o7, o8, _, _⟩ := HW.out u H0.out
  dsimp only at o0
  go_wp2_with fail
  refine (HMc.out u).mono ?_
  rintro e M1 ⟨rfl, hbM1⟩
  have HM1 : Hid (Below u.heap.size u M1) := hbM1
  clear hbM1 o0 o1 o2 o3 o4 o5 o6 o7 o8
  obtain ⟨⟨n0, n1, _, _⟩, _, o1, o2, _, _, _, _, _, _, _, _⟩ := HW.out M1 HM1.out
  go_wp2_with fail
  refine (HF.out M1 HM1.out).mono ?_
  rintro e I1 ⟨k, rfl, hk, hbI1⟩
  have HI1 : Hid (Below u.heap.size u I1) := HM1.out.trans (hbI1.mono HM1.out.size)
  have o0 := (HW.out I1 HI1.out).o0
  dsimp only at o0
  clear hbI1 n0 n1 o1 o2
  rcases hk with ⟨rfl, hno⟩ | ⟨i, p, rfl, hp, hkey⟩
  · have HNo : Hid (Mp.look q sp ch = none) := look_nil HE.out.1 hno
    clear hno
    obtain ⟨⟨n0, n1, _, _⟩, _, o1, o2, _, _, _, _, _, _, _, _⟩ := HW.out I1 HI1.out
    go_wp2_with fail
    refine (HP.out I1 HI1.out).mono ?_
    rintro e Y ⟨p', n', c', rfl, hM1, HMk⟩
    have HbY : Hid (Below u.heap.size u Y) := HI1.out.trans (hM1.mono HI1.out.size)
    clear n0 n1 o0 o1 o2 hM1
    obtain ⟨g1, g2, g3⟩ := ex9_cells (HW.out Y HbY.out).r (HW.out Y HbY.out).p (by have := HB.out; omega) (.slice p' n' c') (.slice po off.length co) (.int .i64 0) (.int .i64 0) (.slice none 0 0)
    have HOut : Hid (Q (.returned (.tuple #[.agg #[.slice p' n' c', .slice po off.length co], .agg #[.int .i64 0, .int .i64 0, .slice none 0 0]])) (ex9 Y br bp (.slice p' n' c') (.slice po off.length co) (.int .i64 0) (.int .i64 0) (.slice none 0 0))) := HQ.out _ _ (by
      have ei : Mp.dDo q ⟨1, sp, ch, us, te, tt, to, fr, mo⟩ = (Mp.put q ⟨sp, ch, [], []⟩, ⟨0, 0, []⟩) := by
        unfold Mp.dDo
        rw [if_neg (by rw [HMay.out]; decide)]; dsimp only; rw [if_pos rfl]
        try dsimp only
        rw [HNo.out]
      rw [ei]
      obtain ⟨hn', hM⟩ := HMk.out
      subst hn'
      exact DoR.put HD.out HE.out.1 HE.out.2.1 HL.out (HU.out.trans (HI1.out.mono HU.out.size)) HI1.out.size (by have := HB.out; omega) (by have := HB.out; omega) (r' := ⟨⟨sp, ch, [], []⟩, none, 0, none, 0⟩) hM ⟨⟨RowC.nil _ _ _, RowC.nil _ _ _⟩, fun g hg => by simp [Rw.vm, cBlk] at hg, fun g hg => by simp [Rw.vp, cBlk] at hg⟩ 0)
    obtain ⟨z0, z1, h0, h1⟩ := (HW.out Y HbY.out).r
    obtain ⟨y0, y1, y2, j0, j1, j2⟩ := g1
    obtain ⟨x0, x1, _, _⟩ := g2
    obtain ⟨x2, x3, x4, _, _, _⟩ := g3
    obtain ⟨F, hF⟩ : ∃ F, F = ex9 Y br bp (.slice p' n' c') (.slice po off.length co) (.int .i64 0) (.int .i64 0) (.slice none 0 0) := ⟨_, rfl⟩
    rw [← hF] at HOut x0 x1 x2 x3 x4
    unfold ex9 at hF
    go_wp2
    rw [← hF]
    clear hF
    refine bodyPost_ret (v := .tuple #[.agg #[.slice p' n' c', .slice po off.length co], .agg #[.int .i64 0, .int .i64 0, .slice none 0 0]]) ?qres rfl ?qpost
    case qres => simp [results, Try.results20, go_sem, x0, x1, x2, x3, x4]
    case qpost => exact HOut.out

  · have HYes : Hid (Mp.look q sp ch = some p.cn) := look_some HE.out.1 HE.out.2.2.1 (List.mem_of_getElem? hp) hkey
    clear hp hkey
    have hi0 : (0 : Int) ≤ (i : Int) := by omega
    obtain ⟨n0, n1, _, _⟩ := (HW.out I1 HI1.out).m
    go_wp2_with fail
    refine (no_c I1 _ _ _ _ _ _ 90).mono ?_
    rintro e N1 ⟨rfl, hbN1⟩
    have HN1 : Hid (Below u.heap.size u N1) := HI1.out.trans (hbN1.mono HI1.out.size)
    clear hbN1 n0 n1

    obtain ⟨g1, g2, g3⟩ := ex9_cells (HW.out N1 HN1.out).r (HW.out N1 HN1.out).p (by have := HB.out; omega) (.slice pl t.length cl) (.slice po off.length co) (.int .i64 90) (.int .i64 0) (.slice none 0 0)
    have HOut : Hid (Q (.returned (.tuple #[.agg #[.slice pl t.length cl, .slice po off.length co], .agg #[.int .i64 90, .int .i64 0, .slice none 0 0]])) (ex9 N1 br bp (.slice pl t.length cl) (.slice po off.length co) (.int .i64 90) (.int .i64 0) (.slice none 0 0))) := HQ.out _ _ (by unfold Mp.dDo; rw [if_neg (by rw [HMay.out]; decide)]; dsimp only; rw [if_pos rfl]; (try dsimp only); rw [HYes.out]; exact DoR.no HD.out HE.out.1 HE.out.2.1 (ex9_below (HU.out.trans (HN1.out.mono HU.out.size)) (by have := HB.out; omega) (by have := HB.out; omega) _ _ _ _ _) _)
    obtain ⟨z0, z1, h0, h1⟩ := (HW.out N1 HN1.out).r
    obtain ⟨y0, y1, y2, j0, j1, j2⟩ := g1
    obtain ⟨x0, x1, _, _⟩ := g2
    obtain ⟨x2, x3, x4, _, _, _⟩ := g3
    obtain ⟨F, hF⟩ : ∃ F, F = ex9 N1 br bp (.slice pl t.length cl) (.slice po off.length co) (.int .i64 90) (.int .i64 0) (.slice none 0 0) := ⟨_, rfl⟩
    rw [← hF] at HOut x0 x1 x2 x3 x4
    unfold ex9 at hF
    go_wp2
    rw [← hF]
    clear hF
    refine bodyPost_ret (v := .tuple #[.agg #[.slice pl t.length cl, .slice po off.length co], .agg #[.int .i64 90, .int .i64 0, .slice none 0 0]]) ?qres rfl ?qpost
    case qres => simp [results, Try.results20, go_sem, x0, x1, x2, x3, x4]
    case qpost => exact HOut.out

set_option maxHeartbeats 12800000 in
set_option maxRecDepth 20000 in
theorem rDo_6 {L : Nat → Prop} {w : World} {pl po : Option Addr} {cl co : Nat} {t : List Rw} {off : List ByteArray} {q : Mp.Dm} (h : DvT L w pl cl po co t off) (hq : t.map (·.cn) = q.list) (hoff : off = q.off) (hL : ∀ g, w.heap.size ≤ g → L g) {s : Mo.St} (hRel : Mp.Rel s q) (hn : t.length ≤ 1000000 ∧ off.length ≤ 1000000 ∧ ∀ p ∈ t, p.cn.mems.length ≤ 1000000) (sp ch us te tt to : ByteArray) (fr mo : Int) (hmay : Mo.may ⟨6, sp, ch, us, te, tt, to, fr, mo⟩ = true) (hMay : ∀ X, Calls Try.prog 37 #[.agg #[.int .i64 6, .string sp, .string ch, .string us, .string te, .string tt, .string to, .int .i64 fr, .int .i64 mo]] X fun e X' => e = .returned (.bool (Mo.may ⟨6, sp, ch, us, te, tt, to, fr, mo⟩)) ∧ Below X.heap.size X X') :
    Calls Try.prog 20 #[.agg #[.slice pl t.length cl, .slice po off.length co], .agg #[.int .i64 6, .string sp, .string ch, .string us, .string te, .string tt, .string to, .int .i64 fr, .int .i64 mo]] w (DoR L w (Mp.dDo q ⟨6, sp, ch, us, te, tt, to, fr, mo⟩)) := by
  obtain ⟨u, hu, hbu, hus, hWi⟩ := Di.start w (.slice pl t.length cl) (.slice po off.length co) ⟨6, sp, ch, us, te, tt, to, fr, mo⟩
  dsimp only at hu
  obtain ⟨bn, hbn⟩ : ∃ bn, bn = w.heap.size := ⟨_, rfl⟩
  obtain ⟨bo, hbo⟩ : ∃ bo, bo = w.heap.size + 1 := ⟨_, rfl⟩
  obtain ⟨br, hbr⟩ : ∃ br, br = w.heap.size + 1 + 1 := ⟨_, rfl⟩
  obtain ⟨bp, hbp⟩ : ∃ bp, bp = w.heap.size + 1 + 1 + 1 := ⟨_, rfl⟩
  rw [← hbp, ← hbr, ← hbo, ← hbn] at hWi
  have HW : Hid (∀ X, Below u.heap.size u X → Di bn bo br bp (.slice pl t.length cl) (.slice po off.length co) ⟨6, sp, ch, us, te, tt, to, fr, mo⟩ X) := fun X hX => hWi.below hX
  have HB : Hid (bn = w.heap.size ∧ bo = w.heap.size + 1 ∧ br = w.heap.size + 2 ∧ bp = w.heap.size + 3 ∧ u.heap.size = w.heap.size + 4) := ⟨hbn, hbo, by omega, by omega, hus⟩
  have HU : Hid (Below w.heap.size w u) := hbu
  have HD : Hid (DvT L w pl cl po co t off) := h
  have HL : Hid (∀ g, w.heap.size ≤ g → L g) := hL
  have HRel : Hid (Mp.Rel s q) := hRel
  have hst := sorted_cn hq hRel.rise
  have HE : Hid (t.map (·.cn) = q.list ∧ off = q.off ∧ Mp.Sorted Rw.key Mp.ltK t ∧ t.length ≤ 1000000 ∧ off.length ≤ 1000000 ∧ ∀ p ∈ t, p.cn.mems.length ≤ 1000000) := ⟨hq, hoff, hst, hn⟩
  have HMay : Hid (Mo.may ⟨6, sp, ch, us, te, tt, to, fr, mo⟩ = true) := hmay
  have HMc : Hid (∀ X, Calls Try.prog 37 #[.agg #[.int .i64 6, .string sp, .string ch, .string us, .string te, .string tt, .string to, .int .i64 fr, .int .i64 mo]] X fun e X' => e = .returned (.bool true) ∧ Below X.heap.size X X') := fun X => by
    have h9 := hMay X
    rw [hmay] at h9
    exact h9
  have HF : Hid (∀ X, Below u.heap.size u X → Calls Try.prog 39 #[.agg #[.slice pl t.length cl, .slice po off.length co], .string sp, .string ch] X fun e w' => ∃ k : Int, e = .returned (.int .i64 k) ∧ Where t sp ch k ∧ Below X.heap.size X w') := fun X hX => rFind_c (HD.out.ls.below (HU.out.trans (hX.mono HU.out.size))) HE.out.2.2.2.1 po off.length co sp ch
  generalize hQ : DoR L w (Mp.dDo q ⟨6, sp, ch, us, te, tt, to, fr, mo⟩) = Q
  have HQ : Hid (∀ e w', DoR L w (Mp.dDo q ⟨6, sp, ch, us, te, tt, to, fr, mo⟩) e w' → Q e w') := fun e w' h => by rw [← hQ]; exact h
  have HP : Hid (∀ X, Below u.heap.size u X → Calls Try.prog 41 #[.agg #[.slice pl t.length cl, .slice po off.length co], .string sp] X fun e Y => ∃ p' n' c', e = .returned (.agg #[.slice p' n' c', .slice po off.length co]) ∧ Below X.heap.size X Y ∧ Hid (n' = (t.filter (notSp sp)).length ∧ Mk X Y 4 (.slice p' (t.filter (notSp sp)).length c') (t.filter (notSp sp)).length (lsC (t.filter (notSp sp))))) := fun X hX => by
    refine (rClose_c (HD.out.ls.below (HU.out.trans (hX.mono HU.out.size))) HE.out.2.2.2.1 po off.length co sp).mono ?_
    rintro e Y ⟨p', c', rfl, hM⟩
    exact ⟨p', _, c', rfl, hM.1, rfl, hM⟩
  clear h hbu hWi hQ hus hL hq hoff hRel hst hn hmay hMay 
  go_enter Try.func20, Try.ntmps20
  go_upto_region 1 with fail
  rw [← hu, ← hbp, ← hbr, ← hbo, ← hbn]
  clear hu hbp hbr hbo hbn
  have H0 : Hid (Below u.heap.size u u) := Below.refl _ _
  obtain ⟨_, o0, o1, o2, o3, o4, o5, o6, o7, o8, _, _⟩ := HW.out u H0.out
  dsimp only at o0
  go_wp2_with fail
  refine (HMc.out u).mono ?_
  rintro e M1 ⟨rfl, hbM1⟩
  have HM1 : Hid (Below u.heap.size u M1) := hbM1
  clear hbM1 o0 o1 o2 o3 o4 o5 o6 o7 o8
  obtain ⟨⟨n0, n1, _, _⟩, _, o1, o2, _, _, _, _, _, _, _, _⟩ := HW.out M1 HM1.out
  go_wp2_with fail
  refine (HF.out M1 HM1.out).mono ?_
  rintro e I1 ⟨k, rfl, hk, hbI1⟩
  have HI1 : Hid (Below u.heap.size u I1) := HM1.out.trans (hbI1.mono HM1.out.size)
  have o0 := (HW.out I1 HI1.out).o0
  dsimp only at o0
  clear hbI1 n0 n1 o1 o2
  clear hk
  obtain ⟨⟨n0, n1, _, _⟩, _, o1, o2, _, _, _, _, _, _, _, _⟩ := HW.out I1 HI1.out
  go_wp2_with fail
  refine (HP.out I1 HI1.out).mono ?_
  rintro e Y ⟨p', n', c', rfl, hM1, HMk⟩
  have HbY : Hid (Below u.heap.size u Y) := HI1.out.trans (hM1.mono HI1.out.size)
  clear n0 n1 o0 o1 o2 hM1
  obtain ⟨g1, g2, g3⟩ := ex9_cells (HW.out Y HbY.out).r (HW.out Y HbY.out).p (by have := HB.out; omega) (.slice p' n' c') (.slice po off.length co) (.int .i64 0) (.int .i64 0) (.slice none 0 0)
  have HOut : Hid (Q (.returned (.tuple #[.agg #[.slice p' n' c', .slice po off.length co], .agg #[.int .i64 0, .int .i64 0, .slice none 0 0]])) (ex9 Y br bp (.slice p' n' c') (.slice po off.length co) (.int .i64 0) (.int .i64 0) (.slice none 0 0))) := HQ.out _ _ (by
    have ei : Mp.dDo q ⟨6, sp, ch, us, te, tt, to, fr, mo⟩ = (Mp.close q sp, ⟨0, 0, []⟩) := by
      unfold Mp.dDo
      rw [if_neg (by rw [HMay.out]; decide)]; dsimp only; rw [if_neg (by decide), if_pos rfl]
    rw [ei]
    obtain ⟨hn', hM⟩ := HMk.out
    subst hn'
    have hof := HE.out.2.1
    subst hof
    have b1 : DvT (Lp L w u.heap.size) w pl cl po co t q.off := HD.out.weak (fun g hg hl => ⟨hg, .inl hl⟩)
    have b2 := b1.below (HU.out.trans (HI1.out.mono HU.out.size))
    have b3 := b2.relist (fun g hg => ⟨HL.out g (by have := HU.out.size; have := HI1.out.size; omega), .inr (by have := HI1.out.size; omega)⟩) hM (fun p hp => .inl (List.mem_filter.1 hp).1)
    refine DoR.lists (q' := Mp.close q sp) b3 ?_ (HU.out.trans (HbY.out.mono HU.out.size)) (by have := HB.out; omega) (by have := HB.out; omega)
    show List.map _ (List.filter _ t) = List.filter _ q.list
    rw [← HE.out.1, List.filter_map]
    rfl)
  obtain ⟨z0, z1, h0, h1⟩ := (HW.out Y HbY.out).r
  obtain ⟨y0, y1, y2, j0, j1, j2⟩ := g1
  obtain ⟨x0, x1, _, _⟩ := g2
  obtain ⟨x2, x3, x4, _, _, _⟩ := g3
  obtain ⟨F, hF⟩ : ∃ F, F = ex9 Y br bp (.slice p' n' c') (.slice po off.length co) (.int .i64 0) (.int .i64 0) (.slice none 0 0) := ⟨_, rfl⟩
  rw [← hF] at HOut x0 x1 x2 x3 x4
  unfold ex9 at hF
  go_wp2
  rw [← hF]
  clear hF
  refine bodyPost_ret (v := .tuple #[.agg #[.slice p' n' c', .slice po off.length co], .agg #[.int .i64 0, .int .i64 0, .slice none 0 0]]) ?qres rfl ?qpost
  case qres => simp [results, Try.results20, go_sem, x0, x1, x2, x3, x4]
  case qpost => exact HOut.out

set_option maxHeartbeats 12800000 in
set_option maxRecDepth 20000 in
theorem rDo_7 {L : Nat → Prop} {w : World} {pl po : Option Addr} {cl co : Nat} {t : List Rw} {off : List ByteArray} {q : Mp.Dm} (h : DvT L w pl cl po co t off) (hq : t.map (·.cn) = q.list) (hoff : off = q.off) (hL : ∀ g, w.heap.size ≤ g → L g) {s : Mo.St} (hRel : Mp.Rel s q) (hn : t.length ≤ 1000000 ∧ off.length ≤ 1000000 ∧ ∀ p ∈ t, p.cn.mems.length ≤ 1000000) (sp ch us te tt to : ByteArray) (fr mo : Int) (hmay : Mo.may ⟨7, sp, ch, us, te, tt, to, fr, mo⟩ = true) (hMay : ∀ X, Calls Try.prog 37 #[.agg #[.int .i64 7, .string sp, .string ch, .string us, .string te, .string tt, .string to, .int .i64 fr, .int .i64 mo]] X fun e X' => e = .returned (.bool (Mo.may ⟨7, sp, ch, us, te, tt, to, fr, mo⟩)) ∧ Below X.heap.size X X') :
    Calls Try.prog 20 #[.agg #[.slice pl t.length cl, .slice po off.length co], .agg #[.int .i64 7, .string sp, .string ch, .string us, .string te, .string tt, .string to, .int .i64 fr, .int .i64 mo]] w (DoR L w (Mp.dDo q ⟨7, sp, ch, us, te, tt, to, fr, mo⟩)) := by
  obtain ⟨u, hu, hbu, hus, hWi⟩ := Di.start w (.slice pl t.length cl) (.slice po off.length co) ⟨7, sp, ch, us, te, tt, to, fr, mo⟩
  dsimp only at hu
  obtain ⟨bn, hbn⟩ : ∃ bn, bn = w.heap.size := ⟨_, rfl⟩
  obtain ⟨bo, hbo⟩ : ∃ bo, bo = w.heap.size + 1 := ⟨_, rfl⟩
  obtain ⟨br, hbr⟩ : ∃ br, br = w.heap.size + 1 + 1 := ⟨_, rfl⟩
  obtain ⟨bp, hbp⟩ : ∃ bp, bp = w.heap.size + 1 + 1 + 1 := ⟨_, rfl⟩
  rw [← hbp, ← hbr, ← hbo, ← hbn] at hWi
  have HW : Hid (∀ X, Below u.heap.size u X → Di bn bo br bp (.slice pl t.length cl) (.slice po off.length co) ⟨7, sp, ch, us, te, tt, to, fr, mo⟩ X) := fun X hX => hWi.below hX
  have HB : Hid (bn = w.heap.size ∧ bo = w.heap.size + 1 ∧ br = w.heap.size + 2 ∧ bp = w.heap.size + 3 ∧ u.heap.size = w.heap.size + 4) := ⟨hbn, hbo, by omega, by omega, hus⟩
  have HU : Hid (Below w.heap.size w u) := hbu
  have HD : Hid (DvT L w pl cl po co t off) := h
  have HL : Hid (∀ g, w.heap.size ≤ g → L g) := hL
  have HRel : Hid (Mp.Rel s q) := hRel
  have hst := sorted_cn hq hRel.rise
  have HE : Hid (t.map (·.cn) = q.list ∧ off = q.off ∧ Mp.Sorted Rw.key Mp.ltK t ∧ t.length ≤ 1000000 ∧ off.length ≤ 1000000 ∧ ∀ p ∈ t, p.cn.mems.length ≤ 1000000) := ⟨hq, hoff, hst, hn⟩
  have HMay : Hid (Mo.may ⟨7, sp, ch, us, te, tt, to, fr, mo⟩ = true) := hmay
  have HMc : Hid (∀ X, Calls Try.prog 37 #[.agg #[.int .i64 7, .string sp, .string ch, .string us, .string te, .string tt, .string to, .int .i64 fr, .int .i64 mo]] X fun e X' => e = .returned (.bool true) ∧ Below X.heap.size X X') := fun X => by
    have h9 := hMay X
    rw [hmay] at h9
    exact h9
  have HF : Hid (∀ X, Below u.heap.size u X → Calls Try.prog 39 #[.agg #[.slice pl t.length cl, .slice po off.length co], .string sp, .string ch] X fun e w' => ∃ k : Int, e = .returned (.int .i64 k) ∧ Where t sp ch k ∧ Below X.heap.size X w') := fun X hX => rFind_c (HD.out.ls.below (HU.out.trans (hX.mono HU.out.size))) HE.out.2.2.2.1 po off.length co sp ch
  generalize hQ : DoR L w (Mp.dDo q ⟨7, sp, ch, us, te, tt, to, fr, mo⟩) = Q
  have HQ : Hid (∀ e w', DoR L w (Mp.dDo q ⟨7, sp, ch, us, te, tt, to, fr, mo⟩) e w' → Q e w') := fun e w' h => by rw [← hQ]; exact h
  have HInO : Hid (∀ X, Below u.heap.size u X → Calls Try.prog 15 #[.slice po off.length co, .string us] X fun e w' => e = .returned (.bool (Mp.isIn us off)) ∧ Below X.heap.size X w') := fun X hX => In_dec (HD.out.os.below (HU.out.trans (hX.mono HU.out.size))) us
  have HP : Hid (us ∉ off → ∀ X, Below u.heap.size u X → Calls Try.prog 42 #[.agg #[.slice pl t.length cl, .slice po off.length co], .string us] X fun e Y => ∃ p' n' c' p2 n2 c2, e = .returned (.agg #[.slice p' n' c', .slice p2 n2 c2]) ∧ Below X.heap.size X Y ∧ Hid (OffOut X t off us (.returned (.agg #[.slice p' n' c', .slice p2 n2 c2])) Y)) := fun hno X hX => by
    have hwX := HU.out.trans (hX.mono HU.out.size)
    refine (rOff_c (HD.out.ls.below hwX) HE.out.2.2.2.1 (fun p hp => ⟨(HD.out.rows p hp).1.below hwX, HE.out.2.2.2.2.2 p hp⟩) (HD.out.os.below hwX) HE.out.2.2.2.2.1 us hno (by rw [HE.out.2.1]; exact HRel.out.offS)).mono ?_
    intro e Y hO
    obtain ⟨p', c', p2, c2, t', rfl, hb, _⟩ := id hO
    exact ⟨_, _, _, _, _, _, rfl, hb, hO⟩
  clear h hbu hWi hQ hus hL hq hoff hRel hst hn hmay hMay 
  go_enter Try.func20, Try.ntmps20
  go_upto_region 1 with fail
  rw [← hu, ← hbp, ← hbr, ← hbo, ← hbn]
  clear hu hbp hbr hbo hbn
  have H0 : Hid (Below u.heap.size u u) := Below.refl _ _
  obtain ⟨_, o0, o1, o2, o3, o4, o5, o6, o7, o8, _, _⟩ := HW.out u H0.out
  dsimp only at o0
  go_wp2_with fail
  refine (HMc.out u).mono ?_
  rintro e M1 ⟨rfl, hbM1⟩
  have HM1 : Hid (Below u.heap.size u M1) := hbM1
  clear hbM1 o0 o1 o2 o3 o4 o5 o6 o7 o8
  obtain ⟨⟨n0, n1, _, _⟩, _, o1, o2, _, _, _, _, _, _, _, _⟩ := HW.out M1 HM1.out
  go_wp2_with fail
  refine (HF.out M1 HM1.out).mono ?_
  rintro e I1 ⟨k, rfl, hk, hbI1⟩
  have HI1 : Hid (Below u.heap.size u I1) := HM1.out.trans (hbI1.mono HM1.out.size)
  have o0 := (HW.out I1 HI1.out).o0
  dsimp only at o0
  clear hbI1 n0 n1 o1 o2
  clear hk
  obtain ⟨⟨n0, n1, _, _⟩, _, _, _, o3, _, _, _, _, _, _, _⟩ := HW.out I1 HI1.out
  go_wp2_with fail
  refine (HInO.out I1 HI1.out).mono ?_
  rintro e I2 ⟨rfl, hbI2⟩
  have HI2 : Hid (Below u.heap.size u I2) := HI1.out.trans (hbI2.mono HI1.out.size)
  clear hbI2 n0 n1 o0 o3
  by_cases e1 : Mp.isIn us off = true
  · rw [e1]
    obtain ⟨n0, n1, _, _⟩ := (HW.out I2 HI2.out).m
    go_wp2_with fail
    refine (no_c I2 _ _ _ _ _ _ 92).mono ?_
    rintro e N1 ⟨rfl, hbN1⟩
    have HN1 : Hid (Below u.heap.size u N1) := HI2.out.trans (hbN1.mono HI2.out.size)
    clear hbN1 n0 n1

    obtain ⟨g1, g2, g3⟩ := ex9_cells (HW.out N1 HN1.out).r (HW.out N1 HN1.out).p (by have := HB.out; omega) (.slice pl t.length cl) (.slice po off.length co) (.int .i64 92) (.int .i64 0) (.slice none 0 0)
    have HOut : Hid (Q (.returned (.tuple #[.agg #[.slice pl t.length cl, .slice po off.length co], .agg #[.int .i64 92, .int .i64 0, .slice none 0 0]])) (ex9 N1 br bp (.slice pl t.length cl) (.slice po off.length co) (.int .i64 92) (.int .i64 0) (.slice none 0 0))) := HQ.out _ _ (by have e2 := e1; rw [HE.out.2.1] at e2; unfold Mp.dDo; rw [if_neg (by rw [HMay.out]; decide)]; dsimp only; rw [if_neg (by decide), if_neg (by decide), if_pos rfl]; (try dsimp only); rw [if_pos e2]; exact DoR.no HD.out HE.out.1 HE.out.2.1 (ex9_below (HU.out.trans (HN1.out.mono HU.out.size)) (by have := HB.out; omega) (by have := HB.out; omega) _ _ _ _ _) _)
    obtain ⟨z0, z1, h0, h1⟩ := (HW.out N1 HN1.out).r
    obtain ⟨y0, y1, y2, j0, j1, j2⟩ := g1
    obtain ⟨x0, x1, _, _⟩ := g2
    obtain ⟨x2, x3, x4, _, _, _⟩ := g3
    obtain ⟨F, hF⟩ : ∃ F, F = ex9 N1 br bp (.slice pl t.length cl) (.slice po off.length co) (.int .i64 92) (.int .i64 0) (.slice none 0 0) := ⟨_, rfl⟩
    rw [← hF] at HOut x0 x1 x2 x3 x4
    unfold ex9 at hF
    go_wp2
    rw [← hF]
    clear hF
    refine bodyPost_ret (v := .tuple #[.agg #[.slice pl t.length cl, .slice po off.length co], .agg #[.int .i64 92, .int .i64 0, .slice none 0 0]]) ?qres rfl ?qpost
    case qres => simp [results, Try.results20, go_sem, x0, x1, x2, x3, x4]
    case qpost => exact HOut.out

  · rw [Bool.eq_false_iff.2 e1]
    obtain ⟨⟨n0, n1, _, _⟩, _, _, _, o3, _, _, _, _, _, _, _⟩ := HW.out I2 HI2.out
    go_wp2_with fail
    refine (HP.out (Mp.isIn_no.1 (Bool.eq_false_iff.2 e1)) I2 HI2.out).mono ?_
    rintro e Y ⟨p', n', c', p2, n2, c2, rfl, hM1, HMk⟩
    have HbY : Hid (Below u.heap.size u Y) := HI2.out.trans (hM1.mono HI2.out.size)
    clear n0 n1 o3 hM1
    obtain ⟨g1, g2, g3⟩ := ex9_cells (HW.out Y HbY.out).r (HW.out Y HbY.out).p (by have := HB.out; omega) (.slice p' n' c') (.slice p2 n2 c2) (.int .i64 0) (.int .i64 0) (.slice none 0 0)
    have HOut : Hid (Q (.returned (.tuple #[.agg #[.slice p' n' c', .slice p2 n2 c2], .agg #[.int .i64 0, .int .i64 0, .slice none 0 0]])) (ex9 Y br bp (.slice p' n' c') (.slice p2 n2 c2) (.int .i64 0) (.int .i64 0) (.slice none 0 0))) := HQ.out _ _ (by
      have e2 := e1
      rw [HE.out.2.1] at e2
      have ei : Mp.dDo q ⟨7, sp, ch, us, te, tt, to, fr, mo⟩ = (Mp.offD q us, ⟨0, 0, []⟩) := by
        unfold Mp.dDo
        rw [if_neg (by rw [HMay.out]; decide)]; dsimp only; rw [if_neg (by decide), if_neg (by decide), if_pos rfl]
        try dsimp only
        rw [if_neg e2]
      rw [ei]
      obtain ⟨q1, k1, q2, k2, t', hv, hb, hls, hos, hbl, hbo, hro, hms⟩ := HMk.out
      injection hv with hv
      injection hv with hv
      simp only [Array.mk.injEq, List.cons.injEq, Value.slice.injEq, and_true] at hv
      obtain ⟨⟨v1, v2, v3⟩, v4, v5, v6⟩ := hv
      subst v1 v2 v3 v4 v5 v6
      have hof := HE.out.2.1
      subst hof
      have hus := HI2.out.size
      have hwX := HU.out.trans (HI2.out.mono HU.out.size)
      have hLI : ∀ g, I2.heap.size ≤ g → Lp L w u.heap.size g := fun g hg => ⟨HL.out g (by have := HU.out.size; omega), .inr (by omega)⟩
      have hD : DvT (Lp L w u.heap.size) Y p' c' p2 c2 t' (Mp.offD q us).off := by
        refine ⟨hls, hos, fun p hp => ⟨(hms p hp).1, ?_⟩, fun g hg => hLI g (hbl g hg), fun g hg => hLI g (hbo g hg), fun p hp => ⟨fun g hg => hLI g ((hms p hp).2 g hg), ?_⟩⟩
        · obtain ⟨p0, hp0, a1, a2, a3⟩ := hro.2 p hp
          have h9 := (HD.out.rows p0 hp0).2
          have hwY := hwX.trans (hb.mono hwX.size)
          have h8 := RowC.carry h9 (fun g hg => hwY.block g (RowC.lt h9 (by decide) hg))
          unfold Rw.vp at h8 ⊢
          rw [a1, a2, a3]
          exact h8
        · obtain ⟨p0, hp0, a1, a2, a3⟩ := hro.2 p hp
          intro g hg
          unfold Rw.vp at hg
          rw [a1, a2, a3] at hg
          exact ⟨(HD.out.br p0 hp0).2 g hg, .inl (RowC.lt (HD.out.rows p0 hp0).2 (by decide) hg)⟩
      refine DoR.lists (q' := Mp.offD q us) hD ?_ (HU.out.trans (HbY.out.mono HU.out.size)) (by have := HB.out; omega) (by have := HB.out; omega)
      rw [hro.1]
      show _ = List.map _ q.list
      rw [← HE.out.1, List.map_map]
      rfl)
    obtain ⟨z0, z1, h0, h1⟩ := (HW.out Y HbY.out).r
    obtain ⟨y0, y1, y2, j0, j1, j2⟩ := g1
    obtain ⟨x0, x1, _, _⟩ := g2
    obtain ⟨x2, x3, x4, _, _, _⟩ := g3
    obtain ⟨F, hF⟩ : ∃ F, F = ex9 Y br bp (.slice p' n' c') (.slice p2 n2 c2) (.int .i64 0) (.int .i64 0) (.slice none 0 0) := ⟨_, rfl⟩
    rw [← hF] at HOut x0 x1 x2 x3 x4
    unfold ex9 at hF
    go_wp2
    rw [← hF]
    clear hF
    refine bodyPost_ret (v := .tuple #[.agg #[.slice p' n' c', .slice p2 n2 c2], .agg #[.int .i64 0, .int .i64 0, .slice none 0 0]]) ?qres rfl ?qpost
    case qres => simp [results, Try.results20, go_sem, x0, x1, x2, x3, x4]
    case qpost => exact HOut.out

end Go.Proofs.Ytkioeahlajjmiaa

/-
  The document's Do: kind 2.
-/
namespace Go.Proofs.Ytkioeahlajjmiaa
open Go.RowKit

set_option maxHeartbeats 12800000 in
set_option maxRecDepth 20000 in
theorem rDo_2 {L : Nat → Prop} {w : World} {pl po : Option Addr} {cl co : Nat} {t : List Rw} {off : List ByteArray} {q : Mp.Dm} (h : DvT L w pl cl po co t off) (hq : t.map (·.cn) = q.list) (hoff : off = q.off) (hL : ∀ g, w.heap.size ≤ g → L g) {s : Mo.St} (hRel : Mp.Rel s q) (hn : t.length ≤ 1000000 ∧ off.length ≤ 1000000 ∧ ∀ p ∈ t, p.cn.mems.length ≤ 1000000) (sp ch us te tt to : ByteArray) (fr mo : Int) (hmay : Mo.may ⟨2, sp, ch, us, te, tt, to, fr, mo⟩ = true) (hMay : ∀ X, Calls Try.prog 37 #[.agg #[.int .i64 2, .string sp, .string ch, .string us, .string te, .string tt, .string to, .int .i64 fr, .int .i64 mo]] X fun e X' => e = .returned (.bool (Mo.may ⟨2, sp, ch, us, te, tt, to, fr, mo⟩)) ∧ Below X.heap.size X X') :
    Calls Try.prog 20 #[.agg #[.slice pl t.length cl, .slice po off.length co], .agg #[.int .i64 2, .string sp, .string ch, .string us, .string te, .string tt, .string to, .int .i64 fr, .int .i64 mo]] w (DoR L w (Mp.dDo q ⟨2, sp, ch, us, te, tt, to, fr, mo⟩)) := by
  obtain ⟨u, hu, hbu, hus, hWi⟩ := Di.start w (.slice pl t.length cl) (.slice po off.length co) ⟨2, sp, ch, us, te, tt, to, fr, mo⟩
  dsimp only at hu
  obtain ⟨bn, hbn⟩ : ∃ bn, bn = w.heap.size := ⟨_, rfl⟩
  obtain ⟨bo, hbo⟩ : ∃ bo, bo = w.heap.size + 1 := ⟨_, rfl⟩
  obtain ⟨br, hbr⟩ : ∃ br, br = w.heap.size + 1 + 1 := ⟨_, rfl⟩
  obtain ⟨bp, hbp⟩ : ∃ bp, bp = w.heap.size + 1 + 1 + 1 := ⟨_, rfl⟩
  rw [← hbp, ← hbr, ← hbo, ← hbn] at hWi
  have HW : Hid (∀ X, Below u.heap.size u X → Di bn bo br bp (.slice pl t.length cl) (.slice po off.length co) ⟨2, sp, ch, us, te, tt, to, fr, mo⟩ X) := fun X hX => hWi.below hX
  have HB : Hid (bn = w.heap.size ∧ bo = w.heap.size + 1 ∧ br = w.heap.size + 2 ∧ bp = w.heap.size + 3 ∧ u.heap.size = w.heap.size + 4) := ⟨hbn, hbo, by omega, by omega, hus⟩
  have HU : Hid (Below w.heap.size w u) := hbu
  have HD : Hid (DvT L w pl cl po co t off) := h
  have HL : Hid (∀ g, w.heap.size ≤ g → L g) := hL
  have HRel : Hid (Mp.Rel s q) := hRel
  have hst := sorted_cn hq hRel.rise
  have HE : Hid (t.map (·.cn) = q.list ∧ off = q.off ∧ Mp.Sorted Rw.key Mp.ltK t ∧ t.length ≤ 1000000 ∧ off.length ≤ 1000000 ∧ ∀ p ∈ t, p.cn.mems.length ≤ 1000000) := ⟨hq, hoff, hst, hn⟩
  have HMay : Hid (Mo.may ⟨2, sp, ch, us, te, tt, to, fr, mo⟩ = true) := hmay
  have HMc : Hid (∀ X, Calls Try.prog 37 #[.agg #[.int .i64 2, .string sp, .string ch, .string us, .string te, .string tt, .string to, .int .i64 fr, .int .i64 mo]] X fun e X' => e = .returned (.bool true) ∧ Below X.heap.size X X') := fun X => by
    have h9 := hMay X
    rw [hmay] at h9
    exact h9
  have HF : Hid (∀ X, Below u.heap.size u X → Calls Try.prog 39 #[.agg #[.slice pl t.length cl, .slice po off.length co], .string sp, .string ch] X fun e w' => ∃ k : Int, e = .returned (.int .i64 k) ∧ Where t sp ch k ∧ Below X.heap.size X w') := fun X hX => rFind_c (HD.out.ls.below (HU.out.trans (hX.mono HU.out.size))) HE.out.2.2.2.1 po off.length co sp ch
  generalize hQ : DoR L w (Mp.dDo q ⟨2, sp, ch, us, te, tt, to, fr, mo⟩) = Q
  have HQ : Hid (∀ e w', DoR L w (Mp.dDo q ⟨2, sp, ch, us, te, tt, to, fr, mo⟩) e w' → Q e w') := fun e w' h => by rw [← hQ]; exact h
  clear h hbu hWi hQ hus hL hq hoff hRel hst hn hmay hMay 
  go_enter Try.func20, Try.ntmps20
  go_upto_region 1 with fail
  rw [← hu, ← hbp, ← hbr, ← hbo, ← hbn]
  clear hu hbp hbr hbo hbn
  have H0 : Hid (Below u.heap.size u u) := Below.refl _ _
  obtain ⟨_, o0, o1, o2, o3, o4, o5, o6, o7, o8, _, _⟩ := HW.out u H0.out
  dsimp only at o0
  go_wp2_with fail
  refine (HMc.out u).mono ?_
  rintro e M1 ⟨rfl, hbM1⟩
  have HM1 : Hid (Below u.heap.size u M1) := hbM1
  clear hbM1 o0 o1 o2 o3 o4 o5 o6 o7 o8
  obtain ⟨⟨n0, n1, _, _⟩, _, o1, o2, _, _, _, _, _, _, _, _⟩ := HW.out M1 HM1.out
  go_wp2_with fail
  refine (HF.out M1 HM1.out).mono ?_
  rintro e I1 ⟨k, rfl, hk, hbI1⟩
  have HI1 : Hid (Below u.heap.size u I1) := HM1.out.trans (hbI1.mono HM1.out.size)
  have o0 := (HW.out I1 HI1.out).o0
  dsimp only at o0
  clear hbI1 n0 n1 o1 o2
  rcases hk with ⟨rfl, hno⟩ | ⟨i, p, rfl, hp, hkey⟩
  · have HNo : Hid (Mp.look q sp ch = none) := look_nil HE.out.1 hno
    clear hno
    obtain ⟨n0, n1, _, _⟩ := (HW.out I1 HI1.out).m
    go_wp2_with fail
    refine (no_c I1 _ _ _ _ _ _ 3).mono ?_
    rintro e N1 ⟨rfl, hbN1⟩
    have HN1 : Hid (Below u.heap.size u N1) := HI1.out.trans (hbN1.mono HI1.out.size)
    clear hbN1 n0 n1

    obtain ⟨g1, g2, g3⟩ := ex9_cells (HW.out N1 HN1.out).r (HW.out N1 HN1.out).p (by have := HB.out; omega) (.slice pl t.length cl) (.slice po off.length co) (.int .i64 3) (.int .i64 0) (.slice none 0 0)
    have HOut : Hid (Q (.returned (.tuple #[.agg #[.slice pl t.length cl, .slice po off.length co], .agg #[.int .i64 3, .int .i64 0, .slice none 0 0]])) (ex9 N1 br bp (.slice pl t.length cl) (.slice po off.length co) (.int .i64 3) (.int .i64 0) (.slice none 0 0))) := HQ.out _ _ (by unfold Mp.dDo; rw [if_neg (by rw [HMay.out]; decide)]; dsimp only; rw [if_neg (by decide), if_neg (by decide), if_neg (by decide)]; (try dsimp only); rw [HNo.out]; exact DoR.no HD.out HE.out.1 HE.out.2.1 (ex9_below (HU.out.trans (HN1.out.mono HU.out.size)) (by have := HB.out; omega) (by have := HB.out; omega) _ _ _ _ _) _)
    obtain ⟨z0, z1, h0, h1⟩ := (HW.out N1 HN1.out).r
    obtain ⟨y0, y1, y2, j0, j1, j2⟩ := g1
    obtain ⟨x0, x1, _, _⟩ := g2
    obtain ⟨x2, x3, x4, _, _, _⟩ := g3
    obtain ⟨F, hF⟩ : ∃ F, F = ex9 N1 br bp (.slice pl t.length cl) (.slice po off.length co) (.int .i64 3) (.int .i64 0) (.slice none 0 0) := ⟨_, rfl⟩
    rw [← hF] at HOut x0 x1 x2 x3 x4
    unfold ex9 at hF
    go_wp2
    rw [← hF]
    clear hF
    refine bodyPost_ret (v := .tuple #[.agg #[.slice pl t.length cl, .slice po off.length co], .agg #[.int .i64 3, .int .i64 0, .slice none 0 0]]) ?qres rfl ?qpost
    case qres => simp [results, Try.results20, go_sem, x0, x1, x2, x3, x4]
    case qpost => exact HOut.out

  · have HYes : Hid (Mp.look q sp ch = some p.cn) := look_some HE.out.1 HE.out.2.2.1 (List.mem_of_getElem? hp) hkey
    have hi0 : ¬ (i : Int) < 0 := by omega
    have hi1 : (0 : Int) ≤ (i : Int) := by omega
    have hil : i < t.length := (List.getElem?_eq_some_iff.1 hp).1
    obtain ⟨g, off', hpl, k0, k1, k2, k3⟩ := HD.out.ls.at hp
    have hgl : g < w.heap.size := World.block_lt_of_cell? _ _ k0
    obtain ⟨tl, htl⟩ : ∃ tl, tl = t.length := ⟨_, rfl⟩
    have hi2 : (i : Int) < (tl : Int) := by omega
    have hpm : p.cn ∈ q.list := by rw [← HE.out.1]; exact List.mem_map.2 ⟨p, List.mem_of_getElem? hp, rfl⟩
    have HWn : Hid (∀ X, Below u.heap.size u X → Calls Try.prog 43 #[.agg #[.slice (some ⟨g, off', none⟩) tl cl, .slice po off.length co], .agg #[.string p.cn.space, .string p.cn.name, .slice p.pm p.cn.mems.length p.cm, .slice p.pp p.cn.posts.length p.cp], .agg #[.int .i64 2, .string sp, .string ch, .string us, .string te, .string tt, .string to, .int .i64 fr, .int .i64 mo]] X fun e Y => ∃ p1 n1 c1 p2 n2 c2 e1 e2 p3 n3 c3, e = .returned (.tuple #[.agg #[.slice p1 n1 c1, .slice p2 n2 c2], .agg #[.int .i64 e1, .int .i64 e2, .slice p3 n3 c3]]) ∧ Below X.heap.size X Y ∧ Hid (∀ br bp, Below w.heap.size w X → w.heap.size ≤ br ∧ br < u.heap.size → w.heap.size ≤ bp ∧ bp < u.heap.size → DoR L w (Mp.inner q p.cn ⟨2, sp, ch, us, te, tt, to, fr, mo⟩) (.returned (.tuple #[.agg #[.slice p1 n1 c1, .slice p2 n2 c2], .agg #[.int .i64 e1, .int .i64 e2, .slice p3 n3 c3]])) (ex9 Y br bp (.slice p1 n1 c1) (.slice p2 n2 c2) (.int .i64 e1) (.int .i64 e2) (.slice p3 n3 c3)))) := fun X hX => by
      have b1 : DvT (Lp L w u.heap.size) w pl cl po co t off := HD.out.weak (fun g hg hl => ⟨hg, .inl hl⟩)
      have b2 := b1.below (HU.out.trans (hX.mono HU.out.size))
      have h9 := within2 b2 HE.out.1 HE.out.2.1 (fun g hg => ⟨HL.out g (by have := HU.out.size; have := hX.size; omega), .inr (by have := hX.size; omega)⟩) (List.mem_of_getElem? hp) HE.out.2.2.1 HE.out.2.2.2.1 sp ch us te tt to fr mo (HRel.out.mems _ hpm) (HE.out.2.2.2.2.2 p (List.mem_of_getElem? hp))
      rw [hpl, ← htl] at h9
      exact h9.mono (fun e Y h => DoR.on h)
    have HSx : Hid (∀ X, Below u.heap.size u X → ((X.cell? ⟨bn, 0, none⟩ = some (.slice (some ⟨g, off', none⟩) tl cl) ∧ X.cell? ⟨bn, 1, none⟩ = some (.slice po off.length co)) ∧ (X.cell? ⟨g, off' + i * 4, none⟩ = some (.string p.cn.space) ∧ X.cell? ⟨g, off' + i * 4 + 1, none⟩ = some (.string p.cn.name) ∧ X.cell? ⟨g, off' + i * 4 + 2, none⟩ = some (.slice p.pm p.cn.mems.length p.cm) ∧ X.cell? ⟨g, off' + i * 4 + 3, none⟩ = some (.slice p.pp p.cn.posts.length p.cp)) ∧ X.cell? ⟨bo, 0, none⟩ = some (.int .i64 2) ∧ X.cell? ⟨bo, 1, none⟩ = some (.string sp) ∧ X.cell? ⟨bo, 2, none⟩ = some (.string ch) ∧ X.cell? ⟨bo, 3, none⟩ = some (.string us) ∧ X.cell? ⟨bo, 4, none⟩ = some (.string te) ∧ X.cell? ⟨bo, 5, none⟩ = some (.string tt) ∧ X.cell? ⟨bo, 6, none⟩ = some (.string to) ∧ X.cell? ⟨bo, 7, none⟩ = some (.int .i64 fr) ∧ X.cell? ⟨bo, 8, none⟩ = some (.int .i64 mo))) := fun X hX => by
      have hwX := HU.out.trans (hX.mono HU.out.size)
      obtain ⟨⟨n0, n1, _, _⟩, o0, o1, o2, o3, o4, o5, o6, o7, o8, _, _⟩ := HW.out X hX
      rw [hpl, ← htl] at n0
      exact ⟨⟨n0, n1⟩, ⟨(hwX.cell (p := ⟨g, off' + i * 4, none⟩) hgl).trans k0, (hwX.cell (p := ⟨g, off' + i * 4 + 1, none⟩) hgl).trans k1, (hwX.cell (p := ⟨g, off' + i * 4 + 2, none⟩) hgl).trans k2, (hwX.cell (p := ⟨g, off' + i * 4 + 3, none⟩) hgl).trans k3⟩, o0, o1, o2, o3, o4, o5, o6, o7, o8⟩
    have HKr : Hid (∀ (X : World) (j : Nat) (v : Value), ((X.cell? ⟨bn, 0, none⟩ = some (.slice (some ⟨g, off', none⟩) tl cl) ∧ X.cell? ⟨bn, 1, none⟩ = some (.slice po off.length co)) ∧ (X.cell? ⟨g, off' + i * 4, none⟩ = some (.string p.cn.space) ∧ X.cell? ⟨g, off' + i * 4 + 1, none⟩ = some (.string p.cn.name) ∧ X.cell? ⟨g, off' + i * 4 + 2, none⟩ = some (.slice p.pm p.cn.mems.length p.cm) ∧ X.cell? ⟨g, off' + i * 4 + 3, none⟩ = some (.slice p.pp p.cn.posts.length p.cp)) ∧ X.cell? ⟨bo, 0, none⟩ = some (.int .i64 2) ∧ X.cell? ⟨bo, 1, none⟩ = some (.string sp) ∧ X.cell? ⟨bo, 2, none⟩ = some (.string ch) ∧ X.cell? ⟨bo, 3, none⟩ = some (.string us) ∧ X.cell? ⟨bo, 4, none⟩ = some (.string te) ∧ X.cell? ⟨bo, 5, none⟩ = some (.string tt) ∧ X.cell? ⟨bo, 6, none⟩ = some (.string to) ∧ X.cell? ⟨bo, 7, none⟩ = some (.int .i64 fr) ∧ X.cell? ⟨bo, 8, none⟩ = some (.int .i64 mo)) → (fun X : World => (X.cell? ⟨bn, 0, none⟩ = some (.slice (some ⟨g, off', none⟩) tl cl) ∧ X.cell? ⟨bn, 1, none⟩ = some (.slice po off.length co)) ∧ (X.cell? ⟨g, off' + i * 4, none⟩ = some (.string p.cn.space) ∧ X.cell? ⟨g, off' + i * 4 + 1, none⟩ = some (.string p.cn.name) ∧ X.cell? ⟨g, off' + i * 4 + 2, none⟩ = some (.slice p.pm p.cn.mems.length p.cm) ∧ X.cell? ⟨g, off' + i * 4 + 3, none⟩ = some (.slice p.pp p.cn.posts.length p.cp)) ∧ X.cell? ⟨bo, 0, none⟩ = some (.int .i64 2) ∧ X.cell? ⟨bo, 1, none⟩ = some (.string sp) ∧ X.cell? ⟨bo, 2, none⟩ = some (.string ch) ∧ X.cell? ⟨bo, 3, none⟩ = some (.string us) ∧ X.cell? ⟨bo, 4, none⟩ = some (.string te) ∧ X.cell? ⟨bo, 5, none⟩ = some (.string tt) ∧ X.cell? ⟨bo, 6, none⟩ = some (.string to) ∧ X.cell? ⟨bo, 7, none⟩ = some (.int .i64 fr) ∧ X.cell? ⟨bo, 8, none⟩ = some (.int .i64 mo)) (X.setCell ⟨br, j, none⟩ v)) := fun X j v h => by
      have hne := HB.out
      have n1 : br ≠ bn := by omega
      have n2 : br ≠ g := by omega
      have n3 : br ≠ bo := by omega
      simp only [World.cell?_setCell_far _ ⟨br, j, none⟩ ⟨bn, _, none⟩ _ n1, World.cell?_setCell_far _ ⟨br, j, none⟩ ⟨g, _, none⟩ _ n2, World.cell?_setCell_far _ ⟨br, j, none⟩ ⟨bo, _, none⟩ _ n3]
      exact h
    have HKp : Hid (∀ (X : World) (j : Nat) (v : Value), ((X.cell? ⟨bn, 0, none⟩ = some (.slice (some ⟨g, off', none⟩) tl cl) ∧ X.cell? ⟨bn, 1, none⟩ = some (.slice po off.length co)) ∧ (X.cell? ⟨g, off' + i * 4, none⟩ = some (.string p.cn.space) ∧ X.cell? ⟨g, off' + i * 4 + 1, none⟩ = some (.string p.cn.name) ∧ X.cell? ⟨g, off' + i * 4 + 2, none⟩ = some (.slice p.pm p.cn.mems.length p.cm) ∧ X.cell? ⟨g, off' + i * 4 + 3, none⟩ = some (.slice p.pp p.cn.posts.length p.cp)) ∧ X.cell? ⟨bo, 0, none⟩ = some (.int .i64 2) ∧ X.cell? ⟨bo, 1, none⟩ = some (.string sp) ∧ X.cell? ⟨bo, 2, none⟩ = some (.string ch) ∧ X.cell? ⟨bo, 3, none⟩ = some (.string us) ∧ X.cell? ⟨bo, 4, none⟩ = some (.string te) ∧ X.cell? ⟨bo, 5, none⟩ = some (.string tt) ∧ X.cell? ⟨bo, 6, none⟩ = some (.string to) ∧ X.cell? ⟨bo, 7, none⟩ = some (.int .i64 fr) ∧ X.cell? ⟨bo, 8, none⟩ = some (.int .i64 mo)) → (fun X : World => (X.cell? ⟨bn, 0, none⟩ = some (.slice (some ⟨g, off', none⟩) tl cl) ∧ X.cell? ⟨bn, 1, none⟩ = some (.slice po off.length co)) ∧ (X.cell? ⟨g, off' + i * 4, none⟩ = some (.string p.cn.space) ∧ X.cell? ⟨g, off' + i * 4 + 1, none⟩ = some (.string p.cn.name) ∧ X.cell? ⟨g, off' + i * 4 + 2, none⟩ = some (.slice p.pm p.cn.mems.length p.cm) ∧ X.cell? ⟨g, off' + i * 4 + 3, none⟩ = some (.slice p.pp p.cn.posts.length p.cp)) ∧ X.cell? ⟨bo, 0, none⟩ = some (.int .i64 2) ∧ X.cell? ⟨bo, 1, none⟩ = some (.string sp) ∧ X.cell? ⟨bo, 2, none⟩ = some (.string ch) ∧ X.cell? ⟨bo, 3, none⟩ = some (.string us) ∧ X.cell? ⟨bo, 4, none⟩ = some (.string te) ∧ X.cell? ⟨bo, 5, none⟩ = some (.string tt) ∧ X.cell? ⟨bo, 6, none⟩ = some (.string to) ∧ X.cell? ⟨bo, 7, none⟩ = some (.int .i64 fr) ∧ X.cell? ⟨bo, 8, none⟩ = some (.int .i64 mo)) (X.setCell ⟨bp, j, none⟩ v)) := fun X j v h => by
      have hne := HB.out
      have n1 : bp ≠ bn := by omega
      have n2 : bp ≠ g := by omega
      have n3 : bp ≠ bo := by omega
      simp only [World.cell?_setCell_far _ ⟨bp, j, none⟩ ⟨bn, _, none⟩ _ n1, World.cell?_setCell_far _ ⟨bp, j, none⟩ ⟨g, _, none⟩ _ n2, World.cell?_setCell_far _ ⟨bp, j, none⟩ ⟨bo, _, none⟩ _ n3]
      exact h
    clear hp hkey hpl k0 k1 k2 k3 hgl hpm hil htl 
    go_upto_region 17 with fail
    clear o0
    have HV : Hid (Below u.heap.size u I1.drew) := HI1.out.drew
    have hV : Below u.heap.size u I1.drew := HV.out
    go_region_held (fun X => (X.cell? ⟨bn, 0, none⟩ = some (.slice (some ⟨g, off', none⟩) tl cl) ∧ X.cell? ⟨bn, 1, none⟩ = some (.slice po off.length co)) ∧ (X.cell? ⟨g, off' + i * 4, none⟩ = some (.string p.cn.space) ∧ X.cell? ⟨g, off' + i * 4 + 1, none⟩ = some (.string p.cn.name) ∧ X.cell? ⟨g, off' + i * 4 + 2, none⟩ = some (.slice p.pm p.cn.mems.length p.cm) ∧ X.cell? ⟨g, off' + i * 4 + 3, none⟩ = some (.slice p.pp p.cn.posts.length p.cp)) ∧ X.cell? ⟨bo, 0, none⟩ = some (.int .i64 2) ∧ X.cell? ⟨bo, 1, none⟩ = some (.string sp) ∧ X.cell? ⟨bo, 2, none⟩ = some (.string ch) ∧ X.cell? ⟨bo, 3, none⟩ = some (.string us) ∧ X.cell? ⟨bo, 4, none⟩ = some (.string te) ∧ X.cell? ⟨bo, 5, none⟩ = some (.string tt) ∧ X.cell? ⟨bo, 6, none⟩ = some (.string to) ∧ X.cell? ⟨bo, 7, none⟩ = some (.int .i64 fr) ∧ X.cell? ⟨bo, 8, none⟩ = some (.int .i64 mo))
      (with_reducible first | assumption | exact HSx.out _ (by assumption) | (repeat (first | assumption | refine HKr.out _ _ _ ?_ | refine HKp.out _ _ _ ?_)))
      (first | (go_at_call 43; refine (HWn.out _ ?_).mono ?_; assumption; rintro e Y ⟨p1, n1, c1, p2, n2, c2, e1, e2, p3, n3, c3, rfl, hb1, HFin⟩
                have hbY : Below u.heap.size u Y := hV.trans (hb1.mono hV.size)
                have HY : Hid (Below u.heap.size u Y) := hbY
                clear hb1
                obtain ⟨z0, z1, h0, h1⟩ := (HW.out Y HY.out).r
                obtain ⟨y0, y1, y2, j0, j1, j2⟩ := (ex9_cells (HW.out Y HY.out).r (HW.out Y HY.out).p (by have := HB.out; omega) (.slice p1 n1 c1) (.slice p2 n2 c2) (.int .i64 0) (.int .i64 0) (.slice none 0 0)).1))
    clear z0 z1 h0 h1 y0 y1 y2 j0 j1 j2 hbY hV
    obtain ⟨g1, g2, g3⟩ := ex9_cells ((HW.out Y HY.out)).r ((HW.out Y HY.out)).p (by have := HB.out; omega) (.slice p1 n1 c1) (.slice p2 n2 c2) (.int .i64 e1) (.int .i64 e2) (.slice p3 n3 c3)
    have HOut : Hid (Q (.returned (.tuple #[.agg #[.slice p1 n1 c1, .slice p2 n2 c2], .agg #[.int .i64 e1, .int .i64 e2, .slice p3 n3 c3]])) (ex9 Y br bp (.slice p1 n1 c1) (.slice p2 n2 c2) (.int .i64 e1) (.int .i64 e2) (.slice p3 n3 c3))) := HQ.out _ _ (by have ei : Mp.dDo q ⟨2, sp, ch, us, te, tt, to, fr, mo⟩ = Mp.inner q p.cn ⟨2, sp, ch, us, te, tt, to, fr, mo⟩ := (by unfold Mp.dDo; rw [if_neg (by rw [HMay.out]; decide)]; dsimp only; rw [if_neg (by decide), if_neg (by decide), if_neg (by decide)]; (try dsimp only); rw [HYes.out]); rw [ei]; exact HFin.out br bp (HU.out.trans (HV.out.mono HU.out.size)) (by have := HB.out; omega) (by have := HB.out; omega))
    obtain ⟨z0, z1, h0, h1⟩ := ((HW.out Y HY.out)).r
    obtain ⟨y0, y1, y2, j0, j1, j2⟩ := g1
    obtain ⟨x0, x1, _, _⟩ := g2
    obtain ⟨x2, x3, x4, _, _, _⟩ := g3
    obtain ⟨F, hF⟩ : ∃ F, F = ex9 Y br bp (.slice p1 n1 c1) (.slice p2 n2 c2) (.int .i64 e1) (.int .i64 e2) (.slice p3 n3 c3) := ⟨_, rfl⟩
    rw [← hF] at HOut x0 x1 x2 x3 x4
    unfold ex9 at hF
    go_wp2
    rw [← hF]
    clear hF
    refine bodyPost_ret (v := .tuple #[.agg #[.slice p1 n1 c1, .slice p2 n2 c2], .agg #[.int .i64 e1, .int .i64 e2, .slice p3 n3 c3]]) ?qres rfl ?qpost
    case qres => simp [results, Try.results20, go_sem, x0, x1, x2, x3, x4]
    case qpost => exact HOut.out

end Go.Proofs.Ytkioeahlajjmiaa

/-
  The document's Do: kind 3.
-/
namespace Go.Proofs.Ytkioeahlajjmiaa
open Go.RowKit

set_option maxHeartbeats 12800000 in
set_option maxRecDepth 20000 in
theorem rDo_3 {L : Nat → Prop} {w : World} {pl po : Option Addr} {cl co : Nat} {t : List Rw} {off : List ByteArray} {q : Mp.Dm} (h : DvT L w pl cl po co t off) (hq : t.map (·.cn) = q.list) (hoff : off = q.off) (hL : ∀ g, w.heap.size ≤ g → L g) {s : Mo.St} (hRel : Mp.Rel s q) (hn : t.length ≤ 1000000 ∧ off.length ≤ 1000000 ∧ ∀ p ∈ t, p.cn.mems.length ≤ 1000000) (sp ch us te tt to : ByteArray) (fr mo : Int) (hmay : Mo.may ⟨3, sp, ch, us, te, tt, to, fr, mo⟩ = true) (hMay : ∀ X, Calls Try.prog 37 #[.agg #[.int .i64 3, .string sp, .string ch, .string us, .string te, .string tt, .string to, .int .i64 fr, .int .i64 mo]] X fun e X' => e = .returned (.bool (Mo.may ⟨3, sp, ch, us, te, tt, to, fr, mo⟩)) ∧ Below X.heap.size X X') :
    Calls Try.prog 20 #[.agg #[.slice pl t.length cl, .slice po off.length co], .agg #[.int .i64 3, .string sp, .string ch, .string us, .string te, .string tt, .string to, .int .i64 fr, .int .i64 mo]] w (DoR L w (Mp.dDo q ⟨3, sp, ch, us, te, tt, to, fr, mo⟩)) := by
  obtain ⟨u, hu, hbu, hus, hWi⟩ := Di.start w (.slice pl t.length cl) (.slice po off.length co) ⟨3, sp, ch, us, te, tt, to, fr, mo⟩
  dsimp only at hu
  obtain ⟨bn, hbn⟩ : ∃ bn, bn = w.heap.size := ⟨_, rfl⟩
  obtain ⟨bo, hbo⟩ : ∃ bo, bo = w.heap.size + 1 := ⟨_, rfl⟩
  obtain ⟨br, hbr⟩ : ∃ br, br = w.heap.size + 1 + 1 := ⟨_, rfl⟩
  obtain ⟨bp, hbp⟩ : ∃ bp, bp = w.heap.size + 1 + 1 + 1 := ⟨_, rfl⟩
  rw [← hbp, ← hbr, ← hbo, ← hbn] at hWi
  have HW : Hid (∀ X, Below u.heap.size u X → Di bn bo br bp (.slice pl t.length cl) (.slice po off.length co) ⟨3, sp, ch, us, te, tt, to, fr, mo⟩ X) := fun X hX => hWi.below hX
  have HB : Hid (bn = w.heap.size ∧ bo = w.heap.size + 1 ∧ br = w.heap.size + 2 ∧ bp = w.heap.size + 3 ∧ u.heap.size = w.heap.size + 4) := ⟨hbn, hbo, by omega, by omega, hus⟩
  have HU : Hid (Below w.heap.size w u) := hbu
  have HD : Hid (DvT L w pl cl po co t off) := h
  have HL : Hid (∀ g, w.heap.size ≤ g → L g) := hL
  have HRel : Hid (Mp.Rel s q) := hRel
  have hst := sorted_cn hq hRel.rise
  have HE : Hid (t.map (·.cn) = q.list ∧ off = q.off ∧ Mp.Sorted Rw.key Mp.ltK t ∧ t.length ≤ 1000000 ∧ off.length ≤ 1000000 ∧ ∀ p ∈ t, p.cn.mems.length ≤ 1000000) := ⟨hq, hoff, hst, hn⟩
  have HMay : Hid (Mo.may ⟨3, sp, ch, us, te, tt, to, fr, mo⟩ = true) := hmay
  have HMc : Hid (∀ X, Calls Try.prog 37 #[.agg #[.int .i64 3, .string sp, .string ch, .string us, .string te, .string tt, .string to, .int .i64 fr, .int .i64 mo]] X fun e X' => e = .returned (.bool true) ∧ Below X.heap.size X X') := fun X => by
    have h9 := hMay X
    rw [hmay] at h9
    exact h9
  have HF : Hid (∀ X, Below u.heap.size u X → Calls Try.prog 39 #[.agg #[.slice pl t.length cl, .slice po off.length co], .string sp, .string ch] X fun e w' => ∃ k : Int, e = .returned (.int .i64 k) ∧ Where t sp ch k ∧ Below X.heap.size X w') := fun X hX => rFind_c (HD.out.ls.below (HU.out.trans (hX.mono HU.out.size))) HE.out.2.2.2.1 po off.length co sp ch
  generalize hQ : DoR L w (Mp.dDo q ⟨3, sp, ch, us, te, tt, to, fr, mo⟩) = Q
  have HQ : Hid (∀ e w', DoR L w (Mp.dDo q ⟨3, sp, ch, us, te, tt, to, fr, mo⟩) e w' → Q e w') := fun e w' h => by rw [← hQ]; exact h
  clear h hbu hWi hQ hus hL hq hoff hRel hst hn hmay hMay 
  go_enter Try.func20, Try.ntmps20
  go_upto_region 1 with fail
  rw [← hu, ← hbp, ← hbr, ← hbo, ← hbn]
  clear hu hbp hbr hbo hbn
  have H0 : Hid (Below u.heap.size u u) := Below.refl _ _
  obtain ⟨_, o0, o1, o2, o3, o4, o5, o6, o7, o8, _, _⟩ := HW.out u H0.out
  dsimp only at o0
  go_wp2_with fail
  refine (HMc.out u).mono ?_
  rintro e M1 ⟨rfl, hbM1⟩
  have HM1 : Hid (Below u.heap.size u M1) := hbM1
  clear hbM1 o0 o1 o2 o3 o4 o5 o6 o7 o8
  obtain ⟨⟨n0, n1, _, _⟩, _, o1, o2, _, _, _, _, _, _, _, _⟩ := HW.out M1 HM1.out
  go_wp2_with fail
  refine (HF.out M1 HM1.out).mono ?_
  rintro e I1 ⟨k, rfl, hk, hbI1⟩
  have HI1 : Hid (Below u.heap.size u I1) := HM1.out.trans (hbI1.mono HM1.out.size)
  have o0 := (HW.out I1 HI1.out).o0
  dsimp only at o0
  clear hbI1 n0 n1 o1 o2
  rcases hk with ⟨rfl, hno⟩ | ⟨i, p, rfl, hp, hkey⟩
  · have HNo : Hid (Mp.look q sp ch = none) := look_nil HE.out.1 hno
    clear hno
    obtain ⟨n0, n1, _, _⟩ := (HW.out I1 HI1.out).m
    go_wp2_with fail
    refine (no_c I1 _ _ _ _ _ _ 3).mono ?_
    rintro e N1 ⟨rfl, hbN1⟩
    have HN1 : Hid (Below u.heap.size u N1) := HI1.out.trans (hbN1.mono HI1.out.size)
    clear hbN1 n0 n1

    obtain ⟨g1, g2, g3⟩ := ex9_cells (HW.out N1 HN1.out).r (HW.out N1 HN1.out).p (by have := HB.out; omega) (.slice pl t.length cl) (.slice po off.length co) (.int .i64 3) (.int .i64 0) (.slice none 0 0)
    have HOut : Hid (Q (.returned (.tuple #[.agg #[.slice pl t.length cl, .slice po off.length co], .agg #[.int .i64 3, .int .i64 0, .slice none 0 0]])) (ex9 N1 br bp (.slice pl t.length cl) (.slice po off.length co) (.int .i64 3) (.int .i64 0) (.slice none 0 0))) := HQ.out _ _ (by unfold Mp.dDo; rw [if_neg (by rw [HMay.out]; decide)]; dsimp only; rw [if_neg (by decide), if_neg (by decide), if_neg (by decide)]; (try dsimp only); rw [HNo.out]; exact DoR.no HD.out HE.out.1 HE.out.2.1 (ex9_below (HU.out.trans (HN1.out.mono HU.out.size)) (by have := HB.out; omega) (by have := HB.out; omega) _ _ _ _ _) _)
    obtain ⟨z0, z1, h0, h1⟩ := (HW.out N1 HN1.out).r
    obtain ⟨y0, y1, y2, j0, j1, j2⟩ := g1
    obtain ⟨x0, x1, _, _⟩ := g2
    obtain ⟨x2, x3, x4, _, _, _⟩ := g3
    obtain ⟨F, hF⟩ : ∃ F, F = ex9 N1 br bp (.slice pl t.length cl) (.slice po off.length co) (.int .i64 3) (.int .i64 0) (.slice none 0 0) := ⟨_, rfl⟩
    rw [← hF] at HOut x0 x1 x2 x3 x4
    unfold ex9 at hF
    go_wp2
    rw [← hF]
    clear hF
    refine bodyPost_ret (v := .tuple #[.agg #[.slice pl t.length cl, .slice po off.length co], .agg #[.int .i64 3, .int .i64 0, .slice none 0 0]]) ?qres rfl ?qpost
    case qres => simp [results, Try.results20, go_sem, x0, x1, x2, x3, x4]
    case qpost => exact HOut.out

  · have HYes : Hid (Mp.look q sp ch = some p.cn) := look_some HE.out.1 HE.out.2.2.1 (List.mem_of_getElem? hp) hkey
    have hi0 : ¬ (i : Int) < 0 := by omega
    have hi1 : (0 : Int) ≤ (i : Int) := by omega
    have hil : i < t.length := (List.getElem?_eq_some_iff.1 hp).1
    obtain ⟨g, off', hpl, k0, k1, k2, k3⟩ := HD.out.ls.at hp
    have hgl : g < w.heap.size := World.block_lt_of_cell? _ _ k0
    obtain ⟨tl, htl⟩ : ∃ tl, tl = t.length := ⟨_, rfl⟩
    have hi2 : (i : Int) < (tl : Int) := by omega
    have hpm : p.cn ∈ q.list := by rw [← HE.out.1]; exact List.mem_map.2 ⟨p, List.mem_of_getElem? hp, rfl⟩
    have HWn : Hid (∀ X, Below u.heap.size u X → Calls Try.prog 43 #[.agg #[.slice (some ⟨g, off', none⟩) tl cl, .slice po off.length co], .agg #[.string p.cn.space, .string p.cn.name, .slice p.pm p.cn.mems.length p.cm, .slice p.pp p.cn.posts.length p.cp], .agg #[.int .i64 3, .string sp, .string ch, .string us, .string te, .string tt, .string to, .int .i64 fr, .int .i64 mo]] X fun e Y => ∃ p1 n1 c1 p2 n2 c2 e1 e2 p3 n3 c3, e = .returned (.tuple #[.agg #[.slice p1 n1 c1, .slice p2 n2 c2], .agg #[.int .i64 e1, .int .i64 e2, .slice p3 n3 c3]]) ∧ Below X.heap.size X Y ∧ Hid (∀ br bp, Below w.heap.size w X → w.heap.size ≤ br ∧ br < u.heap.size → w.heap.size ≤ bp ∧ bp < u.heap.size → DoR L w (Mp.inner q p.cn ⟨3, sp, ch, us, te, tt, to, fr, mo⟩) (.returned (.tuple #[.agg #[.slice p1 n1 c1, .slice p2 n2 c2], .agg #[.int .i64 e1, .int .i64 e2, .slice p3 n3 c3]])) (ex9 Y br bp (.slice p1 n1 c1) (.slice p2 n2 c2) (.int .i64 e1) (.int .i64 e2) (.slice p3 n3 c3)))) := fun X hX => by
      have b1 : DvT (Lp L w u.heap.size) w pl cl po co t off := HD.out.weak (fun g hg hl => ⟨hg, .inl hl⟩)
      have b2 := b1.below (HU.out.trans (hX.mono HU.out.size))
      have h9 := within3 b2 HE.out.1 HE.out.2.1 (fun g hg => ⟨HL.out g (by have := HU.out.size; have := hX.size; omega), .inr (by have := hX.size; omega)⟩) (List.mem_of_getElem? hp) HE.out.2.2.1 HE.out.2.2.2.1 sp ch us te tt to fr mo (HRel.out.few _ hpm)
      rw [hpl, ← htl] at h9
      exact h9.mono (fun e Y h => DoR.on h)
    have HSx : Hid (∀ X, Below u.heap.size u X → ((X.cell? ⟨bn, 0, none⟩ = some (.slice (some ⟨g, off', none⟩) tl cl) ∧ X.cell? ⟨bn, 1, none⟩ = some (.slice po off.length co)) ∧ (X.cell? ⟨g, off' + i * 4, none⟩ = some (.string p.cn.space) ∧ X.cell? ⟨g, off' + i * 4 + 1, none⟩ = some (.string p.cn.name) ∧ X.cell? ⟨g, off' + i * 4 + 2, none⟩ = some (.slice p.pm p.cn.mems.length p.cm) ∧ X.cell? ⟨g, off' + i * 4 + 3, none⟩ = some (.slice p.pp p.cn.posts.length p.cp)) ∧ X.cell? ⟨bo, 0, none⟩ = some (.int .i64 3) ∧ X.cell? ⟨bo, 1, none⟩ = some (.string sp) ∧ X.cell? ⟨bo, 2, none⟩ = some (.string ch) ∧ X.cell? ⟨bo, 3, none⟩ = some (.string us) ∧ X.cell? ⟨bo, 4, none⟩ = some (.string te) ∧ X.cell? ⟨bo, 5, none⟩ = some (.string tt) ∧ X.cell? ⟨bo, 6, none⟩ = some (.string to) ∧ X.cell? ⟨bo, 7, none⟩ = some (.int .i64 fr) ∧ X.cell? ⟨bo, 8, none⟩ = some (.int .i64 mo))) := fun X hX => by
      have hwX := HU.out.trans (hX.mono HU.out.size)
      obtain ⟨⟨n0, n1, _, _⟩, o0, o1, o2, o3, o4, o5, o6, o7, o8, _, _⟩ := HW.out X hX
      rw [hpl, ← htl] at n0
      exact ⟨⟨n0, n1⟩, ⟨(hwX.cell (p := ⟨g, off' + i * 4, none⟩) hgl).trans k0, (hwX.cell (p := ⟨g, off' + i * 4 + 1, none⟩) hgl).trans k1, (hwX.cell (p := ⟨g, off' + i * 4 + 2, none⟩) hgl).trans k2, (hwX.cell (p := ⟨g, off' + i * 4 + 3, none⟩) hgl).trans k3⟩, o0, o1, o2, o3, o4, o5, o6, o7, o8⟩
    have HKr : Hid (∀ (X : World) (j : Nat) (v : Value), ((X.cell? ⟨bn, 0, none⟩ = some (.slice (some ⟨g, off', none⟩) tl cl) ∧ X.cell? ⟨bn, 1, none⟩ = some (.slice po off.length co)) ∧ (X.cell? ⟨g, off' + i * 4, none⟩ = some (.string p.cn.space) ∧ X.cell? ⟨g, off' + i * 4 + 1, none⟩ = some (.string p.cn.name) ∧ X.cell? ⟨g, off' + i * 4 + 2, none⟩ = some (.slice p.pm p.cn.mems.length p.cm) ∧ X.cell? ⟨g, off' + i * 4 + 3, none⟩ = some (.slice p.pp p.cn.posts.length p.cp)) ∧ X.cell? ⟨bo, 0, none⟩ = some (.int .i64 3) ∧ X.cell? ⟨bo, 1, none⟩ = some (.string sp) ∧ X.cell? ⟨bo, 2, none⟩ = some (.string ch) ∧ X.cell? ⟨bo, 3, none⟩ = some (.string us) ∧ X.cell? ⟨bo, 4, none⟩ = some (.string te) ∧ X.cell? ⟨bo, 5, none⟩ = some (.string tt) ∧ X.cell? ⟨bo, 6, none⟩ = some (.string to) ∧ X.cell? ⟨bo, 7, none⟩ = some (.int .i64 fr) ∧ X.cell? ⟨bo, 8, none⟩ = some (.int .i64 mo)) → (fun X : World => (X.cell? ⟨bn, 0, none⟩ = some (.slice (some ⟨g, off', none⟩) tl cl) ∧ X.cell? ⟨bn, 1, none⟩ = some (.slice po off.length co)) ∧ (X.cell? ⟨g, off' + i * 4, none⟩ = some (.string p.cn.space) ∧ X.cell? ⟨g, off' + i * 4 + 1, none⟩ = some (.string p.cn.name) ∧ X.cell? ⟨g, off' + i * 4 + 2, none⟩ = some (.slice p.pm p.cn.mems.length p.cm) ∧ X.cell? ⟨g, off' + i * 4 + 3, none⟩ = some (.slice p.pp p.cn.posts.length p.cp)) ∧ X.cell? ⟨bo, 0, none⟩ = some (.int .i64 3) ∧ X.cell? ⟨bo, 1, none⟩ = some (.string sp) ∧ X.cell? ⟨bo, 2, none⟩ = some (.string ch) ∧ X.cell? ⟨bo, 3, none⟩ = some (.string us) ∧ X.cell? ⟨bo, 4, none⟩ = some (.string te) ∧ X.cell? ⟨bo, 5, none⟩ = some (.string tt) ∧ X.cell? ⟨bo, 6, none⟩ = some (.string to) ∧ X.cell? ⟨bo, 7, none⟩ = some (.int .i64 fr) ∧ X.cell? ⟨bo, 8, none⟩ = some (.int .i64 mo)) (X.setCell ⟨br, j, none⟩ v)) := fun X j v h => by
      have hne := HB.out
      have n1 : br ≠ bn := by omega
      have n2 : br ≠ g := by omega
      have n3 : br ≠ bo := by omega
      simp only [World.cell?_setCell_far _ ⟨br, j, none⟩ ⟨bn, _, none⟩ _ n1, World.cell?_setCell_far _ ⟨br, j, none⟩ ⟨g, _, none⟩ _ n2, World.cell?_setCell_far _ ⟨br, j, none⟩ ⟨bo, _, none⟩ _ n3]
      exact h
    have HKp : Hid (∀ (X : World) (j : Nat) (v : Value), ((X.cell? ⟨bn, 0, none⟩ = some (.slice (some ⟨g, off', none⟩) tl cl) ∧ X.cell? ⟨bn, 1, none⟩ = some (.slice po off.length co)) ∧ (X.cell? ⟨g, off' + i * 4, none⟩ = some (.string p.cn.space) ∧ X.cell? ⟨g, off' + i * 4 + 1, none⟩ = some (.string p.cn.name) ∧ X.cell? ⟨g, off' + i * 4 + 2, none⟩ = some (.slice p.pm p.cn.mems.length p.cm) ∧ X.cell? ⟨g, off' + i * 4 + 3, none⟩ = some (.slice p.pp p.cn.posts.length p.cp)) ∧ X.cell? ⟨bo, 0, none⟩ = some (.int .i64 3) ∧ X.cell? ⟨bo, 1, none⟩ = some (.string sp) ∧ X.cell? ⟨bo, 2, none⟩ = some (.string ch) ∧ X.cell? ⟨bo, 3, none⟩ = some (.string us) ∧ X.cell? ⟨bo, 4, none⟩ = some (.string te) ∧ X.cell? ⟨bo, 5, none⟩ = some (.string tt) ∧ X.cell? ⟨bo, 6, none⟩ = some (.string to) ∧ X.cell? ⟨bo, 7, none⟩ = some (.int .i64 fr) ∧ X.cell? ⟨bo, 8, none⟩ = some (.int .i64 mo)) → (fun X : World => (X.cell? ⟨bn, 0, none⟩ = some (.slice (some ⟨g, off', none⟩) tl cl) ∧ X.cell? ⟨bn, 1, none⟩ = some (.slice po off.length co)) ∧ (X.cell? ⟨g, off' + i * 4, none⟩ = some (.string p.cn.space) ∧ X.cell? ⟨g, off' + i * 4 + 1, none⟩ = some (.string p.cn.name) ∧ X.cell? ⟨g, off' + i * 4 + 2, none⟩ = some (.slice p.pm p.cn.mems.length p.cm) ∧ X.cell? ⟨g, off' + i * 4 + 3, none⟩ = some (.slice p.pp p.cn.posts.length p.cp)) ∧ X.cell? ⟨bo, 0, none⟩ = some (.int .i64 3) ∧ X.cell? ⟨bo, 1, none⟩ = some (.string sp) ∧ X.cell? ⟨bo, 2, none⟩ = some (.string ch) ∧ X.cell? ⟨bo, 3, none⟩ = some (.string us) ∧ X.cell? ⟨bo, 4, none⟩ = some (.string te) ∧ X.cell? ⟨bo, 5, none⟩ = some (.string tt) ∧ X.cell? ⟨bo, 6, none⟩ = some (.string to) ∧ X.cell? ⟨bo, 7, none⟩ = some (.int .i64 fr) ∧ X.cell? ⟨bo, 8, none⟩ = some (.int .i64 mo)) (X.setCell ⟨bp, j, none⟩ v)) := fun X j v h => by
      have hne := HB.out
      have n1 : bp ≠ bn := by omega
      have n2 : bp ≠ g := by omega
      have n3 : bp ≠ bo := by omega
      simp only [World.cell?_setCell_far _ ⟨bp, j, none⟩ ⟨bn, _, none⟩ _ n1, World.cell?_setCell_far _ ⟨bp, j, none⟩ ⟨g, _, none⟩ _ n2, World.cell?_setCell_far _ ⟨bp, j, none⟩ ⟨bo, _, none⟩ _ n3]
      exact h
    clear hp hkey hpl k0 k1 k2 k3 hgl hpm hil htl 
    go_upto_region 17 with fail
    clear o0
    have HV : Hid (Below u.heap.size u I1.drew) := HI1.out.drew
    have hV : Below u.heap.size u I1.drew := HV.out
    go_region_held (fun X => (X.cell? ⟨bn, 0, none⟩ = some (.slice (some ⟨g, off', none⟩) tl cl) ∧ X.cell? ⟨bn, 1, none⟩ = some (.slice po off.length co)) ∧ (X.cell? ⟨g, off' + i * 4, none⟩ = some (.string p.cn.space) ∧ X.cell? ⟨g, off' + i * 4 + 1, none⟩ = some (.string p.cn.name) ∧ X.cell? ⟨g, off' + i * 4 + 2, none⟩ = some (.slice p.pm p.cn.mems.length p.cm) ∧ X.cell? ⟨g, off' + i * 4 + 3, none⟩ = some (.slice p.pp p.cn.posts.length p.cp)) ∧ X.cell? ⟨bo, 0, none⟩ = some (.int .i64 3) ∧ X.cell? ⟨bo, 1, none⟩ = some (.string sp) ∧ X.cell? ⟨bo, 2, none⟩ = some (.string ch) ∧ X.cell? ⟨bo, 3, none⟩ = some (.string us) ∧ X.cell? ⟨bo, 4, none⟩ = some (.string te) ∧ X.cell? ⟨bo, 5, none⟩ = some (.string tt) ∧ X.cell? ⟨bo, 6, none⟩ = some (.string to) ∧ X.cell? ⟨bo, 7, none⟩ = some (.int .i64 fr) ∧ X.cell? ⟨bo, 8, none⟩ = some (.int .i64 mo))
      (with_reducible first | assumption | exact HSx.out _ (by assumption) | (repeat (first | assumption | refine HKr.out _ _ _ ?_ | refine HKp.out _ _ _ ?_)))
      (first | (go_at_call 43; refine (HWn.out _ ?_).mono ?_; assumption; rintro e Y ⟨p1, n1, c1, p2, n2, c2, e1, e2, p3, n3, c3, rfl, hb1, HFin⟩
                have hbY : Below u.heap.size u Y := hV.trans (hb1.mono hV.size)
                have HY : Hid (Below u.heap.size u Y) := hbY
                clear hb1
                obtain ⟨z0, z1, h0, h1⟩ := (HW.out Y HY.out).r
                obtain ⟨y0, y1, y2, j0, j1, j2⟩ := (ex9_cells (HW.out Y HY.out).r (HW.out Y HY.out).p (by have := HB.out; omega) (.slice p1 n1 c1) (.slice p2 n2 c2) (.int .i64 0) (.int .i64 0) (.slice none 0 0)).1))
    clear z0 z1 h0 h1 y0 y1 y2 j0 j1 j2 hbY hV
    obtain ⟨g1, g2, g3⟩ := ex9_cells ((HW.out Y HY.out)).r ((HW.out Y HY.out)).p (by have := HB.out; omega) (.slice p1 n1 c1) (.slice p2 n2 c2) (.int .i64 e1) (.int .i64 e2) (.slice p3 n3 c3)
    have HOut : Hid (Q (.returned (.tuple #[.agg #[.slice p1 n1 c1, .slice p2 n2 c2], .agg #[.int .i64 e1, .int .i64 e2, .slice p3 n3 c3]])) (ex9 Y br bp (.slice p1 n1 c1) (.slice p2 n2 c2) (.int .i64 e1) (.int .i64 e2) (.slice p3 n3 c3))) := HQ.out _ _ (by have ei : Mp.dDo q ⟨3, sp, ch, us, te, tt, to, fr, mo⟩ = Mp.inner q p.cn ⟨3, sp, ch, us, te, tt, to, fr, mo⟩ := (by unfold Mp.dDo; rw [if_neg (by rw [HMay.out]; decide)]; dsimp only; rw [if_neg (by decide), if_neg (by decide), if_neg (by decide)]; (try dsimp only); rw [HYes.out]); rw [ei]; exact HFin.out br bp (HU.out.trans (HV.out.mono HU.out.size)) (by have := HB.out; omega) (by have := HB.out; omega))
    obtain ⟨z0, z1, h0, h1⟩ := ((HW.out Y HY.out)).r
    obtain ⟨y0, y1, y2, j0, j1, j2⟩ := g1
    obtain ⟨x0, x1, _, _⟩ := g2
    obtain ⟨x2, x3, x4, _, _, _⟩ := g3
    obtain ⟨F, hF⟩ : ∃ F, F = ex9 Y br bp (.slice p1 n1 c1) (.slice p2 n2 c2) (.int .i64 e1) (.int .i64 e2) (.slice p3 n3 c3) := ⟨_, rfl⟩
    rw [← hF] at HOut x0 x1 x2 x3 x4
    unfold ex9 at hF
    go_wp2
    rw [← hF]
    clear hF
    refine bodyPost_ret (v := .tuple #[.agg #[.slice p1 n1 c1, .slice p2 n2 c2], .agg #[.int .i64 e1, .int .i64 e2, .slice p3 n3 c3]]) ?qres rfl ?qpost
    case qres => simp [results, Try.results20, go_sem, x0, x1, x2, x3, x4]
    case qpost => exact HOut.out

end Go.Proofs.Ytkioeahlajjmiaa

/-
  The document's Do: kind 4.
-/
namespace Go.Proofs.Ytkioeahlajjmiaa
open Go.RowKit

theorem may4r {sp ch us te tt to : ByteArray} {fr mo : Int} (h : Mo.may ⟨4, sp, ch, us, te, tt, to, fr, mo⟩ = true) : (0 ≤ fr ∧ fr ≤ 2147483647) ∧ (0 ≤ mo ∧ mo ≤ 64) := by
  unfold Mo.may Mo.within at h
  dsimp only at h
  rw [if_neg (by decide), if_neg (by decide), if_neg (by decide), if_pos rfl] at h
  simp only [Bool.and_eq_true, decide_eq_true_eq] at h
  exact ⟨h.1.1.2, h.1.2⟩

set_option maxHeartbeats 12800000 in
set_option maxRecDepth 20000 in
theorem rDo_4 {L : Nat → Prop} {w : World} {pl po : Option Addr} {cl co : Nat} {t : List Rw} {off : List ByteArray} {q : Mp.Dm} (h : DvT L w pl cl po co t off) (hq : t.map (·.cn) = q.list) (hoff : off = q.off) (hL : ∀ g, w.heap.size ≤ g → L g) {s : Mo.St} (hRel : Mp.Rel s q) (hn : t.length ≤ 1000000 ∧ off.length ≤ 1000000 ∧ ∀ p ∈ t, p.cn.mems.length ≤ 1000000) (sp ch us te tt to : ByteArray) (fr mo : Int) (hmay : Mo.may ⟨4, sp, ch, us, te, tt, to, fr, mo⟩ = true) (hMay : ∀ X, Calls Try.prog 37 #[.agg #[.int .i64 4, .string sp, .string ch, .string us, .string te, .string tt, .string to, .int .i64 fr, .int .i64 mo]] X fun e X' => e = .returned (.bool (Mo.may ⟨4, sp, ch, us, te, tt, to, fr, mo⟩)) ∧ Below X.heap.size X X') :
    Calls Try.prog 20 #[.agg #[.slice pl t.length cl, .slice po off.length co], .agg #[.int .i64 4, .string sp, .string ch, .string us, .string te, .string tt, .string to, .int .i64 fr, .int .i64 mo]] w (DoR L w (Mp.dDo q ⟨4, sp, ch, us, te, tt, to, fr, mo⟩)) := by
  obtain ⟨u, hu, hbu, hus, hWi⟩ := Di.start w (.slice pl t.length cl) (.slice po off.length co) ⟨4, sp, ch, us, te, tt, to, fr, mo⟩
  dsimp only at hu
  obtain ⟨bn, hbn⟩ : ∃ bn, bn = w.heap.size := ⟨_, rfl⟩
  obtain ⟨bo, hbo⟩ : ∃ bo, bo = w.heap.size + 1 := ⟨_, rfl⟩
  obtain ⟨br, hbr⟩ : ∃ br, br = w.heap.size + 1 + 1 := ⟨_, rfl⟩
  obtain ⟨bp, hbp⟩ : ∃ bp, bp = w.heap.size + 1 + 1 + 1 := ⟨_, rfl⟩
  rw [← hbp, ← hbr, ← hbo, ← hbn] at hWi
  have HW : Hid (∀ X, Below u.heap.size u X → Di bn bo br bp (.slice pl t.length cl) (.slice po off.length co) ⟨4, sp, ch, us, te, tt, to, fr, mo⟩ X) := fun X hX => hWi.below hX
  have HB : Hid (bn = w.heap.size ∧ bo = w.heap.size + 1 ∧ br = w.heap.size + 2 ∧ bp = w.heap.size + 3 ∧ u.heap.size = w.heap.size + 4) := ⟨hbn, hbo, by omega, by omega, hus⟩
  have HU : Hid (Below w.heap.size w u) := hbu
  have HD : Hid (DvT L w pl cl po co t off) := h
  have HL : Hid (∀ g, w.heap.size ≤ g → L g) := hL
  have HRel : Hid (Mp.Rel s q) := hRel
  have hst := sorted_cn hq hRel.rise
  have HE : Hid (t.map (·.cn) = q.list ∧ off = q.off ∧ Mp.Sorted Rw.key Mp.ltK t ∧ t.length ≤ 1000000 ∧ off.length ≤ 1000000 ∧ ∀ p ∈ t, p.cn.mems.length ≤ 1000000) := ⟨hq, hoff, hst, hn⟩
  have HMay : Hid (Mo.may ⟨4, sp, ch, us, te, tt, to, fr, mo⟩ = true) := hmay
  have HMc : Hid (∀ X, Calls Try.prog 37 #[.agg #[.int .i64 4, .string sp, .string ch, .string us, .string te, .string tt, .string to, .int .i64 fr, .int .i64 mo]] X fun e X' => e = .returned (.bool true) ∧ Below X.heap.size X X') := fun X => by
    have h9 := hMay X
    rw [hmay] at h9
    exact h9
  have HF : Hid (∀ X, Below u.heap.size u X → Calls Try.prog 39 #[.agg #[.slice pl t.length cl, .slice po off.length co], .string sp, .string ch] X fun e w' => ∃ k : Int, e = .returned (.int .i64 k) ∧ Where t sp ch k ∧ Below X.heap.size X w') := fun X hX => rFind_c (HD.out.ls.below (HU.out.trans (hX.mono HU.out.size))) HE.out.2.2.2.1 po off.length co sp ch
  generalize hQ : DoR L w (Mp.dDo q ⟨4, sp, ch, us, te, tt, to, fr, mo⟩) = Q
  have HQ : Hid (∀ e w', DoR L w (Mp.dDo q ⟨4, sp, ch, us, te, tt, to, fr, mo⟩) e w' → Q e w') := fun e w' h => by rw [← hQ]; exact h
  clear h hbu hWi hQ hus hL hq hoff hRel hst hn hmay hMay 
  go_enter Try.func20, Try.ntmps20
  go_upto_region 1 with fail
  rw [← hu, ← hbp, ← hbr, ← hbo, ← hbn]
  clear hu hbp hbr hbo hbn
  have H0 : Hid (Below u.heap.size u u) := Below.refl _ _
  obtain ⟨_, o0, o1, o2, o3, o4, o5, o6, o7, o8, _, _⟩ := HW.out u H0.out
  dsimp only at o0
  go_wp2_with fail
  refine (HMc.out u).mono ?_
  rintro e M1 ⟨rfl, hbM1⟩
  have HM1 : Hid (Below u.heap.size u M1) := hbM1
  clear hbM1 o0 o1 o2 o3 o4 o5 o6 o7 o8
  obtain ⟨⟨n0, n1, _, _⟩, _, o1, o2, _, _, _, _, _, _, _, _⟩ := HW.out M1 HM1.out
  go_wp2_with fail
  refine (HF.out M1 HM1.out).mono ?_
  rintro e I1 ⟨k, rfl, hk, hbI1⟩
  have HI1 : Hid (Below u.heap.size u I1) := HM1.out.trans (hbI1.mono HM1.out.size)
  have o0 := (HW.out I1 HI1.out).o0
  dsimp only at o0
  clear hbI1 n0 n1 o1 o2
  rcases hk with ⟨rfl, hno⟩ | ⟨i, p, rfl, hp, hkey⟩
  · have HNo : Hid (Mp.look q sp ch = none) := look_nil HE.out.1 hno
    clear hno
    obtain ⟨n0, n1, _, _⟩ := (HW.out I1 HI1.out).m
    go_wp2_with fail
    refine (no_c I1 _ _ _ _ _ _ 3).mono ?_
    rintro e N1 ⟨rfl, hbN1⟩
    have HN1 : Hid (Below u.heap.size u N1) := HI1.out.trans (hbN1.mono HI1.out.size)
    clear hbN1 n0 n1

    obtain ⟨g1, g2, g3⟩ := ex9_cells (HW.out N1 HN1.out).r (HW.out N1 HN1.out).p (by have := HB.out; omega) (.slice pl t.length cl) (.slice po off.length co) (.int .i64 3) (.int .i64 0) (.slice none 0 0)
    have HOut : Hid (Q (.returned (.tuple #[.agg #[.slice pl t.length cl, .slice po off.length co], .agg #[.int .i64 3, .int .i64 0, .slice none 0 0]])) (ex9 N1 br bp (.slice pl t.length cl) (.slice po off.length co) (.int .i64 3) (.int .i64 0) (.slice none 0 0))) := HQ.out _ _ (by unfold Mp.dDo; rw [if_neg (by rw [HMay.out]; decide)]; dsimp only; rw [if_neg (by decide), if_neg (by decide), if_neg (by decide)]; (try dsimp only); rw [HNo.out]; exact DoR.no HD.out HE.out.1 HE.out.2.1 (ex9_below (HU.out.trans (HN1.out.mono HU.out.size)) (by have := HB.out; omega) (by have := HB.out; omega) _ _ _ _ _) _)
    obtain ⟨z0, z1, h0, h1⟩ := (HW.out N1 HN1.out).r
    obtain ⟨y0, y1, y2, j0, j1, j2⟩ := g1
    obtain ⟨x0, x1, _, _⟩ := g2
    obtain ⟨x2, x3, x4, _, _, _⟩ := g3
    obtain ⟨F, hF⟩ : ∃ F, F = ex9 N1 br bp (.slice pl t.length cl) (.slice po off.length co) (.int .i64 3) (.int .i64 0) (.slice none 0 0) := ⟨_, rfl⟩
    rw [← hF] at HOut x0 x1 x2 x3 x4
    unfold ex9 at hF
    go_wp2
    rw [← hF]
    clear hF
    refine bodyPost_ret (v := .tuple #[.agg #[.slice pl t.length cl, .slice po off.length co], .agg #[.int .i64 3, .int .i64 0, .slice none 0 0]]) ?qres rfl ?qpost
    case qres => simp [results, Try.results20, go_sem, x0, x1, x2, x3, x4]
    case qpost => exact HOut.out

  · have HYes : Hid (Mp.look q sp ch = some p.cn) := look_some HE.out.1 HE.out.2.2.1 (List.mem_of_getElem? hp) hkey
    have hi0 : ¬ (i : Int) < 0 := by omega
    have hi1 : (0 : Int) ≤ (i : Int) := by omega
    have hil : i < t.length := (List.getElem?_eq_some_iff.1 hp).1
    obtain ⟨g, off', hpl, k0, k1, k2, k3⟩ := HD.out.ls.at hp
    have hgl : g < w.heap.size := World.block_lt_of_cell? _ _ k0
    obtain ⟨tl, htl⟩ : ∃ tl, tl = t.length := ⟨_, rfl⟩
    have hi2 : (i : Int) < (tl : Int) := by omega
    have hpm : p.cn ∈ q.list := by rw [← HE.out.1]; exact List.mem_map.2 ⟨p, List.mem_of_getElem? hp, rfl⟩
    have hmay4 : (0 ≤ fr ∧ fr ≤ 2147483647) ∧ (0 ≤ mo ∧ mo ≤ 64) := may4r HMay.out
    have HWn : Hid (∀ X, Below u.heap.size u X → Calls Try.prog 43 #[.agg #[.slice (some ⟨g, off', none⟩) tl cl, .slice po off.length co], .agg #[.string p.cn.space, .string p.cn.name, .slice p.pm p.cn.mems.length p.cm, .slice p.pp p.cn.posts.length p.cp], .agg #[.int .i64 4, .string sp, .string ch, .string us, .string te, .string tt, .string to, .int .i64 fr, .int .i64 mo]] X fun e Y => ∃ p1 n1 c1 p2 n2 c2 e1 e2 p3 n3 c3, e = .returned (.tuple #[.agg #[.slice p1 n1 c1, .slice p2 n2 c2], .agg #[.int .i64 e1, .int .i64 e2, .slice p3 n3 c3]]) ∧ Below X.heap.size X Y ∧ Hid (∀ br bp, Below w.heap.size w X → w.heap.size ≤ br ∧ br < u.heap.size → w.heap.size ≤ bp ∧ bp < u.heap.size → DoR L w (Mp.inner q p.cn ⟨4, sp, ch, us, te, tt, to, fr, mo⟩) (.returned (.tuple #[.agg #[.slice p1 n1 c1, .slice p2 n2 c2], .agg #[.int .i64 e1, .int .i64 e2, .slice p3 n3 c3]])) (ex9 Y br bp (.slice p1 n1 c1) (.slice p2 n2 c2) (.int .i64 e1) (.int .i64 e2) (.slice p3 n3 c3)))) := fun X hX => by
      have b1 : DvT (Lp L w u.heap.size) w pl cl po co t off := HD.out.weak (fun g hg hl => ⟨hg, .inl hl⟩)
      have b2 := b1.below (HU.out.trans (hX.mono HU.out.size))
      have h9 := within4 b2 HE.out.1 HE.out.2.1 (fun g hg => ⟨HL.out g (by have := HU.out.size; have := hX.size; omega), .inr (by have := hX.size; omega)⟩) (List.mem_of_getElem? hp) HE.out.2.2.1 HE.out.2.2.2.1 sp ch us te tt to fr mo hmay4.1 hmay4.2 (HRel.out.few _ hpm)
      rw [hpl, ← htl] at h9
      exact h9.mono (fun e Y h => DoR.on h)
    have HSx : Hid (∀ X, Below u.heap.size u X → ((X.cell? ⟨bn, 0, none⟩ = some (.slice (some ⟨g, off', none⟩) tl cl) ∧ X.cell? ⟨bn, 1, none⟩ = some (.slice po off.length co)) ∧ (X.cell? ⟨g, off' + i * 4, none⟩ = some (.string p.cn.space) ∧ X.cell? ⟨g, off' + i * 4 + 1, none⟩ = some (.string p.cn.name) ∧ X.cell? ⟨g, off' + i * 4 + 2, none⟩ = some (.slice p.pm p.cn.mems.length p.cm) ∧ X.cell? ⟨g, off' + i * 4 + 3, none⟩ = some (.slice p.pp p.cn.posts.length p.cp)) ∧ X.cell? ⟨bo, 0, none⟩ = some (.int .i64 4) ∧ X.cell? ⟨bo, 1, none⟩ = some (.string sp) ∧ X.cell? ⟨bo, 2, none⟩ = some (.string ch) ∧ X.cell? ⟨bo, 3, none⟩ = some (.string us) ∧ X.cell? ⟨bo, 4, none⟩ = some (.string te) ∧ X.cell? ⟨bo, 5, none⟩ = some (.string tt) ∧ X.cell? ⟨bo, 6, none⟩ = some (.string to) ∧ X.cell? ⟨bo, 7, none⟩ = some (.int .i64 fr) ∧ X.cell? ⟨bo, 8, none⟩ = some (.int .i64 mo))) := fun X hX => by
      have hwX := HU.out.trans (hX.mono HU.out.size)
      obtain ⟨⟨n0, n1, _, _⟩, o0, o1, o2, o3, o4, o5, o6, o7, o8, _, _⟩ := HW.out X hX
      rw [hpl, ← htl] at n0
      exact ⟨⟨n0, n1⟩, ⟨(hwX.cell (p := ⟨g, off' + i * 4, none⟩) hgl).trans k0, (hwX.cell (p := ⟨g, off' + i * 4 + 1, none⟩) hgl).trans k1, (hwX.cell (p := ⟨g, off' + i * 4 + 2, none⟩) hgl).trans k2, (hwX.cell (p := ⟨g, off' + i * 4 + 3, none⟩) hgl).trans k3⟩, o0, o1, o2, o3, o4, o5, o6, o7, o8⟩
    have HKr : Hid (∀ (X : World) (j : Nat) (v : Value), ((X.cell? ⟨bn, 0, none⟩ = some (.slice (some ⟨g, off', none⟩) tl cl) ∧ X.cell? ⟨bn, 1, none⟩ = some (.slice po off.length co)) ∧ (X.cell? ⟨g, off' + i * 4, none⟩ = some (.string p.cn.space) ∧ X.cell? ⟨g, off' + i * 4 + 1, none⟩ = some (.string p.cn.name) ∧ X.cell? ⟨g, off' + i * 4 + 2, none⟩ = some (.slice p.pm p.cn.mems.length p.cm) ∧ X.cell? ⟨g, off' + i * 4 + 3, none⟩ = some (.slice p.pp p.cn.posts.length p.cp)) ∧ X.cell? ⟨bo, 0, none⟩ = some (.int .i64 4) ∧ X.cell? ⟨bo, 1, none⟩ = some (.string sp) ∧ X.cell? ⟨bo, 2, none⟩ = some (.string ch) ∧ X.cell? ⟨bo, 3, none⟩ = some (.string us) ∧ X.cell? ⟨bo, 4, none⟩ = some (.string te) ∧ X.cell? ⟨bo, 5, none⟩ = some (.string tt) ∧ X.cell? ⟨bo, 6, none⟩ = some (.string to) ∧ X.cell? ⟨bo, 7, none⟩ = some (.int .i64 fr) ∧ X.cell? ⟨bo, 8, none⟩ = some (.int .i64 mo)) → (fun X : World => (X.cell? ⟨bn, 0, none⟩ = some (.slice (some ⟨g, off', none⟩) tl cl) ∧ X.cell? ⟨bn, 1, none⟩ = some (.slice po off.length co)) ∧ (X.cell? ⟨g, off' + i * 4, none⟩ = some (.string p.cn.space) ∧ X.cell? ⟨g, off' + i * 4 + 1, none⟩ = some (.string p.cn.name) ∧ X.cell? ⟨g, off' + i * 4 + 2, none⟩ = some (.slice p.pm p.cn.mems.length p.cm) ∧ X.cell? ⟨g, off' + i * 4 + 3, none⟩ = some (.slice p.pp p.cn.posts.length p.cp)) ∧ X.cell? ⟨bo, 0, none⟩ = some (.int .i64 4) ∧ X.cell? ⟨bo, 1, none⟩ = some (.string sp) ∧ X.cell? ⟨bo, 2, none⟩ = some (.string ch) ∧ X.cell? ⟨bo, 3, none⟩ = some (.string us) ∧ X.cell? ⟨bo, 4, none⟩ = some (.string te) ∧ X.cell? ⟨bo, 5, none⟩ = some (.string tt) ∧ X.cell? ⟨bo, 6, none⟩ = some (.string to) ∧ X.cell? ⟨bo, 7, none⟩ = some (.int .i64 fr) ∧ X.cell? ⟨bo, 8, none⟩ = some (.int .i64 mo)) (X.setCell ⟨br, j, none⟩ v)) := fun X j v h => by
      have hne := HB.out
      have n1 : br ≠ bn := by omega
      have n2 : br ≠ g := by omega
      have n3 : br ≠ bo := by omega
      simp only [World.cell?_setCell_far _ ⟨br, j, none⟩ ⟨bn, _, none⟩ _ n1, World.cell?_setCell_far _ ⟨br, j, none⟩ ⟨g, _, none⟩ _ n2, World.cell?_setCell_far _ ⟨br, j, none⟩ ⟨bo, _, none⟩ _ n3]
      exact h
    have HKp : Hid (∀ (X : World) (j : Nat) (v : Value), ((X.cell? ⟨bn, 0, none⟩ = some (.slice (some ⟨g, off', none⟩) tl cl) ∧ X.cell? ⟨bn, 1, none⟩ = some (.slice po off.length co)) ∧ (X.cell? ⟨g, off' + i * 4, none⟩ = some (.string p.cn.space) ∧ X.cell? ⟨g, off' + i * 4 + 1, none⟩ = some (.string p.cn.name) ∧ X.cell? ⟨g, off' + i * 4 + 2, none⟩ = some (.slice p.pm p.cn.mems.length p.cm) ∧ X.cell? ⟨g, off' + i * 4 + 3, none⟩ = some (.slice p.pp p.cn.posts.length p.cp)) ∧ X.cell? ⟨bo, 0, none⟩ = some (.int .i64 4) ∧ X.cell? ⟨bo, 1, none⟩ = some (.string sp) ∧ X.cell? ⟨bo, 2, none⟩ = some (.string ch) ∧ X.cell? ⟨bo, 3, none⟩ = some (.string us) ∧ X.cell? ⟨bo, 4, none⟩ = some (.string te) ∧ X.cell? ⟨bo, 5, none⟩ = some (.string tt) ∧ X.cell? ⟨bo, 6, none⟩ = some (.string to) ∧ X.cell? ⟨bo, 7, none⟩ = some (.int .i64 fr) ∧ X.cell? ⟨bo, 8, none⟩ = some (.int .i64 mo)) → (fun X : World => (X.cell? ⟨bn, 0, none⟩ = some (.slice (some ⟨g, off', none⟩) tl cl) ∧ X.cell? ⟨bn, 1, none⟩ = some (.slice po off.length co)) ∧ (X.cell? ⟨g, off' + i * 4, none⟩ = some (.string p.cn.space) ∧ X.cell? ⟨g, off' + i * 4 + 1, none⟩ = some (.string p.cn.name) ∧ X.cell? ⟨g, off' + i * 4 + 2, none⟩ = some (.slice p.pm p.cn.mems.length p.cm) ∧ X.cell? ⟨g, off' + i * 4 + 3, none⟩ = some (.slice p.pp p.cn.posts.length p.cp)) ∧ X.cell? ⟨bo, 0, none⟩ = some (.int .i64 4) ∧ X.cell? ⟨bo, 1, none⟩ = some (.string sp) ∧ X.cell? ⟨bo, 2, none⟩ = some (.string ch) ∧ X.cell? ⟨bo, 3, none⟩ = some (.string us) ∧ X.cell? ⟨bo, 4, none⟩ = some (.string te) ∧ X.cell? ⟨bo, 5, none⟩ = some (.string tt) ∧ X.cell? ⟨bo, 6, none⟩ = some (.string to) ∧ X.cell? ⟨bo, 7, none⟩ = some (.int .i64 fr) ∧ X.cell? ⟨bo, 8, none⟩ = some (.int .i64 mo)) (X.setCell ⟨bp, j, none⟩ v)) := fun X j v h => by
      have hne := HB.out
      have n1 : bp ≠ bn := by omega
      have n2 : bp ≠ g := by omega
      have n3 : bp ≠ bo := by omega
      simp only [World.cell?_setCell_far _ ⟨bp, j, none⟩ ⟨bn, _, none⟩ _ n1, World.cell?_setCell_far _ ⟨bp, j, none⟩ ⟨g, _, none⟩ _ n2, World.cell?_setCell_far _ ⟨bp, j, none⟩ ⟨bo, _, none⟩ _ n3]
      exact h
    clear hp hkey hpl k0 k1 k2 k3 hgl hpm hil htl hmay4
    go_upto_region 17 with fail
    clear o0
    have HV : Hid (Below u.heap.size u I1.drew) := HI1.out.drew
    have hV : Below u.heap.size u I1.drew := HV.out
    go_region_held (fun X => (X.cell? ⟨bn, 0, none⟩ = some (.slice (some ⟨g, off', none⟩) tl cl) ∧ X.cell? ⟨bn, 1, none⟩ = some (.slice po off.length co)) ∧ (X.cell? ⟨g, off' + i * 4, none⟩ = some (.string p.cn.space) ∧ X.cell? ⟨g, off' + i * 4 + 1, none⟩ = some (.string p.cn.name) ∧ X.cell? ⟨g, off' + i * 4 + 2, none⟩ = some (.slice p.pm p.cn.mems.length p.cm) ∧ X.cell? ⟨g, off' + i * 4 + 3, none⟩ = some (.slice p.pp p.cn.posts.length p.cp)) ∧ X.cell? ⟨bo, 0, none⟩ = some (.int .i64 4) ∧ X.cell? ⟨bo, 1, none⟩ = some (.string sp) ∧ X.cell? ⟨bo, 2, none⟩ = some (.string ch) ∧ X.cell? ⟨bo, 3, none⟩ = some (.string us) ∧ X.cell? ⟨bo, 4, none⟩ = some (.string te) ∧ X.cell? ⟨bo, 5, none⟩ = some (.string tt) ∧ X.cell? ⟨bo, 6, none⟩ = some (.string to) ∧ X.cell? ⟨bo, 7, none⟩ = some (.int .i64 fr) ∧ X.cell? ⟨bo, 8, none⟩ = some (.int .i64 mo))
      (with_reducible first | assumption | exact HSx.out _ (by assumption) | (repeat (first | assumption | refine HKr.out _ _ _ ?_ | refine HKp.out _ _ _ ?_)))
      (first | (go_at_call 43; refine (HWn.out _ ?_).mono ?_; assumption; rintro e Y ⟨p1, n1, c1, p2, n2, c2, e1, e2, p3, n3, c3, rfl, hb1, HFin⟩
                have hbY : Below u.heap.size u Y := hV.trans (hb1.mono hV.size)
                have HY : Hid (Below u.heap.size u Y) := hbY
                clear hb1
                obtain ⟨z0, z1, h0, h1⟩ := (HW.out Y HY.out).r
                obtain ⟨y0, y1, y2, j0, j1, j2⟩ := (ex9_cells (HW.out Y HY.out).r (HW.out Y HY.out).p (by have := HB.out; omega) (.slice p1 n1 c1) (.slice p2 n2 c2) (.int .i64 0) (.int .i64 0) (.slice none 0 0)).1))
    clear z0 z1 h0 h1 y0 y1 y2 j0 j1 j2 hbY hV
    obtain ⟨g1, g2, g3⟩ := ex9_cells ((HW.out Y HY.out)).r ((HW.out Y HY.out)).p (by have := HB.out; omega) (.slice p1 n1 c1) (.slice p2 n2 c2) (.int .i64 e1) (.int .i64 e2) (.slice p3 n3 c3)
    have HOut : Hid (Q (.returned (.tuple #[.agg #[.slice p1 n1 c1, .slice p2 n2 c2], .agg #[.int .i64 e1, .int .i64 e2, .slice p3 n3 c3]])) (ex9 Y br bp (.slice p1 n1 c1) (.slice p2 n2 c2) (.int .i64 e1) (.int .i64 e2) (.slice p3 n3 c3))) := HQ.out _ _ (by have ei : Mp.dDo q ⟨4, sp, ch, us, te, tt, to, fr, mo⟩ = Mp.inner q p.cn ⟨4, sp, ch, us, te, tt, to, fr, mo⟩ := (by unfold Mp.dDo; rw [if_neg (by rw [HMay.out]; decide)]; dsimp only; rw [if_neg (by decide), if_neg (by decide), if_neg (by decide)]; (try dsimp only); rw [HYes.out]); rw [ei]; exact HFin.out br bp (HU.out.trans (HV.out.mono HU.out.size)) (by have := HB.out; omega) (by have := HB.out; omega))
    obtain ⟨z0, z1, h0, h1⟩ := ((HW.out Y HY.out)).r
    obtain ⟨y0, y1, y2, j0, j1, j2⟩ := g1
    obtain ⟨x0, x1, _, _⟩ := g2
    obtain ⟨x2, x3, x4, _, _, _⟩ := g3
    obtain ⟨F, hF⟩ : ∃ F, F = ex9 Y br bp (.slice p1 n1 c1) (.slice p2 n2 c2) (.int .i64 e1) (.int .i64 e2) (.slice p3 n3 c3) := ⟨_, rfl⟩
    rw [← hF] at HOut x0 x1 x2 x3 x4
    unfold ex9 at hF
    go_wp2
    rw [← hF]
    clear hF
    refine bodyPost_ret (v := .tuple #[.agg #[.slice p1 n1 c1, .slice p2 n2 c2], .agg #[.int .i64 e1, .int .i64 e2, .slice p3 n3 c3]]) ?qres rfl ?qpost
    case qres => simp [results, Try.results20, go_sem, x0, x1, x2, x3, x4]
    case qpost => exact HOut.out

end Go.Proofs.Ytkioeahlajjmiaa

/-
  The document's Do: kind 5.
-/
namespace Go.Proofs.Ytkioeahlajjmiaa
open Go.RowKit

set_option maxHeartbeats 12800000 in
set_option maxRecDepth 20000 in
theorem rDo_5 {L : Nat → Prop} {w : World} {pl po : Option Addr} {cl co : Nat} {t : List Rw} {off : List ByteArray} {q : Mp.Dm} (h : DvT L w pl cl po co t off) (hq : t.map (·.cn) = q.list) (hoff : off = q.off) (hL : ∀ g, w.heap.size ≤ g → L g) {s : Mo.St} (hRel : Mp.Rel s q) (hn : t.length ≤ 1000000 ∧ off.length ≤ 1000000 ∧ ∀ p ∈ t, p.cn.mems.length ≤ 1000000) (sp ch us te tt to : ByteArray) (fr mo : Int) (hmay : Mo.may ⟨5, sp, ch, us, te, tt, to, fr, mo⟩ = true) (hMay : ∀ X, Calls Try.prog 37 #[.agg #[.int .i64 5, .string sp, .string ch, .string us, .string te, .string tt, .string to, .int .i64 fr, .int .i64 mo]] X fun e X' => e = .returned (.bool (Mo.may ⟨5, sp, ch, us, te, tt, to, fr, mo⟩)) ∧ Below X.heap.size X X') :
    Calls Try.prog 20 #[.agg #[.slice pl t.length cl, .slice po off.length co], .agg #[.int .i64 5, .string sp, .string ch, .string us, .string te, .string tt, .string to, .int .i64 fr, .int .i64 mo]] w (DoR L w (Mp.dDo q ⟨5, sp, ch, us, te, tt, to, fr, mo⟩)) := by
  obtain ⟨u, hu, hbu, hus, hWi⟩ := Di.start w (.slice pl t.length cl) (.slice po off.length co) ⟨5, sp, ch, us, te, tt, to, fr, mo⟩
  dsimp only at hu
  obtain ⟨bn, hbn⟩ : ∃ bn, bn = w.heap.size := ⟨_, rfl⟩
  obtain ⟨bo, hbo⟩ : ∃ bo, bo = w.heap.size + 1 := ⟨_, rfl⟩
  obtain ⟨br, hbr⟩ : ∃ br, br = w.heap.size + 1 + 1 := ⟨_, rfl⟩
  obtain ⟨bp, hbp⟩ : ∃ bp, bp = w.heap.size + 1 + 1 + 1 := ⟨_, rfl⟩
  rw [← hbp, ← hbr, ← hbo, ← hbn] at hWi
  have HW : Hid (∀ X, Below u.heap.size u X → Di bn bo br bp (.slice pl t.length cl) (.slice po off.length co) ⟨5, sp, ch, us, te, tt, to, fr, mo⟩ X) := fun X hX => hWi.below hX
  have HB : Hid (bn = w.heap.size ∧ bo = w.heap.size + 1 ∧ br = w.heap.size + 2 ∧ bp = w.heap.size + 3 ∧ u.heap.size = w.heap.size + 4) := ⟨hbn, hbo, by omega, by omega, hus⟩
  have HU : Hid (Below w.heap.size w u) := hbu
  have HD : Hid (DvT L w pl cl po co t off) := h
  have HL : Hid (∀ g, w.heap.size ≤ g → L g) := hL
  have HRel : Hid (Mp.Rel s q) := hRel
  have hst := sorted_cn hq hRel.rise
  have HE : Hid (t.map (·.cn) = q.list ∧ off = q.off ∧ Mp.Sorted Rw.key Mp.ltK t ∧ t.length ≤ 1000000 ∧ off.length ≤ 1000000 ∧ ∀ p ∈ t, p.cn.mems.length ≤ 1000000) := ⟨hq, hoff, hst, hn⟩
  have HMay : Hid (Mo.may ⟨5, sp, ch, us, te, tt, to, fr, mo⟩ = true) := hmay
  have HMc : Hid (∀ X, Calls Try.prog 37 #[.agg #[.int .i64 5, .string sp, .string ch, .string us, .string te, .string tt, .string to, .int .i64 fr, .int .i64 mo]] X fun e X' => e = .returned (.bool true) ∧ Below X.heap.size X X') := fun X => by
    have h9 := hMay X
    rw [hmay] at h9
    exact h9
  have HF : Hid (∀ X, Below u.heap.size u X → Calls Try.prog 39 #[.agg #[.slice pl t.length cl, .slice po off.length co], .string sp, .string ch] X fun e w' => ∃ k : Int, e = .returned (.int .i64 k) ∧ Where t sp ch k ∧ Below X.heap.size X w') := fun X hX => rFind_c (HD.out.ls.below (HU.out.trans (hX.mono HU.out.size))) HE.out.2.2.2.1 po off.length co sp ch
  generalize hQ : DoR L w (Mp.dDo q ⟨5, sp, ch, us, te, tt, to, fr, mo⟩) = Q
  have HQ : Hid (∀ e w', DoR L w (Mp.dDo q ⟨5, sp, ch, us, te, tt, to, fr, mo⟩) e w' → Q e w') := fun e w' h => by rw [← hQ]; exact h
  clear h hbu hWi hQ hus hL hq hoff hRel hst hn hmay hMay 
  go_enter Try.func20, Try.ntmps20
  go_upto_region 1 with fail
  rw [← hu, ← hbp, ← hbr, ← hbo, ← hbn]
  clear hu hbp hbr hbo hbn
  have H0 : Hid (Below u.heap.size u u) := Below.refl _ _
  obtain ⟨_, o0, o1, o2, o3, o4, o5, o6, o7, o8, _, _⟩ := HW.out u H0.out
  dsimp only at o0
  go_wp2_with fail
  refine (HMc.out u).mono ?_
  rintro e M1 ⟨rfl, hbM1⟩
  have HM1 : Hid (Below u.heap.size u M1) := hbM1
  clear hbM1 o0 o1 o2 o3 o4 o5 o6 o7 o8
  obtain ⟨⟨n0, n1, _, _⟩, _, o1, o2, _, _, _, _, _, _, _, _⟩ := HW.out M1 HM1.out
  go_wp2_with fail
  refine (HF.out M1 HM1.out).mono ?_
  rintro e I1 ⟨k, rfl, hk, hbI1⟩
  have HI1 : Hid (Below u.heap.size u I1) := HM1.out.trans (hbI1.mono HM1.out.size)
  have o0 := (HW.out I1 HI1.out).o0
  dsimp only at o0
  clear hbI1 n0 n1 o1 o2
  rcases hk with ⟨rfl, hno⟩ | ⟨i, p, rfl, hp, hkey⟩
  · have HNo : Hid (Mp.look q sp ch = none) := look_nil HE.out.1 hno
    clear hno
    obtain ⟨n0, n1, _, _⟩ := (HW.out I1 HI1.out).m
    go_wp2_with fail
    refine (no_c I1 _ _ _ _ _ _ 3).mono ?_
    rintro e N1 ⟨rfl, hbN1⟩
    have HN1 : Hid (Below u.heap.size u N1) := HI1.out.trans (hbN1.mono HI1.out.size)
    clear hbN1 n0 n1

    obtain ⟨g1, g2, g3⟩ := ex9_cells (HW.out N1 HN1.out).r (HW.out N1 HN1.out).p (by have := HB.out; omega) (.slice pl t.length cl) (.slice po off.length co) (.int .i64 3) (.int .i64 0) (.slice none 0 0)
    have HOut : Hid (Q (.returned (.tuple #[.agg #[.slice pl t.length cl, .slice po off.length co], .agg #[.int .i64 3, .int .i64 0, .slice none 0 0]])) (ex9 N1 br bp (.slice pl t.length cl) (.slice po off.length co) (.int .i64 3) (.int .i64 0) (.slice none 0 0))) := HQ.out _ _ (by unfold Mp.dDo; rw [if_neg (by rw [HMay.out]; decide)]; dsimp only; rw [if_neg (by decide), if_neg (by decide), if_neg (by decide)]; (try dsimp only); rw [HNo.out]; exact DoR.no HD.out HE.out.1 HE.out.2.1 (ex9_below (HU.out.trans (HN1.out.mono HU.out.size)) (by have := HB.out; omega) (by have := HB.out; omega) _ _ _ _ _) _)
    obtain ⟨z0, z1, h0, h1⟩ := (HW.out N1 HN1.out).r
    obtain ⟨y0, y1, y2, j0, j1, j2⟩ := g1
    obtain ⟨x0, x1, _, _⟩ := g2
    obtain ⟨x2, x3, x4, _, _, _⟩ := g3
    obtain ⟨F, hF⟩ : ∃ F, F = ex9 N1 br bp (.slice pl t.length cl) (.slice po off.length co) (.int .i64 3) (.int .i64 0) (.slice none 0 0) := ⟨_, rfl⟩
    rw [← hF] at HOut x0 x1 x2 x3 x4
    unfold ex9 at hF
    go_wp2
    rw [← hF]
    clear hF
    refine bodyPost_ret (v := .tuple #[.agg #[.slice pl t.length cl, .slice po off.length co], .agg #[.int .i64 3, .int .i64 0, .slice none 0 0]]) ?qres rfl ?qpost
    case qres => simp [results, Try.results20, go_sem, x0, x1, x2, x3, x4]
    case qpost => exact HOut.out

  · have HYes : Hid (Mp.look q sp ch = some p.cn) := look_some HE.out.1 HE.out.2.2.1 (List.mem_of_getElem? hp) hkey
    have hi0 : ¬ (i : Int) < 0 := by omega
    have hi1 : (0 : Int) ≤ (i : Int) := by omega
    have hil : i < t.length := (List.getElem?_eq_some_iff.1 hp).1
    obtain ⟨g, off', hpl, k0, k1, k2, k3⟩ := HD.out.ls.at hp
    have hgl : g < w.heap.size := World.block_lt_of_cell? _ _ k0
    obtain ⟨tl, htl⟩ : ∃ tl, tl = t.length := ⟨_, rfl⟩
    have hi2 : (i : Int) < (tl : Int) := by omega
    have hpm : p.cn ∈ q.list := by rw [← HE.out.1]; exact List.mem_map.2 ⟨p, List.mem_of_getElem? hp, rfl⟩
    have HWn : Hid (∀ X, Below u.heap.size u X → Calls Try.prog 43 #[.agg #[.slice (some ⟨g, off', none⟩) tl cl, .slice po off.length co], .agg #[.string p.cn.space, .string p.cn.name, .slice p.pm p.cn.mems.length p.cm, .slice p.pp p.cn.posts.length p.cp], .agg #[.int .i64 5, .string sp, .string ch, .string us, .string te, .string tt, .string to, .int .i64 fr, .int .i64 mo]] X fun e Y => ∃ p1 n1 c1 p2 n2 c2 e1 e2 p3 n3 c3, e = .returned (.tuple #[.agg #[.slice p1 n1 c1, .slice p2 n2 c2], .agg #[.int .i64 e1, .int .i64 e2, .slice p3 n3 c3]]) ∧ Below X.heap.size X Y ∧ Hid (∀ br bp, Below w.heap.size w X → w.heap.size ≤ br ∧ br < u.heap.size → w.heap.size ≤ bp ∧ bp < u.heap.size → DoR L w (Mp.inner q p.cn ⟨5, sp, ch, us, te, tt, to, fr, mo⟩) (.returned (.tuple #[.agg #[.slice p1 n1 c1, .slice p2 n2 c2], .agg #[.int .i64 e1, .int .i64 e2, .slice p3 n3 c3]])) (ex9 Y br bp (.slice p1 n1 c1) (.slice p2 n2 c2) (.int .i64 e1) (.int .i64 e2) (.slice p3 n3 c3)))) := fun X hX => by
      have b1 : DvT (Lp L w u.heap.size) w pl cl po co t off := HD.out.weak (fun g hg hl => ⟨hg, .inl hl⟩)
      have b2 := b1.below (HU.out.trans (hX.mono HU.out.size))
      have h9 := within5 b2 HE.out.1 HE.out.2.1 (fun g hg => ⟨HL.out g (by have := HU.out.size; have := hX.size; omega), .inr (by have := hX.size; omega)⟩) (List.mem_of_getElem? hp) HE.out.2.2.1 HE.out.2.2.2.1 sp ch us te tt to fr mo 
      rw [hpl, ← htl] at h9
      exact h9.mono (fun e Y h => DoR.on h)
    have HSx : Hid (∀ X, Below u.heap.size u X → ((X.cell? ⟨bn, 0, none⟩ = some (.slice (some ⟨g, off', none⟩) tl cl) ∧ X.cell? ⟨bn, 1, none⟩ = some (.slice po off.length co)) ∧ (X.cell? ⟨g, off' + i * 4, none⟩ = some (.string p.cn.space) ∧ X.cell? ⟨g, off' + i * 4 + 1, none⟩ = some (.string p.cn.name) ∧ X.cell? ⟨g, off' + i * 4 + 2, none⟩ = some (.slice p.pm p.cn.mems.length p.cm) ∧ X.cell? ⟨g, off' + i * 4 + 3, none⟩ = some (.slice p.pp p.cn.posts.length p.cp)) ∧ X.cell? ⟨bo, 0, none⟩ = some (.int .i64 5) ∧ X.cell? ⟨bo, 1, none⟩ = some (.string sp) ∧ X.cell? ⟨bo, 2, none⟩ = some (.string ch) ∧ X.cell? ⟨bo, 3, none⟩ = some (.string us) ∧ X.cell? ⟨bo, 4, none⟩ = some (.string te) ∧ X.cell? ⟨bo, 5, none⟩ = some (.string tt) ∧ X.cell? ⟨bo, 6, none⟩ = some (.string to) ∧ X.cell? ⟨bo, 7, none⟩ = some (.int .i64 fr) ∧ X.cell? ⟨bo, 8, none⟩ = some (.int .i64 mo))) := fun X hX => by
      have hwX := HU.out.trans (hX.mono HU.out.size)
      obtain ⟨⟨n0, n1, _, _⟩, o0, o1, o2, o3, o4, o5, o6, o7, o8, _, _⟩ := HW.out X hX
      rw [hpl, ← htl] at n0
      exact ⟨⟨n0, n1⟩, ⟨(hwX.cell (p := ⟨g, off' + i * 4, none⟩) hgl).trans k0, (hwX.cell (p := ⟨g, off' + i * 4 + 1, none⟩) hgl).trans k1, (hwX.cell (p := ⟨g, off' + i * 4 + 2, none⟩) hgl).trans k2, (hwX.cell (p := ⟨g, off' + i * 4 + 3, none⟩) hgl).trans k3⟩, o0, o1, o2, o3, o4, o5, o6, o7, o8⟩
    have HKr : Hid (∀ (X : World) (j : Nat) (v : Value), ((X.cell? ⟨bn, 0, none⟩ = some (.slice (some ⟨g, off', none⟩) tl cl) ∧ X.cell? ⟨bn, 1, none⟩ = some (.slice po off.length co)) ∧ (X.cell? ⟨g, off' + i * 4, none⟩ = some (.string p.cn.space) ∧ X.cell? ⟨g, off' + i * 4 + 1, none⟩ = some (.string p.cn.name) ∧ X.cell? ⟨g, off' + i * 4 + 2, none⟩ = some (.slice p.pm p.cn.mems.length p.cm) ∧ X.cell? ⟨g, off' + i * 4 + 3, none⟩ = some (.slice p.pp p.cn.posts.length p.cp)) ∧ X.cell? ⟨bo, 0, none⟩ = some (.int .i64 5) ∧ X.cell? ⟨bo, 1, none⟩ = some (.string sp) ∧ X.cell? ⟨bo, 2, none⟩ = some (.string ch) ∧ X.cell? ⟨bo, 3, none⟩ = some (.string us) ∧ X.cell? ⟨bo, 4, none⟩ = some (.string te) ∧ X.cell? ⟨bo, 5, none⟩ = some (.string tt) ∧ X.cell? ⟨bo, 6, none⟩ = some (.string to) ∧ X.cell? ⟨bo, 7, none⟩ = some (.int .i64 fr) ∧ X.cell? ⟨bo, 8, none⟩ = some (.int .i64 mo)) → (fun X : World => (X.cell? ⟨bn, 0, none⟩ = some (.slice (some ⟨g, off', none⟩) tl cl) ∧ X.cell? ⟨bn, 1, none⟩ = some (.slice po off.length co)) ∧ (X.cell? ⟨g, off' + i * 4, none⟩ = some (.string p.cn.space) ∧ X.cell? ⟨g, off' + i * 4 + 1, none⟩ = some (.string p.cn.name) ∧ X.cell? ⟨g, off' + i * 4 + 2, none⟩ = some (.slice p.pm p.cn.mems.length p.cm) ∧ X.cell? ⟨g, off' + i * 4 + 3, none⟩ = some (.slice p.pp p.cn.posts.length p.cp)) ∧ X.cell? ⟨bo, 0, none⟩ = some (.int .i64 5) ∧ X.cell? ⟨bo, 1, none⟩ = some (.string sp) ∧ X.cell? ⟨bo, 2, none⟩ = some (.string ch) ∧ X.cell? ⟨bo, 3, none⟩ = some (.string us) ∧ X.cell? ⟨bo, 4, none⟩ = some (.string te) ∧ X.cell? ⟨bo, 5, none⟩ = some (.string tt) ∧ X.cell? ⟨bo, 6, none⟩ = some (.string to) ∧ X.cell? ⟨bo, 7, none⟩ = some (.int .i64 fr) ∧ X.cell? ⟨bo, 8, none⟩ = some (.int .i64 mo)) (X.setCell ⟨br, j, none⟩ v)) := fun X j v h => by
      have hne := HB.out
      have n1 : br ≠ bn := by omega
      have n2 : br ≠ g := by omega
      have n3 : br ≠ bo := by omega
      simp only [World.cell?_setCell_far _ ⟨br, j, none⟩ ⟨bn, _, none⟩ _ n1, World.cell?_setCell_far _ ⟨br, j, none⟩ ⟨g, _, none⟩ _ n2, World.cell?_setCell_far _ ⟨br, j, none⟩ ⟨bo, _, none⟩ _ n3]
      exact h
    have HKp : Hid (∀ (X : World) (j : Nat) (v : Value), ((X.cell? ⟨bn, 0, none⟩ = some (.slice (some ⟨g, off', none⟩) tl cl) ∧ X.cell? ⟨bn, 1, none⟩ = some (.slice po off.length co)) ∧ (X.cell? ⟨g, off' + i * 4, none⟩ = some (.string p.cn.space) ∧ X.cell? ⟨g, off' + i * 4 + 1, none⟩ = some (.string p.cn.name) ∧ X.cell? ⟨g, off' + i * 4 + 2, none⟩ = some (.slice p.pm p.cn.mems.length p.cm) ∧ X.cell? ⟨g, off' + i * 4 + 3, none⟩ = some (.slice p.pp p.cn.posts.length p.cp)) ∧ X.cell? ⟨bo, 0, none⟩ = some (.int .i64 5) ∧ X.cell? ⟨bo, 1, none⟩ = some (.string sp) ∧ X.cell? ⟨bo, 2, none⟩ = some (.string ch) ∧ X.cell? ⟨bo, 3, none⟩ = some (.string us) ∧ X.cell? ⟨bo, 4, none⟩ = some (.string te) ∧ X.cell? ⟨bo, 5, none⟩ = some (.string tt) ∧ X.cell? ⟨bo, 6, none⟩ = some (.string to) ∧ X.cell? ⟨bo, 7, none⟩ = some (.int .i64 fr) ∧ X.cell? ⟨bo, 8, none⟩ = some (.int .i64 mo)) → (fun X : World => (X.cell? ⟨bn, 0, none⟩ = some (.slice (some ⟨g, off', none⟩) tl cl) ∧ X.cell? ⟨bn, 1, none⟩ = some (.slice po off.length co)) ∧ (X.cell? ⟨g, off' + i * 4, none⟩ = some (.string p.cn.space) ∧ X.cell? ⟨g, off' + i * 4 + 1, none⟩ = some (.string p.cn.name) ∧ X.cell? ⟨g, off' + i * 4 + 2, none⟩ = some (.slice p.pm p.cn.mems.length p.cm) ∧ X.cell? ⟨g, off' + i * 4 + 3, none⟩ = some (.slice p.pp p.cn.posts.length p.cp)) ∧ X.cell? ⟨bo, 0, none⟩ = some (.int .i64 5) ∧ X.cell? ⟨bo, 1, none⟩ = some (.string sp) ∧ X.cell? ⟨bo, 2, none⟩ = some (.string ch) ∧ X.cell? ⟨bo, 3, none⟩ = some (.string us) ∧ X.cell? ⟨bo, 4, none⟩ = some (.string te) ∧ X.cell? ⟨bo, 5, none⟩ = some (.string tt) ∧ X.cell? ⟨bo, 6, none⟩ = some (.string to) ∧ X.cell? ⟨bo, 7, none⟩ = some (.int .i64 fr) ∧ X.cell? ⟨bo, 8, none⟩ = some (.int .i64 mo)) (X.setCell ⟨bp, j, none⟩ v)) := fun X j v h => by
      have hne := HB.out
      have n1 : bp ≠ bn := by omega
      have n2 : bp ≠ g := by omega
      have n3 : bp ≠ bo := by omega
      simp only [World.cell?_setCell_far _ ⟨bp, j, none⟩ ⟨bn, _, none⟩ _ n1, World.cell?_setCell_far _ ⟨bp, j, none⟩ ⟨g, _, none⟩ _ n2, World.cell?_setCell_far _ ⟨bp, j, none⟩ ⟨bo, _, none⟩ _ n3]
      exact h
    clear hp hkey hpl k0 k1 k2 k3 hgl hpm hil htl 
    go_upto_region 17 with fail
    clear o0
    have HV : Hid (Below u.heap.size u I1.drew) := HI1.out.drew
    have hV : Below u.heap.size u I1.drew := HV.out
    go_region_held (fun X => (X.cell? ⟨bn, 0, none⟩ = some (.slice (some ⟨g, off', none⟩) tl cl) ∧ X.cell? ⟨bn, 1, none⟩ = some (.slice po off.length co)) ∧ (X.cell? ⟨g, off' + i * 4, none⟩ = some (.string p.cn.space) ∧ X.cell? ⟨g, off' + i * 4 + 1, none⟩ = some (.string p.cn.name) ∧ X.cell? ⟨g, off' + i * 4 + 2, none⟩ = some (.slice p.pm p.cn.mems.length p.cm) ∧ X.cell? ⟨g, off' + i * 4 + 3, none⟩ = some (.slice p.pp p.cn.posts.length p.cp)) ∧ X.cell? ⟨bo, 0, none⟩ = some (.int .i64 5) ∧ X.cell? ⟨bo, 1, none⟩ = some (.string sp) ∧ X.cell? ⟨bo, 2, none⟩ = some (.string ch) ∧ X.cell? ⟨bo, 3, none⟩ = some (.string us) ∧ X.cell? ⟨bo, 4, none⟩ = some (.string te) ∧ X.cell? ⟨bo, 5, none⟩ = some (.string tt) ∧ X.cell? ⟨bo, 6, none⟩ = some (.string to) ∧ X.cell? ⟨bo, 7, none⟩ = some (.int .i64 fr) ∧ X.cell? ⟨bo, 8, none⟩ = some (.int .i64 mo))
      (with_reducible first | assumption | exact HSx.out _ (by assumption) | (repeat (first | assumption | refine HKr.out _ _ _ ?_ | refine HKp.out _ _ _ ?_)))
      (first | (go_at_call 43; refine (HWn.out _ ?_).mono ?_; assumption; rintro e Y ⟨p1, n1, c1, p2, n2, c2, e1, e2, p3, n3, c3, rfl, hb1, HFin⟩
                have hbY : Below u.heap.size u Y := hV.trans (hb1.mono hV.size)
                have HY : Hid (Below u.heap.size u Y) := hbY
                clear hb1
                obtain ⟨z0, z1, h0, h1⟩ := (HW.out Y HY.out).r
                obtain ⟨y0, y1, y2, j0, j1, j2⟩ := (ex9_cells (HW.out Y HY.out).r (HW.out Y HY.out).p (by have := HB.out; omega) (.slice p1 n1 c1) (.slice p2 n2 c2) (.int .i64 0) (.int .i64 0) (.slice none 0 0)).1))
    clear z0 z1 h0 h1 y0 y1 y2 j0 j1 j2 hbY hV
    obtain ⟨g1, g2, g3⟩ := ex9_cells ((HW.out Y HY.out)).r ((HW.out Y HY.out)).p (by have := HB.out; omega) (.slice p1 n1 c1) (.slice p2 n2 c2) (.int .i64 e1) (.int .i64 e2) (.slice p3 n3 c3)
    have HOut : Hid (Q (.returned (.tuple #[.agg #[.slice p1 n1 c1, .slice p2 n2 c2], .agg #[.int .i64 e1, .int .i64 e2, .slice p3 n3 c3]])) (ex9 Y br bp (.slice p1 n1 c1) (.slice p2 n2 c2) (.int .i64 e1) (.int .i64 e2) (.slice p3 n3 c3))) := HQ.out _ _ (by have ei : Mp.dDo q ⟨5, sp, ch, us, te, tt, to, fr, mo⟩ = Mp.inner q p.cn ⟨5, sp, ch, us, te, tt, to, fr, mo⟩ := (by unfold Mp.dDo; rw [if_neg (by rw [HMay.out]; decide)]; dsimp only; rw [if_neg (by decide), if_neg (by decide), if_neg (by decide)]; (try dsimp only); rw [HYes.out]); rw [ei]; exact HFin.out br bp (HU.out.trans (HV.out.mono HU.out.size)) (by have := HB.out; omega) (by have := HB.out; omega))
    obtain ⟨z0, z1, h0, h1⟩ := ((HW.out Y HY.out)).r
    obtain ⟨y0, y1, y2, j0, j1, j2⟩ := g1
    obtain ⟨x0, x1, _, _⟩ := g2
    obtain ⟨x2, x3, x4, _, _, _⟩ := g3
    obtain ⟨F, hF⟩ : ∃ F, F = ex9 Y br bp (.slice p1 n1 c1) (.slice p2 n2 c2) (.int .i64 e1) (.int .i64 e2) (.slice p3 n3 c3) := ⟨_, rfl⟩
    rw [← hF] at HOut x0 x1 x2 x3 x4
    unfold ex9 at hF
    go_wp2
    rw [← hF]
    clear hF
    refine bodyPost_ret (v := .tuple #[.agg #[.slice p1 n1 c1, .slice p2 n2 c2], .agg #[.int .i64 e1, .int .i64 e2, .slice p3 n3 c3]]) ?qres rfl ?qpost
    case qres => simp [results, Try.results20, go_sem, x0, x1, x2, x3, x4]
    case qpost => exact HOut.out

end Go.Proofs.Ytkioeahlajjmiaa
