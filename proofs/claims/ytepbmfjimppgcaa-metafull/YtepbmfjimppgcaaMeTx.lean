/-
  A transaction: whether it is decided, what it waits for.
-/
import Derived.Test.YtepbmfjimppgcaaMeDel
namespace Go.Proofs.Ytepbmfjimppgcaa
open Go.RowKit

theorem opInfo9 : (Try.prog.info? 37).map (·.size) = some 9 := by kernel_rfl
theorem txInfo14 : (Try.prog.info? 70).map (·.size) = some 14 := by kernel_rfl

/-- A transaction in its box. -/
structure Bt (w u : World) (bx : Nat) (t : Me.Tx) (v e : Nat) : Prop where
  old : Below w.heap.size w u
  lo : w.heap.size ≤ bx ∧ bx < u.heap.size
  c : ∀ X, Below u.heap.size u X → X.rangeAt bx 0 (txC t v e)
  o : ∀ X, Below u.heap.size u X → X.rangeAt bx 2 (opC t.op)
theorem Bt.of (w : World) (t : Me.Tx) (v e : Nat) {u : World} {T : TypeId} (h : u = w.alloc (.cells (txC t v e).toArray T)) : Bt w u w.heap.size t v e := by
  have hb : Below w.heap.size w u := by rw [h]; exact below_alloc _ _
  have hl : w.heap.size < u.heap.size := by rw [h]; simp
  have hc : ∀ X, Below u.heap.size u X → ∀ j, X.cell? ⟨w.heap.size, j, none⟩ = (txC t v e)[j]? := fun X hX j => by
    rw [hX.cell (p := ⟨w.heap.size, j, none⟩) hl, h, World.cell?_alloc_mark]
    simp
  refine ⟨hb, ⟨Nat.le_refl _, hl⟩, fun X hX j x hx => by rw [Nat.zero_add, hc X hX]; exact hx, fun X hX j x hx => ?_⟩
  rw [hc X hX, ← hx]
  have hj := (List.getElem?_eq_some_iff.1 hx).1
  have hj : j < 9 := hj
  match j, hj with
  | 0, _ => rfl
  | 1, _ => rfl
  | 2, _ => rfl
  | 3, _ => rfl
  | 4, _ => rfl
  | 5, _ => rfl
  | 6, _ => rfl
  | 7, _ => rfl
  | 8, _ => rfl
theorem Bt.at {w u : World} {bx : Nat} {t : Me.Tx} {v e : Nat} (h : Bt w u bx t v e) {X : World} (hX : Below u.heap.size u X) {j : Nat} {x : Value} (hx : (txC t v e)[j]? = some x) : X.cell? ⟨bx, j, none⟩ = some x := by
  have := h.c X hX j x hx
  rw [Nat.zero_add] at this
  exact this

section
variable {w : World} {t : Me.Tx} {v e : Nat}
set_option maxRecDepth 20000 in
theorem isDecided_c (hm : Mi w v (vsM t.vs)) (ho : OpOk t.op) : Calls Try.prog 28 #[.agg (txC t v e).toArray] w fun e' w' => e' = .returned (.bool (Me.dec t)) ∧ Below w.heap.size w w' := by
  obtain ⟨u, hu⟩ : ∃ u, u = w.alloc (.cells (txC t v e).toArray 70) := ⟨_, rfl⟩
  obtain ⟨bx, hbx⟩ : ∃ bx, bx = w.heap.size := ⟨_, rfl⟩
  have hB : Bt w u bx t v e := by rw [hbx]; exact Bt.of w t v e hu
  have HBt : Hid _ := hB
  have y11 := hB.at (Below.refl _ _) (j := 11) rfl
  have hln := (hm.carry (hB.old.block v hm.lt)).lenV
  have HS : Hid (Calls Try.prog 45 #[.agg (opC t.op).toArray] u fun e w' => ∃ v, e = .returned v ∧ LsW u w' v (slotsL t.op)) := SlotsW_c t.op ho u
  have HD : Hid (Me.dec t = decide (t.vs.length = (slotsL t.op).length)) := rfl
  have HO : Hid (Below w.heap.size w u) := hB.old
  rw [HD.out]
  clear hm ho hB
  go_enter Try.func28, Try.ntmps28
  go_upto_region 1 with fail
  rw [← hu]
  try rw [← hbx]
  clear hu hbx
  go_wp2_with (first | refine wpList_load_mid rfl 37 (.tmp 6) rfl bx 2 rfl (opC t.op) _ (HBt.out.o _ (Below.refl _ _)) Try.underlying37 rfl opInfo9 ?_)
  refine Calls.mono HS.out ?_
  rintro e' w1 ⟨sv, rfl, hl⟩
  obtain ⟨p, c, hv, _, _⟩ := hl.2.1.form
  subst hv
  have HL : Hid (Below w.heap.size w w1) := HO.out.trans (hl.1.mono HO.out.size)
  clear hl
  go_wp2
  go_ret
  exact ⟨ret_bool (by first | exact decide_eq_decide.2 (by omega) | exact decide_eq_decide.2 (by constructor <;> intro h <;> omega)), HL.out⟩

/-- The closure of open. -/
theorem open1_c {X : World} {bx bd : Nat} {d : Bool} (h11 : X.cell? ⟨bx, 11, none⟩ = some (.map (some v))) (h12 : X.cell? ⟨bx, 12, none⟩ = some (.map (some e))) (hd : X.cell? ⟨bd, 0, none⟩ = some (.bool d)) (hm : Mi X v (vsM t.vs)) (he : Mi X e (esM t.es)) (x : Nat) (hx : x ≤ 1000) :
    Calls Try.prog 49 #[.int .i64 (x : Int), .pointer (some ⟨bx, 0, none⟩), .pointer (some ⟨bd, 0, none⟩)] X fun e' w' => e' = .returned (.bool (if d = true then (Me.at? t.es (x : Int)).isSome else (Me.at? t.vs (x : Int)).isSome)) ∧ Below X.heap.size X w' := by
  have h64 : se_In64 (x : Int) := by unfold se_In64; omega
  have q1 := hm.lookV h64
  have q2 := he.lookE h64
  have HO : Hid (Below X.heap.size X X) := Below.refl _ _
  clear hm he h64 hx
  cases d with
  | true =>
    rw [if_pos rfl]
    go_enter Try.func49, Try.ntmps49
    go_wp2
    go_ret
    exact ⟨rfl, HO.out⟩
  | false =>
    rw [if_neg (by simp)]
    go_enter Try.func49, Try.ntmps49
    go_wp2
    go_ret
    exact ⟨rfl, HO.out⟩

theorem slotOf_lt (x y : ByteArray) : slotOf x y < 16 := by
  exact S.slot_lt _
theorem slotsL_small (o : Mo.Op) : (slotsL o).length ≤ 16 ∧ ∀ x ∈ slotsL o, x < 16 := by
  unfold slotsL
  split
  · split
    · unfold two
      have h1 := slotOf_lt o.space o.channel
      have h2 := slotOf_lt o.toSpace o.to
      split
      · exact ⟨by simp, fun x hx => by simp at hx; omega⟩
      · split
        · exact ⟨by simp, fun x hx => by simp at hx; omega⟩
        · exact ⟨by simp, fun x hx => by simp at hx; omega⟩
    · split
      · exact ⟨by simp, fun x hx => List.mem_range.1 hx⟩
      · split
        · exact ⟨by simp, fun x hx => List.mem_range.1 hx⟩
        · exact ⟨by simp, fun x hx => by simp at hx; have := slotOf_lt o.space o.channel; omega⟩
  · exact ⟨by simp, fun x hx => by simp at hx⟩
set_option maxRecDepth 20000 in
theorem open_c (hm : Mi w v (vsM t.vs)) (he : Mi w e (esM t.es)) (ho : OpOk t.op) : Calls Try.prog 30 #[.agg (txC t v e).toArray] w fun e' w' => ∃ v', e' = .returned v' ∧ LsW w w' v' (Me.opn t) := by
  obtain ⟨u, hu⟩ : ∃ u, u = w.alloc (.cells (txC t v e).toArray 70) := ⟨_, rfl⟩
  obtain ⟨bx, hbx⟩ : ∃ bx, bx = w.heap.size := ⟨_, rfl⟩
  have hB : Bt w u bx t v e := by rw [hbx]; exact Bt.of w t v e hu
  have HBt : Hid _ := hB
  have HM : Hid (∀ X, Below u.heap.size u X → Mi X v (vsM t.vs) ∧ Mi X e (esM t.es)) := fun X hX => ⟨(hm.carry (hB.old.block v hm.lt)).carry (hX.block v (Nat.lt_of_lt_of_le hm.lt hB.old.size)), (he.carry (hB.old.block e he.lt)).carry (hX.block e (Nat.lt_of_lt_of_le he.lt hB.old.size))⟩
  have HI : Hid (Calls Try.prog 28 #[.agg (txC t v e).toArray] u fun e' w' => e' = .returned (.bool (Me.dec t)) ∧ Below u.heap.size u w') := isDecided_c (HM.out u (Below.refl _ _)).1 ho
  have HS : Hid (∀ X, Calls Try.prog 45 #[.agg (opC t.op).toArray] X fun e w' => ∃ v, e = .returned v ∧ LsW X w' v (slotsL t.op)) := fun X => SlotsW_c t.op ho X
  have HO : Hid (Below w.heap.size w u) := hB.old
  obtain ⟨d, hd⟩ : ∃ d, d = Me.dec t := ⟨_, rfl⟩
  have HP : Hid (Me.opn t = (slotsL t.op).filter fun (x : Nat) => !(if d = true then (Me.at? t.es (x : Int)).isSome else (Me.at? t.vs (x : Int)).isSome)) := by rw [hd]; rfl
  rw [← hd] at HI
  obtain ⟨L, hL⟩ : ∃ L, L = Me.opn t := ⟨_, rfl⟩
  rw [← hL] at HP ⊢
  clear hm he ho hB hd hL
  go_enter Try.func30, Try.ntmps30
  go_upto_region 1 with fail
  rw [← hu]
  try rw [← hbx]
  clear hu hbx
  go_wp2_with (first | refine wpList_load_mid rfl 70 (.tmp 1) rfl bx 0 rfl (txC t v e) _ (HBt.out.c _ (Below.refl _ _)) Try.underlying70 rfl txInfo14 ?_)
  refine Calls.mono HI.out ?_
  rintro e' w1 ⟨rfl, hb1⟩
  have HB1 : Hid (Below u.heap.size u w1) := hb1
  clear hb1
  obtain ⟨w2, hw2⟩ : ∃ w2, w2 = w1.alloc (.cells #[.bool d] 4) := ⟨_, rfl⟩
  obtain ⟨bd, hbd⟩ : ∃ bd, bd = w1.heap.size := ⟨_, rfl⟩
  have hb2 : Below w1.heap.size w1 w2 := by rw [hw2]; exact below_alloc w1 _
  have hd2 : w2.cell? ⟨bd, 0, none⟩ = some (.bool d) := by rw [hw2, hbd]; exact World.cell?_alloc_mark w1 _ _ _ 0
  have hl2 : bd < w2.heap.size := by rw [hw2, hbd]; simp
  have HB2 : Hid (Below u.heap.size u w2) := HB1.out.trans (hb2.mono HB1.out.size)
  have HK : Hid (∀ sv w3, LsW w2 w3 sv (slotsL t.op) → ∀ X, w3.grownBy X (cBlk sv) → CloO bx bd (fun x => if d = true then (Me.at? t.es (x : Int)).isSome else (Me.at? t.vs (x : Int)).isSome) (slotsL t.op) X) := fun sv w3 h3 X hX x hx => by
    have hk : ∀ k, k < w2.heap.size → X.heap[k]? = w2.heap[k]? := fun k hk => (hX.block k (Nat.lt_of_lt_of_le hk h3.1.size) (fun e => by have := h3.2.2 k e.symm; omega)).trans (h3.1.block k hk)
    have hlb := HBt.out.lo.2
    have hs2 := HB2.out.size
    obtain ⟨m1, m2⟩ := HM.out w2 HB2.out
    have y11 := HBt.out.at HB2.out (j := 11) rfl
    have y12 := HBt.out.at HB2.out (j := 12) rfl
    have hcx : ∀ j, X.cell? ⟨bx, j, none⟩ = w2.cell? ⟨bx, j, none⟩ := fun j => World.cell?_of_block (hk bx (by omega))
    exact open1_c ((hcx 11).trans y11) ((hcx 12).trans y12) ((World.cell?_of_block (a := ⟨bd, 0, none⟩) (hk bd hl2)).trans hd2) (m1.carry (hk v m1.lt)) (m2.carry (hk e m2.lt)) x (by have := (slotsL_small t.op).2 x hx; omega)
  have HSw : Hid _ := HS.out w2
  have HW2 : Hid (Below w.heap.size w w2) := HO.out.trans (HB2.out.mono HO.out.size)
  clear hb2 hd2 hl2
  go_wp2_with (first | (rw [← hw2, ← hbd]; clear hw2 hbd; refine wpList_load_mid rfl 37 (.tmp 6) rfl bx 2 rfl (opC t.op) _ (HBt.out.o _ HB2.out) Try.underlying37 rfl opInfo9 ?_))
  refine Calls.mono HSw.out ?_
  rintro e' w3 ⟨sv, rfl, hl⟩
  have HL : Hid (LsW w2 w3 sv (slotsL t.op)) := hl
  have HDF : Hid _ := DeleteFuncN_c hl.2.1 (by have := (slotsL_small t.op).1; omega) (HK.out sv w3 hl)
  clear hl
  go_wp2_with fail
  refine Calls.mono HDF.out ?_
  rintro e' w4 ⟨rv, rfl, hr, hg, hk⟩
  have HR : Hid (LsW w w4 rv L) := by
    rw [HP.out]
    have h1 : Below w.heap.size w w3 := HW2.out.trans (HL.out.1.mono HW2.out.size)
    have hlo : ∀ q, cBlk sv = some q → w.heap.size ≤ q := fun q hq => Nat.le_trans HW2.out.size (HL.out.2.2 q hq)
    exact ⟨sl_grown_below h1 hg hlo, hr, fun q hq => hlo q (hk q hq)⟩
  clear hr hg hk
  go_wp2
  go_ret
  exact ⟨_, rfl, HR.out⟩
end
end Go.Proofs.Ytepbmfjimppgcaa
