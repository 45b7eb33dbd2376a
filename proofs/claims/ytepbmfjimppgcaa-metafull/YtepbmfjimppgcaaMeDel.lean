/-
  slices.DeleteFunc of numbers in a row of the call's own.
-/
import Derived.Test.YtepbmfjimppgcaaMeCut
namespace Go.Proofs.Ytepbmfjimppgcaa
open Go.RowKit

theorem grownB {w X : World} (h : Below w.heap.size w X) (row : Option Nat) : w.grownBy X row := ⟨h.os, h.tape, h.output, h.size, fun i hi _ => h.block i hi⟩
def kpN (p : Nat → Bool) (l : List Nat) (j : Nat) : List Nat := (l.take j).filter fun x => !(p x)
theorem kpN_yes {p : Nat → Bool} {l : List Nat} {j x : Nat} (h : l[j]? = some x) (hp : p x = false) : kpN p l (j + 1) = kpN p l j ++ [x] := by
  obtain ⟨hl, he⟩ := List.getElem?_eq_some_iff.1 h
  unfold kpN
  rw [List.take_succ_eq_append_getElem hl, List.filter_append, he]
  simp [hp]
theorem kpN_no {p : Nat → Bool} {l : List Nat} {j x : Nat} (h : l[j]? = some x) (hp : p x = true) : kpN p l (j + 1) = kpN p l j := by
  obtain ⟨hl, he⟩ := List.getElem?_eq_some_iff.1 h
  unfold kpN
  rw [List.take_succ_eq_append_getElem hl, List.filter_append, he]
  simp [hp]
theorem kpN_all (p : Nat → Bool) (l : List Nat) : kpN p l l.length = l.filter fun x => !(p x) := by unfold kpN; rw [List.take_length]
theorem kpN_id {p : Nat → Bool} {l : List Nat} {k : Nat} (h : ∀ q y : Nat, q < k → l[q]? = some y → p y = false) : kpN p l k = l.take k := by
  unfold kpN
  rw [List.filter_eq_self]
  intro y hy
  obtain ⟨q, hq, e⟩ := List.getElem_of_mem hy
  rw [List.length_take] at hq
  rw [List.getElem_take] at e
  rw [h q y (by omega) (by rw [List.getElem?_eq_getElem (by omega), e])]
  rfl
/-- While DeleteFunc works: what was kept stands in front, what was not looked at where it was. -/
structure DqN (w : World) (g off c : Nat) (l : List Nat) (p : Nat → Bool) (j : Nat) (X : World) : Prop where
  grown : w.grownBy X (some g)
  room : RoomAt X g off c
  kept : ∀ (i x : Nat), (kpN p l j)[i]? = some x → X.cell? ⟨g, off + i, none⟩ = some (.int .i64 (x : Int))
  rest : ∀ (i x : Nat), j ≤ i → l[i]? = some x → X.cell? ⟨g, off + i, none⟩ = some (.int .i64 (x : Int))
theorem DqN.below {w X Y : World} {g off c j : Nat} {l : List Nat} {p : Nat → Bool} (h : DqN w g off c l p j X) (hb : Below X.heap.size X Y) (hg : g < w.heap.size) : DqN w g off c l p j Y := by
  have hgX : g < X.heap.size := Nat.lt_of_lt_of_le hg h.grown.size
  have hc : Y.heap[g]? = X.heap[g]? := hb.block g hgX
  exact ⟨⟨hb.os.trans h.grown.os, hb.tape.trans h.grown.tape, hb.output.trans h.grown.output, Nat.le_trans h.grown.size hb.size, fun k hk hne => (hb.block k (Nat.lt_of_lt_of_le hk h.grown.size)).trans (h.grown.block k hk hne)⟩, h.room.carry hc, fun i x hi => (World.cell?_of_block (a := ⟨g, off + i, none⟩) hc).trans (h.kept i x hi), fun i x hj hi => (World.cell?_of_block (a := ⟨g, off + i, none⟩) hc).trans (h.rest i x hj hi)⟩
theorem DqN.gone {w X : World} {g off c j x : Nat} {l : List Nat} {p : Nat → Bool} (h : DqN w g off c l p j X) (hl : l[j]? = some x) (hp : p x = true) : DqN w g off c l p (j + 1) X :=
  ⟨h.grown, h.room, fun i y hi => h.kept i y (by rw [kpN_no hl hp] at hi; exact hi), fun i y hj hi => h.rest i y (by omega) hi⟩
theorem DqN.stays {w X : World} {g off c j x i : Nat} {l : List Nat} {p : Nat → Bool} (h : DqN w g off c l p j X) (hl : l[j]? = some x) (hp : p x = false) (hi : (kpN p l j).length = i) (hij : i < j) (hc : j < c) : DqN w g off c l p (j + 1) (X.setCell ⟨g, off + i, none⟩ (.int .i64 (x : Int))) := by
  obtain ⟨y, hy⟩ := Option.isSome_iff_exists.1 (h.room i (by omega)).1
  have hcell : ∀ q, (X.setCell ⟨g, off + i, none⟩ (.int .i64 (x : Int))).cell? ⟨g, off + q, none⟩ = if q = i then some (.int .i64 (x : Int)) else X.cell? ⟨g, off + q, none⟩ := fun q => by
    rw [sl_cell_set6 _ hy]
    by_cases e : q = i
    · rw [if_pos e, if_pos (by omega)]
    · rw [if_neg e, if_neg (by omega)]
  refine ⟨⟨h.grown.os, h.grown.tape, h.grown.output, by simpa using h.grown.size, fun k hk hne => (Below.heap_setCell _ _ _ _ (fun e => hne (by rw [e]))).trans (h.grown.block k hk hne)⟩, fun q hq => ⟨by rw [hcell]; split; rfl; exact (h.room q hq).1, by rw [World.frozen?_setCell]; exact (h.room q hq).2⟩, fun q z hq => ?_, fun q z hj hq => by rw [hcell, if_neg (by omega)]; exact h.rest q z (by omega) hq⟩
  rw [kpN_yes hl hp] at hq
  rw [hcell]
  by_cases e : q = i
  · rw [if_pos e, ← hi] at *
    rw [e, List.getElem?_append_right (Nat.le_refl _), Nat.sub_self] at hq
    injection hq with hq
    rw [hq]
  · rw [if_neg e]
    have hql := (List.getElem?_eq_some_iff.1 hq).1
    rw [List.length_append, hi] at hql
    simp at hql
    rw [List.getElem?_append_left (by omega)] at hq
    exact h.kept q z hq

set_option maxHeartbeats 1600000 in
theorem DeleteFuncN_c {w : World} {v : Value} {l : List Nat} {p : Nat → Bool} {bx bd : Nat} (h : RowC w 1 v l.length (intsL l)) (hm2 : l.length ≤ 1000)
    (hp : ∀ X, w.grownBy X (cBlk v) → CloO bx bd p l X) :
    Calls Try.prog 48 #[v, .func (.func 49) #[] #[.pointer (some ⟨bx, 0, none⟩), .pointer (some ⟨bd, 0, none⟩)]] w fun e w' => ∃ v', e = .returned v' ∧ RowC w' 1 v' (l.filter fun x => !(p x)).length (intsL (l.filter fun x => !(p x))) ∧ w.grownBy w' (cBlk v) ∧ ∀ k, cBlk v' = some k → cBlk v = some k := by
  have HIx : Hid _ := IndexFuncN_c h hm2 (fun X hX => hp X (grownB hX _))
  have HRow : Hid (RowC w 1 v l.length (intsL l)) := h
  have HP : Hid (∀ X (x : Nat), x ∈ l → w.grownBy X (cBlk v) → Calls Try.prog 49 #[.int .i64 (x : Int), .pointer (some ⟨bx, 0, none⟩), .pointer (some ⟨bd, 0, none⟩)] X fun e w' => e = .returned (.bool (p x)) ∧ Below X.heap.size X w') := fun X x hx hX => hp X hX x hx
  obtain ⟨pp, cc, hv, hcc, hcm⟩ := h.form
  obtain ⟨m, hm⟩ : ∃ m, m = l.length := ⟨_, rfl⟩
  have HM : Hid (m = l.length) := hm
  rw [← hm] at hv hm2 hcc
  unfold maxLen at hcm
  have hlen0 : 0 < m → ∃ g off, pp = some ⟨g, off, none⟩ ∧ cBlk v = some g ∧ g < w.heap.size ∧ RoomAt w g off cc ∧ ∀ (j x : Nat), l[j]? = some x → w.cell? ⟨g, off + j, none⟩ = some (.int .i64 (x : Int)) := fun h0 => by
    obtain ⟨g, off, c, hv2, hb, _, _, hR, hC⟩ := ints_cells h (by omega)
    rw [hv] at hv2
    injection hv2 with e1 _ e3
    subst e3
    exact ⟨g, off, e1, hb, h.lt (by decide) hb, hR, hC⟩
  have HL0 : Hid _ := hlen0
  clear h hp hm hlen0
  subst hv
  go_enter Try.func48, Try.ntmps48
  go_wp2_with fail
  refine Calls.mono HIx.out ?_
  rintro e X ⟨⟨r, rfl, hF⟩, hb⟩
  rcases hF with ⟨rfl, hall⟩ | ⟨k, x, rfl, hk, hpx, hf⟩
  · have HO : Hid (RowC X 1 (.slice pp m cc) (l.filter fun x => !(p x)).length (intsL (l.filter fun x => !(p x))) ∧ w.grownBy X (cBlk (.slice pp m cc))) := by
      have e : (l.filter fun x => !(p x)) = l := List.filter_eq_self.2 fun x hx => by rw [hall x hx]; rfl
      rw [e]
      exact ⟨HRow.out.carry fun q hq => hb.block q (HRow.out.lt (by decide) hq), grownB hb _⟩
    clear hall hb
    go_wp2
    go_ret
    exact ⟨_, rfl, HO.out.1, HO.out.2, fun _ e => e⟩
  · have hkm : k < m := by rw [HM.out]; exact (List.getElem?_eq_some_iff.1 hk).1
    obtain ⟨g, off, hpp, hgb, hgl, hR, hC⟩ := HL0.out (by omega)
    subst hpp
    have HG : Hid (g < w.heap.size ∧ cBlk (.slice (some ⟨g, off, none⟩) m cc) = some g) := ⟨hgl, hgb⟩
    have hgX : X.heap[g]? = w.heap[g]? := hb.block g hgl
    have HD : Hid (DqN w g off cc l p (k + 1) X) := by
      refine ⟨grownB hb _, hR.carry hgX, fun q y hq => ?_, fun q y _ hq => (World.cell?_of_block (a := ⟨g, off + q, none⟩) hgX).trans (hC q y hq)⟩
      rw [kpN_no hk hpx, kpN_id hf, List.getElem?_take] at hq
      split at hq
      · exact (World.cell?_of_block (a := ⟨g, off + q, none⟩) hgX).trans (hC q y hq)
      · cases hq
    have HI : Hid ((kpN p l (k + 1)).length = k) := by
      show (kpN p l (k + 1)).length = k
      rw [kpN_no hk hpx, kpN_id hf, List.length_take]
      exact Nat.min_eq_left (Nat.le_of_lt (List.getElem?_eq_some_iff.1 hk).1)
    have hk0 : ¬ ((k : Int) = -1) := by omega
    have hw1 : IntKind.i64.wrap ((k : Int) + 1) = (k : Int) + 1 := by rw [IntKind.wrap_i64]; omega
    clear hk hpx hf hb HIx hR hC hgb hgl hgX HL0
    go_wp2
    go_loopw [5, 6] (fun iv jv wr => ∃ i j : Nat, iv = .int .i64 (i : Int) ∧ jv = .int .i64 (j : Int) ∧ i < j ∧ j ≤ m ∧ Hid ((kpN p l j).length = i) ∧ Hid (DqN w g off cc l p j wr)) (fun _ jv _ => m - (intOf jv).toNat)
    case atStart => exact ⟨k, k + 1, rfl, by go_num, by omega, by omega, HI, HD⟩
    case round =>
      clear HD HI hw1 hk0 hkm
      obtain ⟨i, j, rfl, rfl, hij, hjm, HI, HD⟩ := hrel
      by_cases hlt : j < m
      · obtain ⟨x, hl⟩ : ∃ x, l[j]? = some x := ⟨_, List.getElem?_eq_getElem (by rw [← HM.out]; exact hlt)⟩
        have y0 := HD.out.rest _ _ (Nat.le_refl _) hl
        have HL : Hid (l[j]? = some x) := hl
        have hj0 : (0 : Int) ≤ (j : Int) := Int.natCast_nonneg j
        have hi0 : (0 : Int) ≤ (i : Int) := Int.natCast_nonneg i
        have him : i < m := Nat.lt_trans hij hlt
        have hjw : IntKind.i64.wrap ((j : Int) + 1) = (j : Int) + 1 := by rw [IntKind.wrap_i64]; omega
        have hiw : IntKind.i64.wrap ((i : Int) + 1) = (i : Int) + 1 := by rw [IntKind.wrap_i64]; omega
        have HCl := HP.out wr x (List.mem_of_getElem? hl) (by rw [HG.out.2]; exact HD.out.grown)
        clear hl
        cases hq : p x with
        | true =>
          rw [hq] at HCl
          have HCl : Hid _ := HCl
          have HNx : Hid (∀ Y, Below wr.heap.size wr Y → DqN w g off cc l p (j + 1) Y ∧ (kpN p l (j + 1)).length = i) := fun Y hY => ⟨(HD.out.below hY HG.out.1).gone HL.out hq, by rw [kpN_no HL.out hq]; exact HI.out⟩
          clear hq
          go_wp2_with fail
          refine Calls.mono HCl.out ?_
          rintro e Y ⟨rfl, hb⟩
          obtain ⟨n1, n2⟩ := HNx.out Y hb
          have HN1 : Hid _ := n1
          have HN2 : Hid _ := n2
          clear n1 n2 hb y0
          go_wp2
          go_roundw
          case rel =>
            refine ⟨_, _, _, _, _, _, _, _, _, _, _, _, _, _, _, _, _, _, _, _, _, _, _, ?_, rfl⟩
            exact ⟨i, j + 1, rfl, by go_num, by omega, by omega, HN2, HN1⟩
          case measure => simp [intOf]; omega
        | false =>
          rw [hq] at HCl
          have HCl : Hid _ := HCl
          have HNx : Hid (∀ Y, Below wr.heap.size wr Y → DqN w g off cc l p (j + 1) (Y.setCell ⟨g, off + i, none⟩ (.int .i64 (x : Int))) ∧ (kpN p l (j + 1)).length = i + 1) := fun Y hY =>
            ⟨(HD.out.below hY HG.out.1).stays HL.out hq HI.out hij (by omega), by rw [kpN_yes HL.out hq, List.length_append, HI.out]; rfl⟩
          have HRm : Hid (∀ Y, Below wr.heap.size wr Y → (∃ a, Y.cell? ⟨g, off + i, none⟩ = some a) ∧ Y.frozen? ⟨g, off + i, none⟩ = false) := fun Y hY => by
            have k0 := (HD.out.below hY HG.out.1).room i (by omega)
            exact ⟨Option.isSome_iff_exists.1 k0.1, k0.2⟩
          clear hq
          go_wp2_with fail
          refine Calls.mono HCl.out ?_
          rintro e Y ⟨rfl, hb⟩
          obtain ⟨n1, n2⟩ := HNx.out Y hb
          have HN1 : Hid _ := n1
          have HN2 : Hid _ := n2
          obtain ⟨⟨b0, k0⟩, f0⟩ := HRm.out Y hb
          clear n1 n2 hb y0
          go_wp2
          go_roundw
          case rel =>
            refine ⟨_, _, _, _, _, _, _, _, _, _, _, _, _, _, _, _, _, _, _, _, _, _, _, ?_, rfl⟩
            exact ⟨i + 1, j + 1, by go_num, by go_num, by omega, by omega, HN2, HN1⟩
          case measure => simp [intOf]; omega
      · obtain rfl : j = m := by omega
        have hlen : (l.filter fun x => !(p x)).length = i := by rw [← kpN_all, ← HM.out]; exact HI.out
        obtain ⟨X', r1, gr1, rm1, cl1⟩ := int_clear HD.out.room i (Nat.le_of_lt hij) hcc
        have p1 := int_cutLow (some ⟨g, off, none⟩) j cc i (Nat.le_of_lt hij)
        have p2 := int_cutHigh (some ⟨g, off, none⟩) j cc i (Nat.le_trans (Nat.le_of_lt hij) hcc)
        rw [cutQ_zero, Nat.sub_zero, Nat.sub_zero] at p2
        have HO : Hid (RowC X' 1 (.slice (some ⟨g, off, none⟩) i cc) (l.filter fun x => !(p x)).length (intsL (l.filter fun x => !(p x))) ∧ w.grownBy X' (cBlk (.slice (some ⟨g, off, none⟩) j cc)) ∧ ∀ k, cBlk (.slice (some ⟨g, off, none⟩) i cc) = some k → cBlk (.slice (some ⟨g, off, none⟩) j cc) = some k) := by
          refine ⟨?_, ?_, fun q hq => ?_⟩
          · rw [hlen]
            refine ⟨by rw [intsL_len, hlen, Nat.mul_one], some ⟨g, off, none⟩, cc, rfl, by omega, by unfold maxLen; omega, .inr ⟨g, off, rfl, by rw [Nat.mul_one]; exact rm1, fun q z hq => ?_⟩⟩
            have hql := (List.getElem?_eq_some_iff.1 hq).1
            rw [intsL_len, hlen] at hql
            rw [cl1 q hql]
            unfold intsL at hq
            rw [List.getElem?_map] at hq
            cases hz : (l.filter fun x => !(p x))[q]? with
            | none => rw [hz] at hq; cases hq
            | some y =>
              rw [hz] at hq
              injection hq with hq
              rw [← hq]
              rw [← kpN_all, ← HM.out] at hz
              exact HD.out.kept q y hz
          · rw [HG.out.2]
            exact ⟨gr1.os.trans HD.out.grown.os, gr1.tape.trans HD.out.grown.tape, gr1.output.trans HD.out.grown.output, Nat.le_trans HD.out.grown.size gr1.size, fun k hk hne => (gr1.block k (Nat.lt_of_lt_of_le hk HD.out.grown.size) hne).trans (HD.out.grown.block k hk hne)⟩
          · cases cc with
            | zero => omega
            | succ c => simpa [cBlk] using hq
        obtain ⟨pq, hpq⟩ : ∃ pq, pq = cutQ (some (⟨g, off, none⟩ : Addr)) i cc 1 := ⟨_, rfl⟩
        obtain ⟨d1, hd1⟩ : ∃ d1, d1 = j - i := ⟨_, rfl⟩
        obtain ⟨d2, hd2⟩ : ∃ d2, d2 = cc - i := ⟨_, rfl⟩
        rw [← hpq, ← hd1, ← hd2] at p1 r1
        clear hlen gr1 rm1 cl1 hpq hd1 hd2 hlt hij hjm HI HD
        go_wp2
        go_ret
        exact ⟨_, rfl, HO.out.1, HO.out.2.1, HO.out.2.2⟩
end Go.Proofs.Ytepbmfjimppgcaa
