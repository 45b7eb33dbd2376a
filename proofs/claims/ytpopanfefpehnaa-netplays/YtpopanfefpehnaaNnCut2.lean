/-
  slices.DeleteFunc with Cut's closure.
-/
import Derived.Test.YtpopanfefpehnaaNnCut
namespace Go.Proofs.Ytpopanfefpehnaa
open Go.RowKit

/-- What DeleteFunc leaves. -/
def DelOut (w : World) (v : Value) (ls : List Q.Lt) (t : Int) (e : Ending) (w' : World) : Prop :=
  ∃ v', e = .returned v' ∧ RowC w' 3 v' (Q.cutL ls t).length (ltCells (Q.cutL ls t)) ∧ w.grownBy w' (cBlk v) ∧ ∀ k, cBlk v' = some k → cBlk v = some k

theorem grown_below {w X : World} (h : Below w.heap.size w X) (row : Option Nat) : w.grownBy X row := ⟨h.os, h.tape, h.output, h.size, fun i hi _ => h.block i hi⟩

theorem Dl.start {w X : World} {g off m c : Nat} {ls : List Q.Lt} {t : Int} {bt k : Nat} {l : Q.Lt} (h : RowC w 3 (.slice (some ⟨g, off, none⟩) m c) m (ltCells ls)) (hm : m = ls.length) (hk : ls[k]? = some l) (ht : l.tt = t) (hf : ∀ q l', q < k → ls[q]? = some l' → l'.tt ≠ t) (hb : Below w.heap.size w X) (hbt : w.cell? ⟨bt, 0, none⟩ = some (.int .i64 t)) : Dl w g off c ls t bt (k + 1) X := by
  have hkl := (List.getElem?_eq_some_iff.1 hk).1
  obtain ⟨hR, hC⟩ := h.there (by omega)
  have hg : g < w.heap.size := by
    obtain ⟨y, hy⟩ := Option.isSome_iff_exists.1 (hR 0 (by have := h.sizes; omega)).1
    exact World.block_lt_of_cell? _ _ hy
  have hgX : X.heap[g]? = w.heap[g]? := hb.block g hg
  refine ⟨grown_below hb _, hR.carry hgX, fun q x hq => ?_, fun q x _ hq => (World.cell?_of_block (a := ⟨g, off + q, none⟩) hgX).trans (hC q x hq), (hb.cell (World.block_lt_of_cell? _ _ hbt)).trans hbt⟩
  rw [keepT_no hk ht, keepT_id hf, ltCells_take, List.getElem?_take] at hq
  split at hq
  · exact (World.cell?_of_block (a := ⟨g, off + q, none⟩) hgX).trans (hC q x hq)
  · cases hq

theorem numW {j : Nat} (h : j ≤ 1099511627776) : IntKind.i64.wrap ((j : Int) + 1) = (j : Int) + 1 := by rw [IntKind.wrap_i64]; omega

set_option maxHeartbeats 1600000 in
theorem DeleteFunc_c {w : World} {p : Option Addr} {m c bt : Nat} {ls : List Q.Lt} {t : Int} (h : RowC w 3 (.slice p m c) m (ltCells ls)) (hm : m = ls.length) (hm2 : m ≤ 1099511627776) (ht : w.cell? ⟨bt, 0, none⟩ = some (.int .i64 t)) (hbg : cBlk (.slice p m c) ≠ some bt) :
    Calls Try.prog 70 #[.slice p m c, .func (.func 71) #[] #[.pointer (some ⟨bt, 0, none⟩)]] w (DelOut w (.slice p m c) ls t) := by
  have HIx : Hid _ := IndexFunc_c h hm hm2 ht
  have HRow : Hid (RowC w 3 (.slice p m c) m (ltCells ls)) := h
  have HM : Hid (m = ls.length) := hm
  have HT : Hid (w.cell? ⟨bt, 0, none⟩ = some (.int .i64 t)) := ht
  obtain ⟨hs1, hs2⟩ := h.sizes
  have hs3 := hs2
  unfold maxLen at hs3
  have HBg : Hid (cBlk (.slice p m c) ≠ some bt) := hbg
  clear h hm ht hbg
  go_enter Try.func70, Try.ntmps70
  go_wp2_with fail
  refine Calls.mono HIx.out ?_
  rintro e X ⟨⟨r, rfl, hF⟩, hb⟩
  rcases hF with ⟨rfl, hall⟩ | ⟨k, l, rfl, hk, hlt, hf⟩
  · have HO : Hid (DelOut w (.slice p m c) ls t (.returned (.slice p m c)) X) := by
      refine ⟨_, rfl, ?_, grown_below hb _, fun k hk => hk⟩
      rw [cutL_id hall, ← HM.out]
      exact HRow.out.carry (fun q hq => hb.block q (HRow.out.lt (by omega) hq))
    clear hall hb
    go_wp2
    go_ret
    exact HO.out
  · have hkm : k < m := by rw [HM.out]; exact (List.getElem?_eq_some_iff.1 hk).1
    obtain ⟨g, off, c', hv, _, _, _, _⟩ := HRow.out.cells (by omega)
    injection hv with e1 _ e3
    subst e1
    have HD : Hid (Dl w g off c ls t bt (k + 1) X) := Dl.start HRow.out HM.out hk hlt hf hb HT.out
    have HI : Hid ((keepT ls t (k + 1)).length = k) := by rw [keepT_no hk hlt, keepT_id hf, List.length_take]; exact Nat.min_eq_left (Nat.le_of_lt (List.getElem?_eq_some_iff.1 hk).1)
    have HG : Hid (g < w.heap.size ∧ bt ≠ g) := by
      have e : cBlk (.slice (some ⟨g, off, none⟩) m c) = some g := by rw [e3]; rfl
      exact ⟨HRow.out.lt (by omega) e, fun q => HBg.out (by rw [e, q])⟩
    have hk0 : ¬ ((k : Int) = -1) := by omega
    have hw1 : IntKind.i64.wrap ((k : Int) + 1) = (k : Int) + 1 := by rw [IntKind.wrap_i64]; omega
    clear hk hlt hf hb e3 HIx
    go_wp2
    go_loopw [5, 6] (fun iv jv wr => ∃ i j : Nat, iv = .int .i64 (i : Int) ∧ jv = .int .i64 (j : Int) ∧ i < j ∧ j ≤ m ∧ Hid ((keepT ls t j).length = i) ∧ Hid (Dl w g off c ls t bt j wr)) (fun _ jv _ => m - (intOf jv).toNat)
    case atStart => exact ⟨k, k + 1, rfl, by go_num, by omega, by omega, HI, HD⟩
    case round =>
      clear HD HI hw1 hk0 hkm
      obtain ⟨i, j, rfl, rfl, hij, hjm, HI, HD⟩ := hrel
      by_cases hlt : j < m
      · obtain ⟨l, hl⟩ : ∃ l, ls[j]? = some l := ⟨_, List.getElem?_eq_getElem (by rw [← HM.out]; exact hlt)⟩
        obtain ⟨e0, e1, e2⟩ := ltCells_at ls j l hl
        have y0 := HD.out.rest _ _ (Nat.le_refl _) e0
        have y1 := HD.out.rest _ _ (Nat.le_add_right _ _) e1
        have y2 := HD.out.rest _ _ (Nat.le_add_right _ _) e2
        rw [← Nat.add_assoc] at y1 y2
        have HL : Hid (ls[j]? = some l) := hl
        have hj0 : (0 : Int) ≤ (j : Int) := Int.natCast_nonneg j
        have hi0 : (0 : Int) ≤ (i : Int) := Int.natCast_nonneg i
        have him : i < m := Nat.lt_trans hij hlt
        have hjw : IntKind.i64.wrap ((j : Int) + 1) = (j : Int) + 1 := numW (Nat.le_trans hjm hm2)
        have hiw : IntKind.i64.wrap ((i : Int) + 1) = (i : Int) + 1 := numW (Nat.le_trans (Nat.le_of_lt him) hm2)
        obtain ⟨Z, hZ⟩ : ∃ Z, Z = wr.alloc (.cells #[.int .i64 l.fr, .int .i64 l.tt, .string l.tx] 78) := ⟨_, rfl⟩
        have hbZ : Below wr.heap.size wr Z := by rw [hZ]; exact below_alloc wr _
        obtain ⟨bl, hbl⟩ : ∃ bl, bl = wr.heap.size := ⟨_, rfl⟩
        have hcs : ∀ d, Z.cell? ⟨bl, d, none⟩ = (#[.int .i64 l.fr, .int .i64 l.tt, .string l.tx] : Array Value)[d]? := fun d => by rw [hZ, hbl]; exact World.cell?_alloc_mark wr _ _ _ d
        have hlZ : bl < Z.heap.size := by rw [hZ, hbl]; simp
        have hDZ : Dl w g off c ls t bt j Z := HD.out.below hbZ HG.out.1
        have HCl : Hid _ := cut1_c bt t l Z hDZ.bt
        have HY : Hid (∀ Y, Below Z.heap.size Z Y → Dl w g off c ls t bt j Y ∧ Y.cell? ⟨bl, 0, none⟩ = some (.int .i64 l.fr) ∧ Y.cell? ⟨bl, 1, none⟩ = some (.int .i64 l.tt) ∧ Y.cell? ⟨bl, 2, none⟩ = some (.string l.tx)) := fun Y hY =>
          ⟨hDZ.below hY HG.out.1, (hY.cell (p := ⟨bl, 0, none⟩) hlZ).trans (hcs 0), (hY.cell (p := ⟨bl, 1, none⟩) hlZ).trans (hcs 1), (hY.cell (p := ⟨bl, 2, none⟩) hlZ).trans (hcs 2)⟩
        have z0 := hcs 0
        have z1 := hcs 1
        have z2 := hcs 2
        by_cases hq : l.tt = t
        · have ed : decide (l.tt = t) = true := by simpa using hq
          rw [ed] at HCl
          have HNx : Hid (∀ Y, Below Z.heap.size Z Y → Dl w g off c ls t bt (j + 1) Y ∧ (keepT ls t (j + 1)).length = i) := fun Y hY => ⟨(HY.out Y hY).1.gone HL.out hq, by rw [keepT_no HL.out hq]; exact HI.out⟩
          obtain ⟨fr, tt, tx⟩ := l
          dsimp only at y0 y1 y2 HCl hZ z0 z1 z2
          clear hl e0 e1 e2 hbZ hcs hlZ hDZ hq ed
          go_wp2_with fail
          rw [← hZ]
          try rw [← hbl]
          refine Calls.mono HCl.out ?_
          rintro e Y ⟨rfl, hb⟩
          obtain ⟨n1, n2⟩ := HNx.out Y hb
          have HN1 : Hid _ := n1
          have HN2 : Hid _ := n2
          clear n1 n2 hb hZ hbl y0 y1 y2 z0 z1 z2
          go_wp2
          go_roundw
          case rel =>
            refine ⟨_, _, _, _, _, _, _, _, _, _, _, _, _, _, _, _, _, _, _, _, _, _, _, ?_, rfl⟩
            exact ⟨i, j + 1, rfl, by go_num, by omega, by omega, HN2, HN1⟩
          case measure => simp [intOf]; omega
        · have ed : decide (l.tt = t) = false := by simpa using hq
          rw [ed] at HCl
          have HNx : Hid (∀ Y, Below Z.heap.size Z Y → Dl w g off c ls t bt (j + 1) (((Y.setCell ⟨g, off + i * 3, none⟩ (.int .i64 l.fr)).setCell ⟨g, off + i * 3 + 1, none⟩ (.int .i64 l.tt)).setCell ⟨g, off + i * 3 + 2, none⟩ (.string l.tx)) ∧ (keepT ls t (j + 1)).length = i + 1) := fun Y hY =>
            ⟨(HY.out Y hY).1.stays HL.out hq HI.out.symm hij (Nat.lt_of_lt_of_le hlt hs1) HG.out.2, by rw [keepT_yes HL.out hq, List.length_append, HI.out]; rfl⟩
          have HRm : Hid (∀ Y, Below Z.heap.size Z Y → (∃ a, Y.cell? ⟨g, off + i * 3, none⟩ = some a) ∧ (∃ a, Y.cell? ⟨g, off + i * 3 + 1, none⟩ = some a) ∧ (∃ a, Y.cell? ⟨g, off + i * 3 + 2, none⟩ = some a) ∧ Y.frozen? ⟨g, off + i * 3, none⟩ = false ∧ Y.frozen? ⟨g, off + i * 3 + 1, none⟩ = false ∧ Y.frozen? ⟨g, off + i * 3 + 2, none⟩ = false) := fun Y hY => by
            have hR := (HY.out Y hY).1.room
            have k0 := hR (i * 3) (by omega)
            have k1 := hR (i * 3 + 1) (by omega)
            have k2 := hR (i * 3 + 2) (by omega)
            rw [← Nat.add_assoc] at k1 k2
            exact ⟨Option.isSome_iff_exists.1 k0.1, Option.isSome_iff_exists.1 k1.1, Option.isSome_iff_exists.1 k2.1, k0.2, k1.2, k2.2⟩
          obtain ⟨fr, tt, tx⟩ := l
          dsimp only at y0 y1 y2 HCl hZ z0 z1 z2 HNx HY
          clear hl e0 e1 e2 hbZ hcs hlZ hDZ hq ed
          go_wp2_with fail
          rw [← hZ]
          try rw [← hbl]
          refine Calls.mono HCl.out ?_
          rintro e Y ⟨rfl, hb⟩
          obtain ⟨n1, n2⟩ := HNx.out Y hb
          have HN1 : Hid _ := n1
          have HN2 : Hid _ := n2
          obtain ⟨⟨b0, k0⟩, ⟨b1, k1⟩, ⟨b2, k2⟩, f0, f1, f2⟩ := HRm.out Y hb
          obtain ⟨_, z0, z1, z2⟩ := HY.out Y hb
          clear n1 n2 hb hZ hbl y0 y1 y2
          go_wp2
          go_roundw
          case rel =>
            refine ⟨_, _, _, _, _, _, _, _, _, _, _, _, _, _, _, _, _, _, _, _, _, _, _, ?_, rfl⟩
            exact ⟨i + 1, j + 1, by go_num, by go_num, by omega, by omega, HN2, HN1⟩
          case measure => simp [intOf]; omega
      · obtain rfl : j = m := by omega
        have hlen : (Q.cutL ls t).length = i := by rw [← keepT_all, ← HM.out]; exact HI.out
        have hroom : c = 0 ∨ ∃ g' off', (some ⟨g, off, none⟩ : Option Addr) = some ⟨g', off', none⟩ ∧ RoomAt wr g' off' (c * 3) := .inr ⟨g, off, rfl, HD.out.room⟩
        obtain ⟨X', r1, gr1, sz1, cl1⟩ := run_clear_cut (n := j) hroom i j c (Nat.le_of_lt hij) hs1 (Nat.le_refl _)
        have p1 := run_cutLow (some ⟨g, off, none⟩) j c i (Nat.le_of_lt hij)
        have p2 := run_cutHigh (some ⟨g, off, none⟩) j c i (Nat.le_trans (Nat.le_of_lt hij) hs1)
        rw [cutP_zero, Nat.sub_zero, Nat.sub_zero] at p2
        have HO : Hid (DelOut w (.slice (some ⟨g, off, none⟩) j c) ls t (.returned (.slice (some ⟨g, off, none⟩) i c)) X') := by
          obtain ⟨q1, q2⟩ := cl1 g off rfl
          have hcb : cBlk (.slice (some ⟨g, off, none⟩) j c) = some g := by
            cases c with
            | zero => omega
            | succ c => rfl
          refine ⟨_, rfl, ?_, ?_, fun q hq => ?_⟩
          · rw [hlen]
            refine RowC.anew (by rw [ltCells_len, hlen]) (Nat.le_trans (Nat.le_of_lt hij) hs1) hs2 q1 (fun q x hq => ?_)
            have hlt := (List.getElem?_eq_some_iff.1 hq).1
            rw [ltCells_len, hlen] at hlt
            rw [q2 q (.inl hlt)]
            rw [← keepT_all, ← HM.out] at hq
            exact HD.out.kept q x hq
          · rw [hcb] at gr1 ⊢
            exact HD.out.grown.trans gr1
          · rw [hcb]
            cases c with
            | zero => simp [cBlk] at hq
            | succ c => simpa [cBlk] using hq
        obtain ⟨pp, hpp⟩ : ∃ pp, pp = cutP (some (⟨g, off, none⟩ : Addr)) i c 3 := ⟨_, rfl⟩
        obtain ⟨d1, hd1⟩ : ∃ d1, d1 = j - i := ⟨_, rfl⟩
        obtain ⟨d2, hd2⟩ : ∃ d2, d2 = c - i := ⟨_, rfl⟩
        rw [← hpp, ← hd1, ← hd2] at p1 r1
        clear hlen hroom gr1 sz1 cl1 hpp hd1 hd2 hlt hij hjm HI HD
        go_wp2
        go_ret
        exact HO.out

end Go.Proofs.Ytpopanfefpehnaa
