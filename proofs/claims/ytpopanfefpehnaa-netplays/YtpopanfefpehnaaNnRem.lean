/-
  A letter is taken out.
-/
import Derived.Test.YtpopanfefpehnaaNnSet
namespace Go.Proofs.Ytpopanfefpehnaa
open Go.RowKit

open Go.RowKit

theorem run_copy_rows {P : Program} (w : World) (dT sT ty elem : TypeId) (size b o dLen dCap : Nat) (a : Addr) (sLen sCap : Nat) (cs : List Value)
    (hu : P.underlying dT = some (.slice elem)) (hs : (P.info? elem).map (·.size) = some size) (hn : cs.length = Nat.min sLen dLen * size)
    (hsrc : ∀ j v, cs[j]? = some v → w.cell? (a.add j) = some v) (hc : ∀ j, j < cs.length → (w.cell? ⟨b, o + j, none⟩).isSome = true) (hf : ∀ j, j < cs.length → w.frozen? ⟨b, o + j, none⟩ = false) (h1 : ∀ v ∈ cs, v.oneCell' = true) :
    (Builtin.copy_ #[dT, sT] ty #[.slice (some ⟨b, o, none⟩) dLen dCap, .slice (some a) sLen sCap]).run P w = .ok (goInt (Nat.min sLen dLen)) (w.setCells b o cs) := by
  have hl := run_loadCells_list (P := P) w a cs hsrc
  have hst := run_storeCells_cells (P := P) b o cs 0 w (by simpa using hc) (by simpa using hf) h1
  rw [hn] at hl
  cases hq : P.info? elem with
  | none => simp [hq] at hs
  | some i =>
    have hi : i.size = size := by simpa [hq] using hs
    simp [Builtin.copy_, run_underlying hu, Builtin.lenOf, Builtin.firstCells, sizeOf, typeInfo, hq, hi, hl, hst]

/-- delete, whose run is known. -/
theorem stepDelete {P : Program} {w w1 : World} {ops : Array Oper} {o : Oper} {a : Act} {K : Act → World → Prop} {Q : Exit → Act → World → Prop} {E : Prop} (hgd : o.guard = none) (s x : Operand) (t tx : TypeId)
    (ho : o.op = .call { callee := .builtin .delete, args := #[s, x], argTypes := #[t, tx] }) (sv xv v : Value) (hs : a.eval s = sv) (hx : a.eval x = xv) (hr : (Builtin.delete_ #[t, tx] o.type #[sv, xv]).run P w = .ok v w1)
    (h : K (a.put o.dst v) w1) : if Region.wanted o (yielded ops a.tmps) = true then Oper.wp P o a w K Q else E := by
  have hw : Region.wanted o (yielded ops a.tmps) = true := by simp [Region.wanted, hgd]
  rw [if_pos hw]
  unfold Oper.wp
  simp [execOp, ho, resolve, invoke, builtin, hs, hx, hr, Result.andThen]
  exact h

/-- Those ahead of a letter close the gap: what is left, one place on. -/
theorem low_row {X : World} {g off m c k : Nat} {ls : List Q.Lt} (h : RowC X 3 (.slice (some ⟨g, off, none⟩) m c) m (ltCells ls)) (hm : m = ls.length) (hk : k + 1 < m) :
    ∃ X1, (∀ ty, (Builtin.copy_ #[73, 73] ty #[.slice (some ⟨g, off + 3, none⟩) (m - 1) (c - 1), .slice (some ⟨g, off, none⟩) k c]).run Try.prog X = .ok (.int .i64 (k : Int)) X1) ∧ X.grownBy X1 (some g) ∧ X1.heap.size = X.heap.size ∧
      (∃ y0 y1 y2, X1.cell? ⟨g, off, none⟩ = some y0 ∧ X1.cell? ⟨g, off + 1, none⟩ = some y1 ∧ X1.cell? ⟨g, off + 2, none⟩ = some y2) ∧ (X1.frozen? ⟨g, off, none⟩ = false ∧ X1.frozen? ⟨g, off + 1, none⟩ = false ∧ X1.frozen? ⟨g, off + 2, none⟩ = false) ∧
      ∀ a b d, RowC (((X1.setCell ⟨g, off, none⟩ a).setCell ⟨g, off + 1, none⟩ b).setCell ⟨g, off + 2, none⟩ d) 3 (.slice (some ⟨g, off + 3, none⟩) (m - 1) (c - 1)) (m - 1) (ltCells (ls.eraseIdx k)) := by
  obtain ⟨hc1, hc2⟩ : m ≤ c ∧ c ≤ maxLen := h.sizes
  obtain ⟨hR, hC⟩ := h.there (by omega)
  have hlen : (ltCells ls).length = m * 3 := by rw [ltCells_len, hm]
  have htl : ((ltCells ls).take (k * 3)).length = k * 3 := by rw [List.length_take, hlen]; omega
  obtain ⟨X1, hX1⟩ : ∃ X1, X1 = X.setCells g (off + 3) ((ltCells ls).take (k * 3)) := ⟨_, rfl⟩
  have hR1 : RoomAt X1 g off (c * 3) := by rw [hX1]; exact hR.setCells _ _ _
  have some1 : ∀ j, j < 3 → ∃ y, X1.cell? ⟨g, off + j, none⟩ = some y := fun j hj => Option.isSome_iff_exists.1 (hR1 j (by omega)).1
  refine ⟨X1, fun ty => ?_, by rw [hX1]; exact grown_setCells _ _ _ _, by rw [hX1]; exact size_setCells6 _ _ _ _, ?_, ⟨(hR1 0 (by omega)).2, (hR1 1 (by omega)).2, (hR1 2 (by omega)).2⟩, fun a b d => ?_⟩
  · have := run_copy_rows (P := Try.prog) X 73 73 ty 78 3 g (off + 3) (m - 1) (c - 1) ⟨g, off, none⟩ k c ((ltCells ls).take (k * 3)) Try.underlying73 (by kernel_rfl) (by rw [htl, show Nat.min k (m - 1) = k from Nat.min_eq_left (by omega)])
      (fun j u hj => by
        have hlt := (List.getElem?_eq_some_iff.1 hj).1
        rw [List.getElem?_take_of_lt (by omega)] at hj
        rw [Addr.add_lit]
        exact hC j u hj)
      (fun j hj => by rw [Nat.add_assoc]; exact (hR _ (by omega)).1) (fun j hj => by rw [Nat.add_assoc]; exact (hR _ (by omega)).2) (fun u hu => ltCells_one ls u (List.mem_of_mem_take hu))
    rw [show Nat.min k (m - 1) = k from Nat.min_eq_left (by omega), ← hX1] at this
    exact this
  · obtain ⟨y0, e0⟩ := some1 0 (by omega)
    obtain ⟨y1, e1⟩ := some1 1 (by omega)
    obtain ⟨y2, e2⟩ := some1 2 (by omega)
    exact ⟨y0, y1, y2, e0, e1, e2⟩
  · have hel : (ltCells (ls.eraseIdx k)).length = (m - 1) * 3 := by rw [ltCells_len, List.length_eraseIdx_of_lt (by omega), hm]
    have hfar : ∀ j, 3 ≤ j → (((X1.setCell ⟨g, off, none⟩ a).setCell ⟨g, off + 1, none⟩ b).setCell ⟨g, off + 2, none⟩ d).cell? ⟨g, off + j, none⟩ = X1.cell? ⟨g, off + j, none⟩ := fun j hj => by
      rw [World.cell?_setCell_other _ _ _ _ (fun e => by injection e with _ e; omega), World.cell?_setCell_other _ _ _ _ (fun e => by injection e with _ e; omega), World.cell?_setCell_other _ _ _ _ (fun e => by injection e with _ e; omega)]
    refine RowC.anew hel (by omega) (by omega) (fun j hj => ?_) (fun j x hx => ?_)
    · rw [Nat.add_assoc, hfar _ (by omega), World.frozen?_setCell, World.frozen?_setCell, World.frozen?_setCell]
      exact hR1 _ (by omega)
    · have hlt := (List.getElem?_eq_some_iff.1 hx).1
      rw [Nat.add_assoc, hfar _ (by omega), hX1]
      rw [ltCells_erase] at hx
      by_cases hj : j < k * 3
      · rw [List.getElem?_append_left (by omega)] at hx
        obtain ⟨hlt2, hge⟩ := List.getElem?_eq_some_iff.1 hx
        have := World.cell?_setCells_in g ((ltCells ls).take (k * 3)) (off + 3) X (fun q hq => by rw [Nat.add_assoc]; exact (hR _ (by omega)).1) j hlt2
        rw [Nat.add_assoc] at this
        rw [this, hge]
      · rw [List.getElem?_append_right (by omega), htl, List.getElem?_drop] at hx
        rw [World.cell?_setCells_out g _ _ _ ⟨g, off + (3 + j), none⟩ (fun _ _ => .inr (by show off + 3 + _ ≤ off + (3 + j); rw [htl]; omega))]
        refine hC _ x ?_
        rw [← hx]
        congr 1
        omega

/-- A net whose map has the letter at k no more, whose row has it still. -/
structure RemAt (w X : World) (B : Nat) (s : Q.St) (own : Nat → Prop) (n mb k : Nat) (v : Value) : Prop where
  kept : KeptB B own w X
  blk : X.heap[B]? = w.heap[B]?
  row : RowC X 3 v s.ls.length (ltCells s.ls)
  map : Mp X mb (n + 1) (fun a b => (Q.cnt (s.ls.eraseIdx k) a b : Int))

theorem NnV.removed {w X X' : World} {B : Nat} {s : Q.St} {own : Nat → Prop} {n : Nat} {v v' : Value} {mb em k : Nat} (h : NnV w B s own n v mb em) (hk : k < s.ls.length) (r : RemAt w X B s own n mb k v) (hg : X.grownBy X' (cBlk v))
    (hrow : RowC X' 3 v' (s.ls.length - 1) (ltCells (s.ls.eraseIdx k))) (hv : ∀ q, cBlk v' = some q → cBlk v = some q) :
    NnV (X'.setCell ⟨B, 1, none⟩ v') B { s with ls := s.ls.eraseIdx k } (sinceB own w (X'.setCell ⟨B, 1, none⟩ v')) (n + 1) v' mb em ∧ KeptB B own w (X'.setCell ⟨B, 1, none⟩ v') := by
  have hBX : B < X.heap.size := Nat.lt_of_lt_of_le h.lt r.kept.size
  have hne : cBlk v ≠ some B := fun e => (h.here B (h.mine B e)).2 rfl
  have hB : X'.heap[B]? = w.heap[B]? := (hg.block B hBX (fun e => hne e.symm)).trans r.blk
  have y1 : X'.cell? ⟨B, 1, none⟩ = some v := (World.cell?_of_block (a := ⟨B, 1, none⟩) hB).trans h.c1
  have hc : ∀ q, (X'.setCell ⟨B, 1, none⟩ v').cell? ⟨B, q, none⟩ = if q = 1 then some v' else w.cell? ⟨B, q, none⟩ := fun q => by
    rw [cell_set6 _ y1]
    split
    · rfl
    · exact World.cell?_of_block (a := ⟨B, q, none⟩) hB
  have hmb := (h.here mb h.mmine)
  have hlen := h.len
  have hfew := h.few
  have hel : (s.ls.eraseIdx k).length = s.ls.length - 1 := List.length_eraseIdx_of_lt hk
  refine h.put (s' := { s with ls := s.ls.eraseIdx k }) (n' := n + 1) ((r.kept.grown hg (fun q hq => .inr (.inl (h.mine q hq)))).setCell ⟨B, 1, none⟩ (.inl rfl) v')
    (by rw [hc, if_neg (by omega)]; exact h.c0) (by rw [hc, if_pos rfl]) (by rw [hc, if_neg (by omega)]; exact h.c2) (by rw [hc, if_neg (by omega)]; exact h.c3)
    (fun j hj => by rw [World.frozen?_setCell, World.frozen?_of_block (a := ⟨B, j, none⟩) hB]; exact h.fz j hj)
    (by
      show RowC _ 3 v' (s.ls.eraseIdx k).length (ltCells (s.ls.eraseIdx k))
      rw [hel]
      exact hrow.carry (fun q hq => Below.heap_setCell _ _ _ _ (fun e => hne (by have e' : q = B := e; rw [← e']; exact hv q hq))))
    (r.map.carry (by rw [Below.heap_setCell _ _ _ _ hmb.2]; exact hg.block mb r.map.lt (fun e => h.apart e.symm)))
    (fun q hq => .inl (h.mine q (hv q hq))) (by omega) (by show (s.ls.eraseIdx k).length ≤ n + 1; omega) (Q.erase_ok h.ok k)

theorem setW_erase {ls : List Q.Lt} {k : Nat} {l : Q.Lt} (hl : ls[k]? = some l) : setW (fun a b => (Q.cnt ls a b : Int)) l.fr l.tt ((Q.cnt ls l.fr l.tt : Int) - 1) = fun a b => (Q.cnt (ls.eraseIdx k) a b : Int) := by
  funext a b
  unfold setW
  have := Q.cnt_erase ls k l hl a b
  split
  · rename_i e
    rw [if_pos ⟨e.1.symm, e.2.symm⟩] at this
    rw [← e.1, ← e.2]
    omega
  · rename_i e
    rw [if_neg (fun q => e ⟨q.1.symm, q.2.symm⟩)] at this
    show (Q.cnt ls a b : Int) = _
    omega

theorem half_c {k m mh c : Nat} (h1 : mh = m / 2) (h2 : k < mh) (h3 : m ≤ c + 1) : ¬ c = 0 ∧ k + 1 < m := by omega
theorem half_q {m mh : Nat} (h : mh = m / 2) (hm : m ≤ 1099511627776) : wrap64 ((m : Int) / 2) = (mh : Int) := by
  rw [IntWalk.wrap64_in _ ⟨by omega, by omega⟩]
  omega
theorem half_lt {k mh : Nat} (h : k < mh) : (k : Int) < (mh : Int) := by omega
theorem half_ge {k mh : Nat} (h : ¬ k < mh) : ¬ (k : Int) < (mh : Int) := by omega

section
variable {w : World} {B : Nat} {s : Q.St} {own : Nat → Prop} {n : Nat}

set_option maxHeartbeats 1600000 in
set_option maxRecDepth 20000 in
theorem remove_c (h : Nn w B s own n) (hn : n < 1099511627776) (k : Nat) (hk : k < s.ls.length) : Calls Try.prog 68 #[.pointer (some ⟨B, 0, none⟩), .int .i64 (k : Int)] w fun e w' => e = .returned (.tuple #[]) ∧ AftQ own w w' B { s with ls := s.ls.eraseIdx k } (n + 1) := by
  obtain ⟨v, mb, em, h⟩ := h
  obtain ⟨l, hl⟩ : ∃ l, s.ls[k]? = some l := ⟨_, List.getElem?_eq_getElem hk⟩
  have hlo := h.ok.ls l (List.mem_of_getElem? hl)
  have hfr : In64 l.fr := ⟨by have := hlo.1; omega, by have := hlo.1; omega⟩
  have htt : In64 l.tt := ⟨by have := hlo.2.1; omega, by have := hlo.2.1; omega⟩
  have hse := setW_erase hl
  obtain ⟨ct, hct⟩ : ∃ ct : Int, ct = (Q.cnt s.ls l.fr l.tt : Int) := ⟨_, rfl⟩
  have hcn : (1 : Int) ≤ ct ∧ ct ≤ 1099511627776 := by
    have := Q.cnt_erase s.ls k l hl l.fr l.tt
    rw [if_pos ⟨rfl, rfl⟩] at this
    have := Q.cnt_le s.ls l.fr l.tt
    have := h.len
    omega
  rw [← hct] at hse
  obtain ⟨m, hm⟩ : ∃ m, m = s.ls.length := ⟨_, rfl⟩
  rw [← hm] at hk
  obtain ⟨g, off, c, hv, hc1, hc2, hR, hC⟩ := h.row.cells (by omega)
  rw [← hm] at hv hc1
  obtain ⟨e0, e1, e2⟩ := ltCells_at s.ls k l hl
  have y0 := hC _ _ e0
  have y1 := hC _ _ e1
  have y2 := hC _ _ e2
  rw [← Nat.add_assoc] at y1 y2
  have h1 := h.c1
  rw [hv] at h1
  have HC0 : Hid (Q.cnt (s.ls.eraseIdx k) l.fr l.tt = ct - 1) := by
    have := congrFun (congrFun hse l.fr) l.tt
    unfold setW at this
    rw [if_pos ⟨rfl, rfl⟩] at this
    exact this.symm
  have hlen := h.len
  have HRow : Hid (RowC w 3 (.slice (some ⟨g, off, none⟩) m (c + 1)) m (ltCells s.ls)) := by have := h.row; rw [hv, ← hm] at this; exact this
  have HApart : Hid (mb ≠ g ∧ mb ≠ B ∧ B ≠ g ∧ cBlk v = some g) := by
    have e : cBlk v = some g := by rw [hv]; rfl
    exact ⟨fun q => h.apart (by rw [e, q]), (h.here mb h.mmine).2, fun q => (h.here g (h.mine g e)).2 q.symm, e⟩
  have HMid : Hid (∀ u0 Y, Below w.heap.size w u0 → u0.grownBy Y (some mb) → Mp Y mb (n + 1) (fun a b => (Q.cnt (s.ls.eraseIdx k) a b : Int)) → RemAt w Y B s own n mb k v) := by
    intro u0 Y hb hg hM
    have hgl : g < w.heap.size := (h.here g (h.mine g HApart.out.2.2.2)).1
    have hb0 := hb.size
    refine ⟨(KeptB.ofBelow hb).grown hg (fun q hq => .inr (.inl (by injection hq with hq; rw [← hq]; exact h.mmine))), ?_, ?_, hM⟩
    · rw [hg.block B (Nat.lt_of_lt_of_le h.lt hb0) (fun e => HApart.out.2.1 (by injection e with e; exact e.symm)), hb.block B h.lt]
    · refine h.row.carry (fun q hq => ?_)
      have e : q = g := by rw [HApart.out.2.2.2] at hq; injection hq with hq; exact hq.symm
      rw [e, hg.block g (by omega) (fun e => HApart.out.1 (by injection e with e; exact e.symm)), hb.block g hgl]
  have HSet : Hid (∀ X', NnV X' B { s with ls := s.ls.eraseIdx k } (sinceB own w X') (n + 1) (.slice (some ⟨g, off + 3, none⟩) (m - 1) c) mb em ∧ KeptB B own w X' ∨ NnV X' B { s with ls := s.ls.eraseIdx k } (sinceB own w X') (n + 1) (.slice (some ⟨g, off, none⟩) (m - 1) (c + 1)) mb em ∧ KeptB B own w X' →
      Calls Try.prog 74 #[.pointer (some ⟨B, 0, none⟩), .int .i64 1] X' fun e w' => e = .returned (.tuple #[]) ∧ AftQ own w w' B { s with ls := s.ls.eraseIdx k } (n + 1)) := by
    intro X' hX
    obtain ⟨hN, hK⟩ : Nn X' B { s with ls := s.ls.eraseIdx k } (sinceB own w X') (n + 1) ∧ KeptB B own w X' := by
      rcases hX with q | q
      · exact ⟨⟨_, _, _, q.1⟩, q.2⟩
      · exact ⟨⟨_, _, _, q.1⟩, q.2⟩
    refine (settle_c hN (by omega) 1 (by omega)).mono ?_
    rintro e w' ⟨rfl, ha⟩
    exact ⟨rfl, ha.then hK h.lt h.here⟩
  have HNV : Hid (NnV w B s own n v mb em) := h
  have HWy : Hid (Calls Try.prog 94 #[.agg #[.int .i64 l.fr, .int .i64 l.tt, .string l.tx]] w fun e w' => e = .returned (.agg #[.int .i64 l.fr, .int .i64 l.tt]) ∧ Below w.heap.size w w') := way_c l w
  have HI : Hid (In64 l.fr ∧ In64 l.tt ∧ n < maxLen ∧ In64 (ct - 1)) := ⟨hfr, htt, by unfold maxLen; omega, by constructor <;> omega⟩
  have HSe : Hid _ := hse
  have HCt : Hid (ct = (Q.cnt s.ls l.fr l.tt : Int)) := hct
  have HM : Hid (m = s.ls.length) := hm
  have HVv : Hid (v = .slice (some ⟨g, off, none⟩) m (c + 1)) := hv
  have HKn : Hid (k < m ∧ m ≤ 1099511627776) := ⟨hk, by omega⟩
  obtain ⟨fr, tt, tx⟩ := l
  dsimp only at y0 y1 y2 HWy HI HSe HCt HC0
  have hwr : IntKind.i64.wrap (ct - 1) = ct - 1 := by rw [IntKind.wrap_i64]; omega
  have hk0 : (0 : Int) ≤ (k : Int) := by omega
  have hkm : (k : Int) < (m : Int) := by omega
  obtain ⟨mh, hmh⟩ : ∃ mh, mh = m / 2 := ⟨_, rfl⟩
  have hdq : wrap64 ((m : Int) / 2) = (mh : Int) := half_q hmh HKn.out.2
  have hB1 : ∀ Y, RemAt w Y B s own n mb k v → Y.cell? ⟨B, 1, none⟩ = some (.slice (some ⟨g, off, none⟩) m (c + 1)) ∧ Y.frozen? ⟨B, 1, none⟩ = false := fun Y hY => ⟨(World.cell?_of_block (a := ⟨B, 1, none⟩) hY.blk).trans h1, (World.frozen?_of_block (a := ⟨B, 1, none⟩) hY.blk).trans (h.fz 1 (by omega))⟩
  have HB1 : Hid _ := hB1
  have h2 := h.c2
  have HL : Hid (k + 1 < m → ∀ X, RemAt w X B s own n mb k v → ∃ X1, (∀ ty, (Builtin.copy_ #[73, 73] ty #[.slice (some ⟨g, off + 3, none⟩) (m - 1) c, .slice (some ⟨g, off, none⟩) k (c + 1)]).run Try.prog X = .ok (.int .i64 (k : Int)) X1) ∧ X1.heap[B]? = X.heap[B]? ∧
      (∃ y0 y1 y2, X1.cell? ⟨g, off, none⟩ = some y0 ∧ X1.cell? ⟨g, off + 1, none⟩ = some y1 ∧ X1.cell? ⟨g, off + 2, none⟩ = some y2) ∧ (X1.frozen? ⟨g, off, none⟩ = false ∧ X1.frozen? ⟨g, off + 1, none⟩ = false ∧ X1.frozen? ⟨g, off + 2, none⟩ = false) ∧
      ∀ a b d, NnV ((((X1.setCell ⟨g, off, none⟩ a).setCell ⟨g, off + 1, none⟩ b).setCell ⟨g, off + 2, none⟩ d).setCell ⟨B, 1, none⟩ (.slice (some ⟨g, off + 3, none⟩) (m - 1) c)) B { s with ls := s.ls.eraseIdx k } (sinceB own w ((((X1.setCell ⟨g, off, none⟩ a).setCell ⟨g, off + 1, none⟩ b).setCell ⟨g, off + 2, none⟩ d).setCell ⟨B, 1, none⟩ (.slice (some ⟨g, off + 3, none⟩) (m - 1) c))) (n + 1) (.slice (some ⟨g, off + 3, none⟩) (m - 1) c) mb em ∧ KeptB B own w ((((X1.setCell ⟨g, off, none⟩ a).setCell ⟨g, off + 1, none⟩ b).setCell ⟨g, off + 2, none⟩ d).setCell ⟨B, 1, none⟩ (.slice (some ⟨g, off + 3, none⟩) (m - 1) c))) := by
    intro hlow X hX
    have hrow := hX.row
    rw [HVv.out, ← HM.out] at hrow
    obtain ⟨X1, r1, g1, _, z1, z2, z3⟩ := low_row hrow HM.out hlow
    have hBX : B < X.heap.size := Nat.lt_of_lt_of_le HNV.out.lt hX.kept.size
    refine ⟨X1, r1, g1.block B hBX (fun e => HApart.out.2.2.1 (by injection e)), z1, z2, fun a b d => ?_⟩
    refine HNV.out.removed (by have := HM.out; have := HKn.out; omega) hX (X' := ((X1.setCell ⟨g, off, none⟩ a).setCell ⟨g, off + 1, none⟩ b).setCell ⟨g, off + 2, none⟩ d) ?_ (by rw [← HM.out]; exact z3 a b d) (fun q hq => ?_)
    · rw [HApart.out.2.2.2]
      refine ⟨g1.os, g1.tape, g1.output, by rw [size_set6, size_set6, size_set6]; exact g1.size, fun i hi hne => ?_⟩
      have hig : i ≠ g := fun e => hne (by rw [e])
      rw [Below.heap_setCell _ _ _ _ hig, Below.heap_setCell _ _ _ _ hig, Below.heap_setCell _ _ _ _ hig]
      exact g1.block i hi hne
    · rw [HApart.out.2.2.2]
      cases c with
      | zero => simp [cBlk] at hq
      | succ c => simpa [cBlk] using hq
  have HD : Hid (∀ X, RemAt w X B s own n mb k v → Calls Try.prog 96 #[.slice (some ⟨g, off, none⟩) m (c + 1), .int .i64 (k : Int), .int .i64 ((k : Int) + 1)] X fun e X1 => e = .returned (.slice (some ⟨g, off, none⟩) (m - 1) (c + 1)) ∧ X1.heap[B]? = X.heap[B]? ∧
      NnV (X1.setCell ⟨B, 1, none⟩ (.slice (some ⟨g, off, none⟩) (m - 1) (c + 1))) B { s with ls := s.ls.eraseIdx k } (sinceB own w (X1.setCell ⟨B, 1, none⟩ (.slice (some ⟨g, off, none⟩) (m - 1) (c + 1)))) (n + 1) (.slice (some ⟨g, off, none⟩) (m - 1) (c + 1)) mb em ∧ KeptB B own w (X1.setCell ⟨B, 1, none⟩ (.slice (some ⟨g, off, none⟩) (m - 1) (c + 1)))) := by
    intro X hX
    have hrow := hX.row
    rw [HVv.out, ← HM.out] at hrow
    refine (Delete_c hrow HM.out HKn.out.1 HKn.out.2).mono ?_
    rintro e X1 ⟨rfl, r1, g1, _⟩
    have hBX : B < X.heap.size := Nat.lt_of_lt_of_le HNV.out.lt hX.kept.size
    refine ⟨rfl, g1.block B hBX (fun e => HApart.out.2.2.1 (by injection e)), HNV.out.removed (by have := HM.out; have := HKn.out; omega) hX (by rw [HApart.out.2.2.2]; exact g1) (by rw [← HM.out]; exact r1) (fun q hq => ?_)⟩
    rw [HApart.out.2.2.2]
    simpa [cBlk] using hq
  have hlow1 : ∀ W : World, (Instr.slice 73 (.slice (some ⟨g, off, none⟩) m (c + 1)) (some (.int .i64 1)) none none).run Try.prog W = .ok (.slice (if c = 0 then some ⟨g, off, none⟩ else some ⟨g, off + 3, none⟩) (m - 1) c) W := fun W => by
    have := run_cutLow (some ⟨g, off, none⟩) m (c + 1) 1 (by omega) W
    rw [cutP_some] at this
    simp only [Nat.add_sub_cancel, Nat.one_mul] at this
    rw [show ((1 : Nat) : Int) = 1 from rfl] at this
    rw [this]
    by_cases hc0 : c = 0
    · subst hc0; rfl
    · rw [if_neg (by omega), if_neg hc0]
  have hhi : ∀ W : World, (Instr.slice 73 (.slice (some ⟨g, off, none⟩) m (c + 1)) none (some (.int .i64 (k : Int))) none).run Try.prog W = .ok (.slice (some ⟨g, off, none⟩) k (c + 1)) W := fun W => by
    have := run_cutHigh (some ⟨g, off, none⟩) m (c + 1) k (by omega) W
    rw [cutP_zero, Nat.sub_zero, Nat.sub_zero] at this
    exact this
  have hmm : (0 : Int) < (m : Int) := by omega
  have hkw : IntKind.i64.wrap ((k : Int) + 1) = (k : Int) + 1 := by rw [IntKind.wrap_i64]; omega
  by_cases hz : ct - 1 = 0
  · by_cases hlow : k < mh
    · have hcc : ¬ c = 0 := (half_c hmh hlow hc1).1
      rw [if_neg hcc] at hlow1
      have HLow := HL.out (half_c hmh hlow hc1).2
      have hlow' : (k : Int) < (mh : Int) := half_lt hlow
      have HMid2 : Hid (∀ X, RemAt w X B s own n mb k v → RemAt w X.drew B s own n mb k v) := fun X hX => ⟨⟨hX.kept.os, hX.kept.tape, hX.kept.output, hX.kept.size, hX.kept.block⟩, hX.blk, hX.row.carry (fun _ _ => rfl), hX.map.carry rfl⟩
      have HZ : Hid (ct - 1 = 0) := hz
      clear hmh h hl hlo hfr htt hse hct hcn hm hk hv hc1 hc2 hR hC e0 e1 e2 hlen hB1 hn HL hlow hz
      go_enter Try.func68, Try.ntmps68
      go_wp2_with fail
      refine Calls.mono HWy.out ?_
      rintro e u ⟨rfl, hbu⟩
      have h2u := (hbu.cell (World.block_lt_of_cell? _ _ h2)).trans h2
      have HBu : Hid _ := hbu
      clear hbu y0 y1 y2 h1 h2
      go_wp2
      obtain ⟨u0, hu0⟩ : ∃ u0, u0 = u.alloc (.cells #[.int .i64 fr, .int .i64 tt] 128) := ⟨_, rfl⟩
      obtain ⟨bw, hbw⟩ : ∃ bw, bw = u.heap.size := ⟨_, rfl⟩
      have HU0 : Hid (Below w.heap.size w u0) := by rw [hu0]; exact HBu.out.trans ((below_alloc u _).mono HBu.out.size)
      have c2u : u0.cell? ⟨B, 2, none⟩ = some (.map (some mb)) := by rw [hu0]; exact (Below.cell (below_alloc u _) (World.block_lt_of_cell? _ _ h2u)).trans h2u
      have cw0 : u0.cell? ⟨bw, 0, none⟩ = some (.int .i64 fr) := by rw [hu0, hbw]; exact World.cell?_alloc_mark u _ _ _ 0
      have cw1 : u0.cell? ⟨bw, 1, none⟩ = some (.int .i64 tt) := by rw [hu0, hbw]; exact World.cell?_alloc_mark u _ _ _ 1
      rw [← hu0, ← hbw]
      clear hu0 hbw h2u HBu
      have HSx : Hid (∀ Y, Keeps u0 Y → Y.cell? ⟨B, 2, none⟩ = some (.map (some mb)) ∧ Y.cell? ⟨bw, 0, none⟩ = some (.int .i64 fr) ∧ Y.cell? ⟨bw, 1, none⟩ = some (.int .i64 tt)) := fun Y hY => ⟨hY _ _ _ c2u, hY _ _ _ cw0, hY _ _ _ cw1⟩
      have HAll : Hid _ := inc_all (HNV.out.map.carry (w' := u0) (HU0.out.block mb HNV.out.map.lt)) HI.out.2.2.1 HI.out.1 HI.out.2.1 HI.out.2.2.2
      rw [← HCt.out] at HAll
      obtain ⟨kY, lY, v0, st, w1, r1, k1, l1, w3, r3, k3, g3, m3⟩ := HAll.out u0.drew (Below.refl _ _).drew
      clear HAll
      refine wp_region_held_drew (S := fun Y => Y.cell? ⟨B, 2, none⟩ = some (.map (some mb)) ∧ Y.cell? ⟨bw, 0, none⟩ = some (.int .i64 fr) ∧ Y.cell? ⟨bw, 1, none⟩ = some (.int .i64 tt)) (by kernel_rfl) (HSx.out _ kY) (fun hHeld => ?_)
      refine take7 (i := 0) (d := 13) (v := .pointer (some ⟨B, 0, none⟩)) rfl rfl (by kernel_rfl) (by kernel_rfl) (by kernel_rfl) (fun _ _ _ h => h) (Or.inl ⟨by rfl, ?_⟩) (by assumption) ?_
      · intro X hSw
        go_simp
      simp only [Act.put, List.setIfInBounds_toArray, List.set_cons_zero, List.set_cons_succ]
      refine take7 (i := 1) (d := 14) (v := .pointer (some ⟨B, 0, none⟩)) rfl rfl (by kernel_rfl) (by kernel_rfl) (by kernel_rfl) (fun _ _ _ h => h) (Or.inl ⟨by rfl, ?_⟩) (by assumption) ?_
      · intro X hSw
        go_simp
      simp only [Act.put, List.setIfInBounds_toArray, List.set_cons_zero, List.set_cons_succ]
      refine take7 (i := 2) (d := 15) (v := .pointer (some ⟨B, 2, none⟩)) rfl rfl (by kernel_rfl) (by kernel_rfl) (by kernel_rfl) (fun _ _ _ h => h) (Or.inl ⟨by rfl, ?_⟩) (by assumption) ?_
      · intro X hSw
        go_simp
      simp only [Act.put, List.setIfInBounds_toArray, List.set_cons_zero, List.set_cons_succ]
      refine take7 (i := 3) (d := 16) (v := .map (some mb)) rfl rfl (by kernel_rfl) (by kernel_rfl) (by kernel_rfl) (fun _ _ _ h => h) (Or.inl ⟨by rfl, ?_⟩) (by assumption) ?_
      · intro X hSw
        go_simp
      simp only [Act.put, List.setIfInBounds_toArray, List.set_cons_zero, List.set_cons_succ]
      refine take7 (i := 4) (d := 17) (v := .agg #[.int .i64 fr, .int .i64 tt]) rfl rfl (by kernel_rfl) (by kernel_rfl) (by kernel_rfl) (fun _ _ _ h => h) (Or.inl ⟨by rfl, ?_⟩) (by assumption) ?_
      · intro X hSw
        go_simp
      simp only [Act.put, List.setIfInBounds_toArray, List.set_cons_zero, List.set_cons_succ]
      refine wpAnyH_ready (rs := [5, 7]) (by kernel_rfl) (by simp) ?_
      refine AllReadyH.cons rfl (fun K hK => ?_) (AllReadyH.cons rfl (fun K hK => ?_) AllReadyH.nil)
      · go_simp
        refine hK.out _ _ (HSx.out _ kY) (fun hHeld => ?_)
        clear hK K
        refine take7 (i := 6) (d := 19) (v := .int .i64 (ct - 1)) rfl rfl (by kernel_rfl) (by kernel_rfl) (by kernel_rfl) (fun _ _ _ h => h) (Or.inl ⟨by rfl, ?_⟩) (by assumption) ?_
        · intro X hSw
          go_simp
        simp only [Act.put, List.setIfInBounds_toArray, List.set_cons_zero, List.set_cons_succ]
        refine wpAnyH_ready (rs := [7]) (by kernel_rfl) (by simp) ?_
        refine AllReadyH.cons rfl (fun K hK => ?_) AllReadyH.nil
        refine stepEntry 20 rfl rfl 72 (.tmp 16) (.tmp 17) rfl (by simp [Act.eval]) (by simp [Act.eval]) r1 ?_
        refine hK.out _ _ (HSx.out _ k1) (fun hHeld => ?_)
        clear hK K
        simp only [Act.put, List.setIfInBounds_toArray, List.set_cons_zero, List.set_cons_succ]
        refine take7 (i := 8) (d := 21) (v := .int .i64 st) rfl rfl (by kernel_rfl) (by kernel_rfl) (by kernel_rfl) (fun _ _ _ h => h) (Or.inl ⟨by rfl, ?_⟩) (by assumption) ?_
        · intro X hSw
          go_simp
        simp only [Act.put, List.setIfInBounds_toArray, List.set_cons_zero, List.set_cons_succ]
        refine wpAnyH_ready (rs := [9]) (by kernel_rfl) (by simp) ?_
        refine AllReadyH.cons rfl (fun K hK => ?_) AllReadyH.nil
        refine stepStore rfl rfl 72 (.tmp 16) (.tmp 21) (.tmp 19) rfl (by simp [Act.eval]) (by simp [Act.eval]) (by simp [Act.eval]) r3 ?_
        refine hK.out _ _ (HSx.out _ k3) (fun hHeld => ?_)
        clear hK K hHeld
        refine wpAnyH_done (by kernel_rfl) ?_ _
        clear hHeld
        have HMp : Hid (Mp w3 mb (n + 1) (fun a b => (Q.cnt (s.ls.eraseIdx k) a b : Int))) := by rw [← HSe.out]; exact m3
        have i2 := k3 _ _ _ c2u
        have j0 := k3 _ _ _ cw0
        have j1 := k3 _ _ _ cw1
        have HG3 : Hid _ := g3
        have HK3 : Hid _ := k3
        have hlk : (Instr.lookup 72 (.map (some mb)) (.agg #[.int .i64 fr, .int .i64 tt]) false).run Try.prog w3.drew = .ok (.int .i64 0) w3.drew := by
          have := Mp.look (w := w3.drew) (HMp.out.carry rfl) HI.out.1 HI.out.2.1
          rw [HC0.out, HZ.out] at this
          exact this
        clear kY lY r1 k1 l1 r3 k3 g3 m3
        go_wp2
        go_region
        go_wp2
        obtain ⟨X, rX, tX, mX⟩ := Mp.del (w := w3.drew.drew) (HMp.out.carry rfl) HI.out.1 HI.out.2.1 (by rw [HC0.out]; exact HZ.out) 0
        have HRem : Hid (RemAt w X B s own n mb k v) := HMid.out u0 X HU0.out (by
          have q1 := HG3.out
          have q2 := tX.grown
          exact ⟨q2.os.trans q1.os, q2.tape.trans q1.tape, q2.output.trans q1.output, Nat.le_trans q1.size q2.size, fun i hi hne => (q2.block i (Nat.lt_of_lt_of_le hi q1.size) hne).trans (q1.block i hi hne)⟩) mX
        have HSX : Hid (X.cell? ⟨B, 2, none⟩ = some (.map (some mb)) ∧ X.cell? ⟨bw, 0, none⟩ = some (.int .i64 fr) ∧ X.cell? ⟨bw, 1, none⟩ = some (.int .i64 tt)) := HSx.out X (Keeps.trans HK3.out (Keeps.grown (X := w3) HMp.out ⟨tX.grown.os, tX.grown.tape, tX.grown.output, tX.grown.size, tX.grown.block⟩))
        clear tX mX hlk
        obtain ⟨b1, bf⟩ := HB1.out X HRem.out
        go_region_held3 (fun Y => Y.cell? ⟨B, 2, none⟩ = some (.map (some mb)) ∧ Y.cell? ⟨bw, 0, none⟩ = some (.int .i64 fr) ∧ Y.cell? ⟨bw, 1, none⟩ = some (.int .i64 tt)) (first | exact ⟨i2, j0, j1⟩ | exact HSX.out) (refine stepDelete rfl (.tmp 32) (.tmp 33) 72 128 rfl _ _ _ (by simp [Act.eval]) (by simp [Act.eval]) rX ?_)
        clear rX i2 j0 j1
        obtain ⟨X1, rc, hBl, ⟨a0, a1, a2, q0, q1, q2⟩, ⟨f0, f1, f2⟩, hfin⟩ := HLow X.drew (HMid2.out X HRem.out)
        have b1x : X1.cell? ⟨B, 1, none⟩ = some (.slice (some ⟨g, off, none⟩) m (c + 1)) := (World.cell?_of_block (a := ⟨B, 1, none⟩) hBl).trans b1
        have bfx : X1.frozen? ⟨B, 1, none⟩ = false := (World.frozen?_of_block (a := ⟨B, 1, none⟩) hBl).trans bf
        have HFin : Hid _ := hfin
        have HN1 : Hid (B ≠ g) := HApart.out.2.2.1
        clear hfin hBl
        go_wp2
        go_region_held3 (fun Y => Y.cell? ⟨B, 1, none⟩ = some (.slice (some ⟨g, off, none⟩) m (c + 1))) (first | exact b1 | exact b1x) (refine stepCopy rfl (.tmp 46) (.tmp 52) 73 73 rfl (.slice (some ⟨g, off + 3, none⟩) (m - 1) c) (.slice (some ⟨g, off, none⟩) k (c + 1)) _ (by simp [Act.eval]) (by simp [Act.eval]) (rc _) ?_)
        clear rc b1 bf
        have hfarB : ∀ a b d, (((X1.setCell ⟨g, off, none⟩ a).setCell ⟨g, off + 1, none⟩ b).setCell ⟨g, off + 2, none⟩ d).cell? ⟨B, 1, none⟩ = some (.slice (some ⟨g, off, none⟩) m (c + 1)) := fun a b d => by
          rw [World.cell?_of_block (a := ⟨B, 1, none⟩) (Below.heap_setCell _ _ _ _ HN1.out), World.cell?_of_block (a := ⟨B, 1, none⟩) (Below.heap_setCell _ _ _ _ HN1.out), World.cell?_of_block (a := ⟨B, 1, none⟩) (Below.heap_setCell _ _ _ _ HN1.out)]
          exact b1x
        have hfarF : ∀ a b d, (((X1.setCell ⟨g, off, none⟩ a).setCell ⟨g, off + 1, none⟩ b).setCell ⟨g, off + 2, none⟩ d).frozen? ⟨B, 1, none⟩ = false := fun a b d => by
          rw [World.frozen?_setCell, World.frozen?_setCell, World.frozen?_setCell]
          exact bfx
        go_wp2_with fail
        refine (HSet.out _ (.inl (HFin.out _ _ _))).mono ?_
        rintro e w9 ⟨rfl, ha⟩
        have HA9 : Hid _ := ha
        clear ha
        go_wp2
        exact bodyPost_end (v := .tuple #[]) (by simp [results, Try.results68]) rfl ⟨rfl, HA9.out⟩
      · refine stepEntry 20 rfl rfl 72 (.tmp 16) (.tmp 17) rfl (by simp [Act.eval]) (by simp [Act.eval]) r1 ?_
        refine hK.out _ _ (HSx.out _ k1) (fun hHeld => ?_)
        clear hK K
        simp only [Act.put, List.setIfInBounds_toArray, List.set_cons_zero, List.set_cons_succ]
        refine take7 (i := 8) (d := 21) (v := .int .i64 st) rfl rfl (by kernel_rfl) (by kernel_rfl) (by kernel_rfl) (fun _ _ _ h => h) (Or.inl ⟨by rfl, ?_⟩) (by assumption) ?_
        · intro X hSw
          go_simp
        simp only [Act.put, List.setIfInBounds_toArray, List.set_cons_zero, List.set_cons_succ]
        refine wpAnyH_ready (rs := [5]) (by kernel_rfl) (by simp) ?_
        refine AllReadyH.cons rfl (fun K hK => ?_) AllReadyH.nil
        go_simp
        refine hK.out _ _ (HSx.out _ k1) (fun hHeld => ?_)
        clear hK K
        refine take7 (i := 6) (d := 19) (v := .int .i64 (ct - 1)) rfl rfl (by kernel_rfl) (by kernel_rfl) (by kernel_rfl) (fun _ _ _ h => h) (Or.inl ⟨by rfl, ?_⟩) (by assumption) ?_
        · intro X hSw
          go_simp
        simp only [Act.put, List.setIfInBounds_toArray, List.set_cons_zero, List.set_cons_succ]
        refine wpAnyH_ready (rs := [9]) (by kernel_rfl) (by simp) ?_
        refine AllReadyH.cons rfl (fun K hK => ?_) AllReadyH.nil
        refine stepStore rfl rfl 72 (.tmp 16) (.tmp 21) (.tmp 19) rfl (by simp [Act.eval]) (by simp [Act.eval]) (by simp [Act.eval]) r3 ?_
        refine hK.out _ _ (HSx.out _ k3) (fun hHeld => ?_)
        clear hK K hHeld
        refine wpAnyH_done (by kernel_rfl) ?_ _
        clear hHeld
        have HMp : Hid (Mp w3 mb (n + 1) (fun a b => (Q.cnt (s.ls.eraseIdx k) a b : Int))) := by rw [← HSe.out]; exact m3
        have i2 := k3 _ _ _ c2u
        have j0 := k3 _ _ _ cw0
        have j1 := k3 _ _ _ cw1
        have HG3 : Hid _ := g3
        have HK3 : Hid _ := k3
        have hlk : (Instr.lookup 72 (.map (some mb)) (.agg #[.int .i64 fr, .int .i64 tt]) false).run Try.prog w3.drew = .ok (.int .i64 0) w3.drew := by
          have := Mp.look (w := w3.drew) (HMp.out.carry rfl) HI.out.1 HI.out.2.1
          rw [HC0.out, HZ.out] at this
          exact this
        clear kY lY r1 k1 l1 r3 k3 g3 m3
        go_wp2
        go_region
        go_wp2
        obtain ⟨X, rX, tX, mX⟩ := Mp.del (w := w3.drew.drew) (HMp.out.carry rfl) HI.out.1 HI.out.2.1 (by rw [HC0.out]; exact HZ.out) 0
        have HRem : Hid (RemAt w X B s own n mb k v) := HMid.out u0 X HU0.out (by
          have q1 := HG3.out
          have q2 := tX.grown
          exact ⟨q2.os.trans q1.os, q2.tape.trans q1.tape, q2.output.trans q1.output, Nat.le_trans q1.size q2.size, fun i hi hne => (q2.block i (Nat.lt_of_lt_of_le hi q1.size) hne).trans (q1.block i hi hne)⟩) mX
        have HSX : Hid (X.cell? ⟨B, 2, none⟩ = some (.map (some mb)) ∧ X.cell? ⟨bw, 0, none⟩ = some (.int .i64 fr) ∧ X.cell? ⟨bw, 1, none⟩ = some (.int .i64 tt)) := HSx.out X (Keeps.trans HK3.out (Keeps.grown (X := w3) HMp.out ⟨tX.grown.os, tX.grown.tape, tX.grown.output, tX.grown.size, tX.grown.block⟩))
        clear tX mX hlk
        obtain ⟨b1, bf⟩ := HB1.out X HRem.out
        go_region_held3 (fun Y => Y.cell? ⟨B, 2, none⟩ = some (.map (some mb)) ∧ Y.cell? ⟨bw, 0, none⟩ = some (.int .i64 fr) ∧ Y.cell? ⟨bw, 1, none⟩ = some (.int .i64 tt)) (first | exact ⟨i2, j0, j1⟩ | exact HSX.out) (refine stepDelete rfl (.tmp 32) (.tmp 33) 72 128 rfl _ _ _ (by simp [Act.eval]) (by simp [Act.eval]) rX ?_)
        clear rX i2 j0 j1
        obtain ⟨X1, rc, hBl, ⟨a0, a1, a2, q0, q1, q2⟩, ⟨f0, f1, f2⟩, hfin⟩ := HLow X.drew (HMid2.out X HRem.out)
        have b1x : X1.cell? ⟨B, 1, none⟩ = some (.slice (some ⟨g, off, none⟩) m (c + 1)) := (World.cell?_of_block (a := ⟨B, 1, none⟩) hBl).trans b1
        have bfx : X1.frozen? ⟨B, 1, none⟩ = false := (World.frozen?_of_block (a := ⟨B, 1, none⟩) hBl).trans bf
        have HFin : Hid _ := hfin
        have HN1 : Hid (B ≠ g) := HApart.out.2.2.1
        clear hfin hBl
        go_wp2
        go_region_held3 (fun Y => Y.cell? ⟨B, 1, none⟩ = some (.slice (some ⟨g, off, none⟩) m (c + 1))) (first | exact b1 | exact b1x) (refine stepCopy rfl (.tmp 46) (.tmp 52) 73 73 rfl (.slice (some ⟨g, off + 3, none⟩) (m - 1) c) (.slice (some ⟨g, off, none⟩) k (c + 1)) _ (by simp [Act.eval]) (by simp [Act.eval]) (rc _) ?_)
        clear rc b1 bf
        have hfarB : ∀ a b d, (((X1.setCell ⟨g, off, none⟩ a).setCell ⟨g, off + 1, none⟩ b).setCell ⟨g, off + 2, none⟩ d).cell? ⟨B, 1, none⟩ = some (.slice (some ⟨g, off, none⟩) m (c + 1)) := fun a b d => by
          rw [World.cell?_of_block (a := ⟨B, 1, none⟩) (Below.heap_setCell _ _ _ _ HN1.out), World.cell?_of_block (a := ⟨B, 1, none⟩) (Below.heap_setCell _ _ _ _ HN1.out), World.cell?_of_block (a := ⟨B, 1, none⟩) (Below.heap_setCell _ _ _ _ HN1.out)]
          exact b1x
        have hfarF : ∀ a b d, (((X1.setCell ⟨g, off, none⟩ a).setCell ⟨g, off + 1, none⟩ b).setCell ⟨g, off + 2, none⟩ d).frozen? ⟨B, 1, none⟩ = false := fun a b d => by
          rw [World.frozen?_setCell, World.frozen?_setCell, World.frozen?_setCell]
          exact bfx
        go_wp2_with fail
        refine (HSet.out _ (.inl (HFin.out _ _ _))).mono ?_
        rintro e w9 ⟨rfl, ha⟩
        have HA9 : Hid _ := ha
        clear ha
        go_wp2
        exact bodyPost_end (v := .tuple #[]) (by simp [results, Try.results68]) rfl ⟨rfl, HA9.out⟩
    · have hlow' : ¬ (k : Int) < (mh : Int) := half_ge hlow
      have HMid2 : Hid (∀ X, RemAt w X B s own n mb k v → RemAt w X.drew B s own n mb k v) := fun X hX => ⟨⟨hX.kept.os, hX.kept.tape, hX.kept.output, hX.kept.size, hX.kept.block⟩, hX.blk, hX.row.carry (fun _ _ => rfl), hX.map.carry rfl⟩
      have HZ : Hid (ct - 1 = 0) := hz
      clear hmh h hl hlo hfr htt hse hct hcn hm hk hv hc1 hc2 hR hC e0 e1 e2 hlen hB1 hn HL hlow hz
      go_enter Try.func68, Try.ntmps68
      go_wp2_with fail
      refine Calls.mono HWy.out ?_
      rintro e u ⟨rfl, hbu⟩
      have h2u := (hbu.cell (World.block_lt_of_cell? _ _ h2)).trans h2
      have HBu : Hid _ := hbu
      clear hbu y0 y1 y2 h1 h2
      go_wp2
      obtain ⟨u0, hu0⟩ : ∃ u0, u0 = u.alloc (.cells #[.int .i64 fr, .int .i64 tt] 128) := ⟨_, rfl⟩
      obtain ⟨bw, hbw⟩ : ∃ bw, bw = u.heap.size := ⟨_, rfl⟩
      have HU0 : Hid (Below w.heap.size w u0) := by rw [hu0]; exact HBu.out.trans ((below_alloc u _).mono HBu.out.size)
      have c2u : u0.cell? ⟨B, 2, none⟩ = some (.map (some mb)) := by rw [hu0]; exact (Below.cell (below_alloc u _) (World.block_lt_of_cell? _ _ h2u)).trans h2u
      have cw0 : u0.cell? ⟨bw, 0, none⟩ = some (.int .i64 fr) := by rw [hu0, hbw]; exact World.cell?_alloc_mark u _ _ _ 0
      have cw1 : u0.cell? ⟨bw, 1, none⟩ = some (.int .i64 tt) := by rw [hu0, hbw]; exact World.cell?_alloc_mark u _ _ _ 1
      rw [← hu0, ← hbw]
      clear hu0 hbw h2u HBu
      have HSx : Hid (∀ Y, Keeps u0 Y → Y.cell? ⟨B, 2, none⟩ = some (.map (some mb)) ∧ Y.cell? ⟨bw, 0, none⟩ = some (.int .i64 fr) ∧ Y.cell? ⟨bw, 1, none⟩ = some (.int .i64 tt)) := fun Y hY => ⟨hY _ _ _ c2u, hY _ _ _ cw0, hY _ _ _ cw1⟩
      have HAll : Hid _ := inc_all (HNV.out.map.carry (w' := u0) (HU0.out.block mb HNV.out.map.lt)) HI.out.2.2.1 HI.out.1 HI.out.2.1 HI.out.2.2.2
      rw [← HCt.out] at HAll
      obtain ⟨kY, lY, v0, st, w1, r1, k1, l1, w3, r3, k3, g3, m3⟩ := HAll.out u0.drew (Below.refl _ _).drew
      clear HAll
      refine wp_region_held_drew (S := fun Y => Y.cell? ⟨B, 2, none⟩ = some (.map (some mb)) ∧ Y.cell? ⟨bw, 0, none⟩ = some (.int .i64 fr) ∧ Y.cell? ⟨bw, 1, none⟩ = some (.int .i64 tt)) (by kernel_rfl) (HSx.out _ kY) (fun hHeld => ?_)
      refine take7 (i := 0) (d := 13) (v := .pointer (some ⟨B, 0, none⟩)) rfl rfl (by kernel_rfl) (by kernel_rfl) (by kernel_rfl) (fun _ _ _ h => h) (Or.inl ⟨by rfl, ?_⟩) (by assumption) ?_
      · intro X hSw
        go_simp
      simp only [Act.put, List.setIfInBounds_toArray, List.set_cons_zero, List.set_cons_succ]
      refine take7 (i := 1) (d := 14) (v := .pointer (some ⟨B, 0, none⟩)) rfl rfl (by kernel_rfl) (by kernel_rfl) (by kernel_rfl) (fun _ _ _ h => h) (Or.inl ⟨by rfl, ?_⟩) (by assumption) ?_
      · intro X hSw
        go_simp
      simp only [Act.put, List.setIfInBounds_toArray, List.set_cons_zero, List.set_cons_succ]
      refine take7 (i := 2) (d := 15) (v := .pointer (some ⟨B, 2, none⟩)) rfl rfl (by kernel_rfl) (by kernel_rfl) (by kernel_rfl) (fun _ _ _ h => h) (Or.inl ⟨by rfl, ?_⟩) (by assumption) ?_
      · intro X hSw
        go_simp
      simp only [Act.put, List.setIfInBounds_toArray, List.set_cons_zero, List.set_cons_succ]
      refine take7 (i := 3) (d := 16) (v := .map (some mb)) rfl rfl (by kernel_rfl) (by kernel_rfl) (by kernel_rfl) (fun _ _ _ h => h) (Or.inl ⟨by rfl, ?_⟩) (by assumption) ?_
      · intro X hSw
        go_simp
      simp only [Act.put, List.setIfInBounds_toArray, List.set_cons_zero, List.set_cons_succ]
      refine take7 (i := 4) (d := 17) (v := .agg #[.int .i64 fr, .int .i64 tt]) rfl rfl (by kernel_rfl) (by kernel_rfl) (by kernel_rfl) (fun _ _ _ h => h) (Or.inl ⟨by rfl, ?_⟩) (by assumption) ?_
      · intro X hSw
        go_simp
      simp only [Act.put, List.setIfInBounds_toArray, List.set_cons_zero, List.set_cons_succ]
      refine wpAnyH_ready (rs := [5, 7]) (by kernel_rfl) (by simp) ?_
      refine AllReadyH.cons rfl (fun K hK => ?_) (AllReadyH.cons rfl (fun K hK => ?_) AllReadyH.nil)
      · go_simp
        refine hK.out _ _ (HSx.out _ kY) (fun hHeld => ?_)
        clear hK K
        refine take7 (i := 6) (d := 19) (v := .int .i64 (ct - 1)) rfl rfl (by kernel_rfl) (by kernel_rfl) (by kernel_rfl) (fun _ _ _ h => h) (Or.inl ⟨by rfl, ?_⟩) (by assumption) ?_
        · intro X hSw
          go_simp
        simp only [Act.put, List.setIfInBounds_toArray, List.set_cons_zero, List.set_cons_succ]
        refine wpAnyH_ready (rs := [7]) (by kernel_rfl) (by simp) ?_
        refine AllReadyH.cons rfl (fun K hK => ?_) AllReadyH.nil
        refine stepEntry 20 rfl rfl 72 (.tmp 16) (.tmp 17) rfl (by simp [Act.eval]) (by simp [Act.eval]) r1 ?_
        refine hK.out _ _ (HSx.out _ k1) (fun hHeld => ?_)
        clear hK K
        simp only [Act.put, List.setIfInBounds_toArray, List.set_cons_zero, List.set_cons_succ]
        refine take7 (i := 8) (d := 21) (v := .int .i64 st) rfl rfl (by kernel_rfl) (by kernel_rfl) (by kernel_rfl) (fun _ _ _ h => h) (Or.inl ⟨by rfl, ?_⟩) (by assumption) ?_
        · intro X hSw
          go_simp
        simp only [Act.put, List.setIfInBounds_toArray, List.set_cons_zero, List.set_cons_succ]
        refine wpAnyH_ready (rs := [9]) (by kernel_rfl) (by simp) ?_
        refine AllReadyH.cons rfl (fun K hK => ?_) AllReadyH.nil
        refine stepStore rfl rfl 72 (.tmp 16) (.tmp 21) (.tmp 19) rfl (by simp [Act.eval]) (by simp [Act.eval]) (by simp [Act.eval]) r3 ?_
        refine hK.out _ _ (HSx.out _ k3) (fun hHeld => ?_)
        clear hK K hHeld
        refine wpAnyH_done (by kernel_rfl) ?_ _
        clear hHeld
        have HMp : Hid (Mp w3 mb (n + 1) (fun a b => (Q.cnt (s.ls.eraseIdx k) a b : Int))) := by rw [← HSe.out]; exact m3
        have i2 := k3 _ _ _ c2u
        have j0 := k3 _ _ _ cw0
        have j1 := k3 _ _ _ cw1
        have HG3 : Hid _ := g3
        have HK3 : Hid _ := k3
        have hlk : (Instr.lookup 72 (.map (some mb)) (.agg #[.int .i64 fr, .int .i64 tt]) false).run Try.prog w3.drew = .ok (.int .i64 0) w3.drew := by
          have := Mp.look (w := w3.drew) (HMp.out.carry rfl) HI.out.1 HI.out.2.1
          rw [HC0.out, HZ.out] at this
          exact this
        clear kY lY r1 k1 l1 r3 k3 g3 m3
        go_wp2
        go_region
        go_wp2
        obtain ⟨X, rX, tX, mX⟩ := Mp.del (w := w3.drew.drew) (HMp.out.carry rfl) HI.out.1 HI.out.2.1 (by rw [HC0.out]; exact HZ.out) 0
        have HRem : Hid (RemAt w X B s own n mb k v) := HMid.out u0 X HU0.out (by
          have q1 := HG3.out
          have q2 := tX.grown
          exact ⟨q2.os.trans q1.os, q2.tape.trans q1.tape, q2.output.trans q1.output, Nat.le_trans q1.size q2.size, fun i hi hne => (q2.block i (Nat.lt_of_lt_of_le hi q1.size) hne).trans (q1.block i hi hne)⟩) mX
        have HSX : Hid (X.cell? ⟨B, 2, none⟩ = some (.map (some mb)) ∧ X.cell? ⟨bw, 0, none⟩ = some (.int .i64 fr) ∧ X.cell? ⟨bw, 1, none⟩ = some (.int .i64 tt)) := HSx.out X (Keeps.trans HK3.out (Keeps.grown (X := w3) HMp.out ⟨tX.grown.os, tX.grown.tape, tX.grown.output, tX.grown.size, tX.grown.block⟩))
        clear tX mX hlk
        obtain ⟨b1, bf⟩ := HB1.out X HRem.out
        go_region_held3 (fun Y => Y.cell? ⟨B, 2, none⟩ = some (.map (some mb)) ∧ Y.cell? ⟨bw, 0, none⟩ = some (.int .i64 fr) ∧ Y.cell? ⟨bw, 1, none⟩ = some (.int .i64 tt)) (first | exact ⟨i2, j0, j1⟩ | exact HSX.out) (refine stepDelete rfl (.tmp 32) (.tmp 33) 72 128 rfl _ _ _ (by simp [Act.eval]) (by simp [Act.eval]) rX ?_)
        clear rX i2 j0 j1
        go_wp2_with fail
        refine (HD.out X HRem.out).mono ?_
        rintro e X1 ⟨rfl, hBl, hfin⟩
        have b1x : X1.cell? ⟨B, 1, none⟩ = some (.slice (some ⟨g, off, none⟩) m (c + 1)) := (World.cell?_of_block (a := ⟨B, 1, none⟩) hBl).trans b1
        have bfx : X1.frozen? ⟨B, 1, none⟩ = false := (World.frozen?_of_block (a := ⟨B, 1, none⟩) hBl).trans bf
        have HFin : Hid _ := hfin
        clear hfin hBl b1 bf
        go_wp2_with fail
        refine (HSet.out _ (.inr HFin.out)).mono ?_
        rintro e w9 ⟨rfl, ha⟩
        have HA9 : Hid _ := ha
        clear ha
        go_wp2
        exact bodyPost_end (v := .tuple #[]) (by simp [results, Try.results68]) rfl ⟨rfl, HA9.out⟩
      · refine stepEntry 20 rfl rfl 72 (.tmp 16) (.tmp 17) rfl (by simp [Act.eval]) (by simp [Act.eval]) r1 ?_
        refine hK.out _ _ (HSx.out _ k1) (fun hHeld => ?_)
        clear hK K
        simp only [Act.put, List.setIfInBounds_toArray, List.set_cons_zero, List.set_cons_succ]
        refine take7 (i := 8) (d := 21) (v := .int .i64 st) rfl rfl (by kernel_rfl) (by kernel_rfl) (by kernel_rfl) (fun _ _ _ h => h) (Or.inl ⟨by rfl, ?_⟩) (by assumption) ?_
        · intro X hSw
          go_simp
        simp only [Act.put, List.setIfInBounds_toArray, List.set_cons_zero, List.set_cons_succ]
        refine wpAnyH_ready (rs := [5]) (by kernel_rfl) (by simp) ?_
        refine AllReadyH.cons rfl (fun K hK => ?_) AllReadyH.nil
        go_simp
        refine hK.out _ _ (HSx.out _ k1) (fun hHeld => ?_)
        clear hK K
        refine take7 (i := 6) (d := 19) (v := .int .i64 (ct - 1)) rfl rfl (by kernel_rfl) (by kernel_rfl) (by kernel_rfl) (fun _ _ _ h => h) (Or.inl ⟨by rfl, ?_⟩) (by assumption) ?_
        · intro X hSw
          go_simp
        simp only [Act.put, List.setIfInBounds_toArray, List.set_cons_zero, List.set_cons_succ]
        refine wpAnyH_ready (rs := [9]) (by kernel_rfl) (by simp) ?_
        refine AllReadyH.cons rfl (fun K hK => ?_) AllReadyH.nil
        refine stepStore rfl rfl 72 (.tmp 16) (.tmp 21) (.tmp 19) rfl (by simp [Act.eval]) (by simp [Act.eval]) (by simp [Act.eval]) r3 ?_
        refine hK.out _ _ (HSx.out _ k3) (fun hHeld => ?_)
        clear hK K hHeld
        refine wpAnyH_done (by kernel_rfl) ?_ _
        clear hHeld
        have HMp : Hid (Mp w3 mb (n + 1) (fun a b => (Q.cnt (s.ls.eraseIdx k) a b : Int))) := by rw [← HSe.out]; exact m3
        have i2 := k3 _ _ _ c2u
        have j0 := k3 _ _ _ cw0
        have j1 := k3 _ _ _ cw1
        have HG3 : Hid _ := g3
        have HK3 : Hid _ := k3
        have hlk : (Instr.lookup 72 (.map (some mb)) (.agg #[.int .i64 fr, .int .i64 tt]) false).run Try.prog w3.drew = .ok (.int .i64 0) w3.drew := by
          have := Mp.look (w := w3.drew) (HMp.out.carry rfl) HI.out.1 HI.out.2.1
          rw [HC0.out, HZ.out] at this
          exact this
        clear kY lY r1 k1 l1 r3 k3 g3 m3
        go_wp2
        go_region
        go_wp2
        obtain ⟨X, rX, tX, mX⟩ := Mp.del (w := w3.drew.drew) (HMp.out.carry rfl) HI.out.1 HI.out.2.1 (by rw [HC0.out]; exact HZ.out) 0
        have HRem : Hid (RemAt w X B s own n mb k v) := HMid.out u0 X HU0.out (by
          have q1 := HG3.out
          have q2 := tX.grown
          exact ⟨q2.os.trans q1.os, q2.tape.trans q1.tape, q2.output.trans q1.output, Nat.le_trans q1.size q2.size, fun i hi hne => (q2.block i (Nat.lt_of_lt_of_le hi q1.size) hne).trans (q1.block i hi hne)⟩) mX
        have HSX : Hid (X.cell? ⟨B, 2, none⟩ = some (.map (some mb)) ∧ X.cell? ⟨bw, 0, none⟩ = some (.int .i64 fr) ∧ X.cell? ⟨bw, 1, none⟩ = some (.int .i64 tt)) := HSx.out X (Keeps.trans HK3.out (Keeps.grown (X := w3) HMp.out ⟨tX.grown.os, tX.grown.tape, tX.grown.output, tX.grown.size, tX.grown.block⟩))
        clear tX mX hlk
        obtain ⟨b1, bf⟩ := HB1.out X HRem.out
        go_region_held3 (fun Y => Y.cell? ⟨B, 2, none⟩ = some (.map (some mb)) ∧ Y.cell? ⟨bw, 0, none⟩ = some (.int .i64 fr) ∧ Y.cell? ⟨bw, 1, none⟩ = some (.int .i64 tt)) (first | exact ⟨i2, j0, j1⟩ | exact HSX.out) (refine stepDelete rfl (.tmp 32) (.tmp 33) 72 128 rfl _ _ _ (by simp [Act.eval]) (by simp [Act.eval]) rX ?_)
        clear rX i2 j0 j1
        go_wp2_with fail
        refine (HD.out X HRem.out).mono ?_
        rintro e X1 ⟨rfl, hBl, hfin⟩
        have b1x : X1.cell? ⟨B, 1, none⟩ = some (.slice (some ⟨g, off, none⟩) m (c + 1)) := (World.cell?_of_block (a := ⟨B, 1, none⟩) hBl).trans b1
        have bfx : X1.frozen? ⟨B, 1, none⟩ = false := (World.frozen?_of_block (a := ⟨B, 1, none⟩) hBl).trans bf
        have HFin : Hid _ := hfin
        clear hfin hBl b1 bf
        go_wp2_with fail
        refine (HSet.out _ (.inr HFin.out)).mono ?_
        rintro e w9 ⟨rfl, ha⟩
        have HA9 : Hid _ := ha
        clear ha
        go_wp2
        exact bodyPost_end (v := .tuple #[]) (by simp [results, Try.results68]) rfl ⟨rfl, HA9.out⟩
  · by_cases hlow : k < mh
    · have hcc : ¬ c = 0 := (half_c hmh hlow hc1).1
      rw [if_neg hcc] at hlow1
      have HLow := HL.out (half_c hmh hlow hc1).2
      have hlow' : (k : Int) < (mh : Int) := half_lt hlow
      have HMid2 : Hid (∀ X, RemAt w X B s own n mb k v → RemAt w X.drew B s own n mb k v) := fun X hX => ⟨⟨hX.kept.os, hX.kept.tape, hX.kept.output, hX.kept.size, hX.kept.block⟩, hX.blk, hX.row.carry (fun _ _ => rfl), hX.map.carry rfl⟩
      clear hmh h hl hlo hfr htt hse hct hcn hm hk hv hc1 hc2 hR hC e0 e1 e2 hlen hB1 hn HL hlow
      go_enter Try.func68, Try.ntmps68
      go_wp2_with fail
      refine Calls.mono HWy.out ?_
      rintro e u ⟨rfl, hbu⟩
      have h2u := (hbu.cell (World.block_lt_of_cell? _ _ h2)).trans h2
      have HBu : Hid _ := hbu
      clear hbu y0 y1 y2 h1 h2
      go_wp2
      obtain ⟨u0, hu0⟩ : ∃ u0, u0 = u.alloc (.cells #[.int .i64 fr, .int .i64 tt] 128) := ⟨_, rfl⟩
      obtain ⟨bw, hbw⟩ : ∃ bw, bw = u.heap.size := ⟨_, rfl⟩
      have HU0 : Hid (Below w.heap.size w u0) := by rw [hu0]; exact HBu.out.trans ((below_alloc u _).mono HBu.out.size)
      have c2u : u0.cell? ⟨B, 2, none⟩ = some (.map (some mb)) := by rw [hu0]; exact (Below.cell (below_alloc u _) (World.block_lt_of_cell? _ _ h2u)).trans h2u
      have cw0 : u0.cell? ⟨bw, 0, none⟩ = some (.int .i64 fr) := by rw [hu0, hbw]; exact World.cell?_alloc_mark u _ _ _ 0
      have cw1 : u0.cell? ⟨bw, 1, none⟩ = some (.int .i64 tt) := by rw [hu0, hbw]; exact World.cell?_alloc_mark u _ _ _ 1
      rw [← hu0, ← hbw]
      clear hu0 hbw h2u HBu
      have HSx : Hid (∀ Y, Keeps u0 Y → Y.cell? ⟨B, 2, none⟩ = some (.map (some mb)) ∧ Y.cell? ⟨bw, 0, none⟩ = some (.int .i64 fr) ∧ Y.cell? ⟨bw, 1, none⟩ = some (.int .i64 tt)) := fun Y hY => ⟨hY _ _ _ c2u, hY _ _ _ cw0, hY _ _ _ cw1⟩
      have HAll : Hid _ := inc_all (HNV.out.map.carry (w' := u0) (HU0.out.block mb HNV.out.map.lt)) HI.out.2.2.1 HI.out.1 HI.out.2.1 HI.out.2.2.2
      rw [← HCt.out] at HAll
      obtain ⟨kY, lY, v0, st, w1, r1, k1, l1, w3, r3, k3, g3, m3⟩ := HAll.out u0.drew (Below.refl _ _).drew
      clear HAll
      refine wp_region_held_drew (S := fun Y => Y.cell? ⟨B, 2, none⟩ = some (.map (some mb)) ∧ Y.cell? ⟨bw, 0, none⟩ = some (.int .i64 fr) ∧ Y.cell? ⟨bw, 1, none⟩ = some (.int .i64 tt)) (by kernel_rfl) (HSx.out _ kY) (fun hHeld => ?_)
      refine take7 (i := 0) (d := 13) (v := .pointer (some ⟨B, 0, none⟩)) rfl rfl (by kernel_rfl) (by kernel_rfl) (by kernel_rfl) (fun _ _ _ h => h) (Or.inl ⟨by rfl, ?_⟩) (by assumption) ?_
      · intro X hSw
        go_simp
      simp only [Act.put, List.setIfInBounds_toArray, List.set_cons_zero, List.set_cons_succ]
      refine take7 (i := 1) (d := 14) (v := .pointer (some ⟨B, 0, none⟩)) rfl rfl (by kernel_rfl) (by kernel_rfl) (by kernel_rfl) (fun _ _ _ h => h) (Or.inl ⟨by rfl, ?_⟩) (by assumption) ?_
      · intro X hSw
        go_simp
      simp only [Act.put, List.setIfInBounds_toArray, List.set_cons_zero, List.set_cons_succ]
      refine take7 (i := 2) (d := 15) (v := .pointer (some ⟨B, 2, none⟩)) rfl rfl (by kernel_rfl) (by kernel_rfl) (by kernel_rfl) (fun _ _ _ h => h) (Or.inl ⟨by rfl, ?_⟩) (by assumption) ?_
      · intro X hSw
        go_simp
      simp only [Act.put, List.setIfInBounds_toArray, List.set_cons_zero, List.set_cons_succ]
      refine take7 (i := 3) (d := 16) (v := .map (some mb)) rfl rfl (by kernel_rfl) (by kernel_rfl) (by kernel_rfl) (fun _ _ _ h => h) (Or.inl ⟨by rfl, ?_⟩) (by assumption) ?_
      · intro X hSw
        go_simp
      simp only [Act.put, List.setIfInBounds_toArray, List.set_cons_zero, List.set_cons_succ]
      refine take7 (i := 4) (d := 17) (v := .agg #[.int .i64 fr, .int .i64 tt]) rfl rfl (by kernel_rfl) (by kernel_rfl) (by kernel_rfl) (fun _ _ _ h => h) (Or.inl ⟨by rfl, ?_⟩) (by assumption) ?_
      · intro X hSw
        go_simp
      simp only [Act.put, List.setIfInBounds_toArray, List.set_cons_zero, List.set_cons_succ]
      refine wpAnyH_ready (rs := [5, 7]) (by kernel_rfl) (by simp) ?_
      refine AllReadyH.cons rfl (fun K hK => ?_) (AllReadyH.cons rfl (fun K hK => ?_) AllReadyH.nil)
      · go_simp
        refine hK.out _ _ (HSx.out _ kY) (fun hHeld => ?_)
        clear hK K
        refine take7 (i := 6) (d := 19) (v := .int .i64 (ct - 1)) rfl rfl (by kernel_rfl) (by kernel_rfl) (by kernel_rfl) (fun _ _ _ h => h) (Or.inl ⟨by rfl, ?_⟩) (by assumption) ?_
        · intro X hSw
          go_simp
        simp only [Act.put, List.setIfInBounds_toArray, List.set_cons_zero, List.set_cons_succ]
        refine wpAnyH_ready (rs := [7]) (by kernel_rfl) (by simp) ?_
        refine AllReadyH.cons rfl (fun K hK => ?_) AllReadyH.nil
        refine stepEntry 20 rfl rfl 72 (.tmp 16) (.tmp 17) rfl (by simp [Act.eval]) (by simp [Act.eval]) r1 ?_
        refine hK.out _ _ (HSx.out _ k1) (fun hHeld => ?_)
        clear hK K
        simp only [Act.put, List.setIfInBounds_toArray, List.set_cons_zero, List.set_cons_succ]
        refine take7 (i := 8) (d := 21) (v := .int .i64 st) rfl rfl (by kernel_rfl) (by kernel_rfl) (by kernel_rfl) (fun _ _ _ h => h) (Or.inl ⟨by rfl, ?_⟩) (by assumption) ?_
        · intro X hSw
          go_simp
        simp only [Act.put, List.setIfInBounds_toArray, List.set_cons_zero, List.set_cons_succ]
        refine wpAnyH_ready (rs := [9]) (by kernel_rfl) (by simp) ?_
        refine AllReadyH.cons rfl (fun K hK => ?_) AllReadyH.nil
        refine stepStore rfl rfl 72 (.tmp 16) (.tmp 21) (.tmp 19) rfl (by simp [Act.eval]) (by simp [Act.eval]) (by simp [Act.eval]) r3 ?_
        refine hK.out _ _ (HSx.out _ k3) (fun hHeld => ?_)
        clear hK K hHeld
        refine wpAnyH_done (by kernel_rfl) ?_ _
        clear hHeld
        have HMp : Hid (Mp w3 mb (n + 1) (fun a b => (Q.cnt (s.ls.eraseIdx k) a b : Int))) := by rw [← HSe.out]; exact m3
        have i2 := k3 _ _ _ c2u
        have j0 := k3 _ _ _ cw0
        have j1 := k3 _ _ _ cw1
        have HG3 : Hid _ := g3
        have HK3 : Hid _ := k3
        have hlk : (Instr.lookup 72 (.map (some mb)) (.agg #[.int .i64 fr, .int .i64 tt]) false).run Try.prog w3.drew = .ok (.int .i64 (ct - 1)) w3.drew := by
          have := Mp.look (w := w3.drew) (HMp.out.carry rfl) HI.out.1 HI.out.2.1
          rw [HC0.out] at this
          exact this
        clear kY lY r1 k1 l1 r3 k3 g3 m3
        have HRem : Hid (RemAt w w3.drew B s own n mb k v) := HMid.out u0 w3.drew HU0.out ⟨HG3.out.os, HG3.out.tape, HG3.out.output, HG3.out.size, HG3.out.block⟩ (HMp.out.carry rfl)
        have b1 : w3.cell? ⟨B, 1, none⟩ = some (.slice (some ⟨g, off, none⟩) m (c + 1)) := (HB1.out _ HRem.out).1
        have bf : w3.frozen? ⟨B, 1, none⟩ = false := (HB1.out _ HRem.out).2
        go_wp2
        go_region
        clear hlk i2 j0 j1
        obtain ⟨X1, rc, hBl, ⟨a0, a1, a2, q0, q1, q2⟩, ⟨f0, f1, f2⟩, hfin⟩ := HLow w3.drew.drew (HMid2.out w3.drew HRem.out)
        have b1x : X1.cell? ⟨B, 1, none⟩ = some (.slice (some ⟨g, off, none⟩) m (c + 1)) := (World.cell?_of_block (a := ⟨B, 1, none⟩) hBl).trans b1
        have bfx : X1.frozen? ⟨B, 1, none⟩ = false := (World.frozen?_of_block (a := ⟨B, 1, none⟩) hBl).trans bf
        have HFin : Hid _ := hfin
        have HN1 : Hid (B ≠ g) := HApart.out.2.2.1
        clear hfin hBl
        go_wp2
        go_region_held3 (fun Y => Y.cell? ⟨B, 1, none⟩ = some (.slice (some ⟨g, off, none⟩) m (c + 1))) (first | exact b1 | exact b1x) (refine stepCopy rfl (.tmp 46) (.tmp 52) 73 73 rfl (.slice (some ⟨g, off + 3, none⟩) (m - 1) c) (.slice (some ⟨g, off, none⟩) k (c + 1)) _ (by simp [Act.eval]) (by simp [Act.eval]) (rc _) ?_)
        clear rc b1 bf
        have hfarB : ∀ a b d, (((X1.setCell ⟨g, off, none⟩ a).setCell ⟨g, off + 1, none⟩ b).setCell ⟨g, off + 2, none⟩ d).cell? ⟨B, 1, none⟩ = some (.slice (some ⟨g, off, none⟩) m (c + 1)) := fun a b d => by
          rw [World.cell?_of_block (a := ⟨B, 1, none⟩) (Below.heap_setCell _ _ _ _ HN1.out), World.cell?_of_block (a := ⟨B, 1, none⟩) (Below.heap_setCell _ _ _ _ HN1.out), World.cell?_of_block (a := ⟨B, 1, none⟩) (Below.heap_setCell _ _ _ _ HN1.out)]
          exact b1x
        have hfarF : ∀ a b d, (((X1.setCell ⟨g, off, none⟩ a).setCell ⟨g, off + 1, none⟩ b).setCell ⟨g, off + 2, none⟩ d).frozen? ⟨B, 1, none⟩ = false := fun a b d => by
          rw [World.frozen?_setCell, World.frozen?_setCell, World.frozen?_setCell]
          exact bfx
        go_wp2_with fail
        refine (HSet.out _ (.inl (HFin.out _ _ _))).mono ?_
        rintro e w9 ⟨rfl, ha⟩
        have HA9 : Hid _ := ha
        clear ha
        go_wp2
        exact bodyPost_end (v := .tuple #[]) (by simp [results, Try.results68]) rfl ⟨rfl, HA9.out⟩
      · refine stepEntry 20 rfl rfl 72 (.tmp 16) (.tmp 17) rfl (by simp [Act.eval]) (by simp [Act.eval]) r1 ?_
        refine hK.out _ _ (HSx.out _ k1) (fun hHeld => ?_)
        clear hK K
        simp only [Act.put, List.setIfInBounds_toArray, List.set_cons_zero, List.set_cons_succ]
        refine take7 (i := 8) (d := 21) (v := .int .i64 st) rfl rfl (by kernel_rfl) (by kernel_rfl) (by kernel_rfl) (fun _ _ _ h => h) (Or.inl ⟨by rfl, ?_⟩) (by assumption) ?_
        · intro X hSw
          go_simp
        simp only [Act.put, List.setIfInBounds_toArray, List.set_cons_zero, List.set_cons_succ]
        refine wpAnyH_ready (rs := [5]) (by kernel_rfl) (by simp) ?_
        refine AllReadyH.cons rfl (fun K hK => ?_) AllReadyH.nil
        go_simp
        refine hK.out _ _ (HSx.out _ k1) (fun hHeld => ?_)
        clear hK K
        refine take7 (i := 6) (d := 19) (v := .int .i64 (ct - 1)) rfl rfl (by kernel_rfl) (by kernel_rfl) (by kernel_rfl) (fun _ _ _ h => h) (Or.inl ⟨by rfl, ?_⟩) (by assumption) ?_
        · intro X hSw
          go_simp
        simp only [Act.put, List.setIfInBounds_toArray, List.set_cons_zero, List.set_cons_succ]
        refine wpAnyH_ready (rs := [9]) (by kernel_rfl) (by simp) ?_
        refine AllReadyH.cons rfl (fun K hK => ?_) AllReadyH.nil
        refine stepStore rfl rfl 72 (.tmp 16) (.tmp 21) (.tmp 19) rfl (by simp [Act.eval]) (by simp [Act.eval]) (by simp [Act.eval]) r3 ?_
        refine hK.out _ _ (HSx.out _ k3) (fun hHeld => ?_)
        clear hK K hHeld
        refine wpAnyH_done (by kernel_rfl) ?_ _
        clear hHeld
        have HMp : Hid (Mp w3 mb (n + 1) (fun a b => (Q.cnt (s.ls.eraseIdx k) a b : Int))) := by rw [← HSe.out]; exact m3
        have i2 := k3 _ _ _ c2u
        have j0 := k3 _ _ _ cw0
        have j1 := k3 _ _ _ cw1
        have HG3 : Hid _ := g3
        have HK3 : Hid _ := k3
        have hlk : (Instr.lookup 72 (.map (some mb)) (.agg #[.int .i64 fr, .int .i64 tt]) false).run Try.prog w3.drew = .ok (.int .i64 (ct - 1)) w3.drew := by
          have := Mp.look (w := w3.drew) (HMp.out.carry rfl) HI.out.1 HI.out.2.1
          rw [HC0.out] at this
          exact this
        clear kY lY r1 k1 l1 r3 k3 g3 m3
        have HRem : Hid (RemAt w w3.drew B s own n mb k v) := HMid.out u0 w3.drew HU0.out ⟨HG3.out.os, HG3.out.tape, HG3.out.output, HG3.out.size, HG3.out.block⟩ (HMp.out.carry rfl)
        have b1 : w3.cell? ⟨B, 1, none⟩ = some (.slice (some ⟨g, off, none⟩) m (c + 1)) := (HB1.out _ HRem.out).1
        have bf : w3.frozen? ⟨B, 1, none⟩ = false := (HB1.out _ HRem.out).2
        go_wp2
        go_region
        clear hlk i2 j0 j1
        obtain ⟨X1, rc, hBl, ⟨a0, a1, a2, q0, q1, q2⟩, ⟨f0, f1, f2⟩, hfin⟩ := HLow w3.drew.drew (HMid2.out w3.drew HRem.out)
        have b1x : X1.cell? ⟨B, 1, none⟩ = some (.slice (some ⟨g, off, none⟩) m (c + 1)) := (World.cell?_of_block (a := ⟨B, 1, none⟩) hBl).trans b1
        have bfx : X1.frozen? ⟨B, 1, none⟩ = false := (World.frozen?_of_block (a := ⟨B, 1, none⟩) hBl).trans bf
        have HFin : Hid _ := hfin
        have HN1 : Hid (B ≠ g) := HApart.out.2.2.1
        clear hfin hBl
        go_wp2
        go_region_held3 (fun Y => Y.cell? ⟨B, 1, none⟩ = some (.slice (some ⟨g, off, none⟩) m (c + 1))) (first | exact b1 | exact b1x) (refine stepCopy rfl (.tmp 46) (.tmp 52) 73 73 rfl (.slice (some ⟨g, off + 3, none⟩) (m - 1) c) (.slice (some ⟨g, off, none⟩) k (c + 1)) _ (by simp [Act.eval]) (by simp [Act.eval]) (rc _) ?_)
        clear rc b1 bf
        have hfarB : ∀ a b d, (((X1.setCell ⟨g, off, none⟩ a).setCell ⟨g, off + 1, none⟩ b).setCell ⟨g, off + 2, none⟩ d).cell? ⟨B, 1, none⟩ = some (.slice (some ⟨g, off, none⟩) m (c + 1)) := fun a b d => by
          rw [World.cell?_of_block (a := ⟨B, 1, none⟩) (Below.heap_setCell _ _ _ _ HN1.out), World.cell?_of_block (a := ⟨B, 1, none⟩) (Below.heap_setCell _ _ _ _ HN1.out), World.cell?_of_block (a := ⟨B, 1, none⟩) (Below.heap_setCell _ _ _ _ HN1.out)]
          exact b1x
        have hfarF : ∀ a b d, (((X1.setCell ⟨g, off, none⟩ a).setCell ⟨g, off + 1, none⟩ b).setCell ⟨g, off + 2, none⟩ d).frozen? ⟨B, 1, none⟩ = false := fun a b d => by
          rw [World.frozen?_setCell, World.frozen?_setCell, World.frozen?_setCell]
          exact bfx
        go_wp2_with fail
        refine (HSet.out _ (.inl (HFin.out _ _ _))).mono ?_
        rintro e w9 ⟨rfl, ha⟩
        have HA9 : Hid _ := ha
        clear ha
        go_wp2
        exact bodyPost_end (v := .tuple #[]) (by simp [results, Try.results68]) rfl ⟨rfl, HA9.out⟩
    · have hlow' : ¬ (k : Int) < (mh : Int) := half_ge hlow
      have HMid2 : Hid (∀ X, RemAt w X B s own n mb k v → RemAt w X.drew B s own n mb k v) := fun X hX => ⟨⟨hX.kept.os, hX.kept.tape, hX.kept.output, hX.kept.size, hX.kept.block⟩, hX.blk, hX.row.carry (fun _ _ => rfl), hX.map.carry rfl⟩
      clear hmh h hl hlo hfr htt hse hct hcn hm hk hv hc1 hc2 hR hC e0 e1 e2 hlen hB1 hn HL hlow
      go_enter Try.func68, Try.ntmps68
      go_wp2_with fail
      refine Calls.mono HWy.out ?_
      rintro e u ⟨rfl, hbu⟩
      have h2u := (hbu.cell (World.block_lt_of_cell? _ _ h2)).trans h2
      have HBu : Hid _ := hbu
      clear hbu y0 y1 y2 h1 h2
      go_wp2
      obtain ⟨u0, hu0⟩ : ∃ u0, u0 = u.alloc (.cells #[.int .i64 fr, .int .i64 tt] 128) := ⟨_, rfl⟩
      obtain ⟨bw, hbw⟩ : ∃ bw, bw = u.heap.size := ⟨_, rfl⟩
      have HU0 : Hid (Below w.heap.size w u0) := by rw [hu0]; exact HBu.out.trans ((below_alloc u _).mono HBu.out.size)
      have c2u : u0.cell? ⟨B, 2, none⟩ = some (.map (some mb)) := by rw [hu0]; exact (Below.cell (below_alloc u _) (World.block_lt_of_cell? _ _ h2u)).trans h2u
      have cw0 : u0.cell? ⟨bw, 0, none⟩ = some (.int .i64 fr) := by rw [hu0, hbw]; exact World.cell?_alloc_mark u _ _ _ 0
      have cw1 : u0.cell? ⟨bw, 1, none⟩ = some (.int .i64 tt) := by rw [hu0, hbw]; exact World.cell?_alloc_mark u _ _ _ 1
      rw [← hu0, ← hbw]
      clear hu0 hbw h2u HBu
      have HSx : Hid (∀ Y, Keeps u0 Y → Y.cell? ⟨B, 2, none⟩ = some (.map (some mb)) ∧ Y.cell? ⟨bw, 0, none⟩ = some (.int .i64 fr) ∧ Y.cell? ⟨bw, 1, none⟩ = some (.int .i64 tt)) := fun Y hY => ⟨hY _ _ _ c2u, hY _ _ _ cw0, hY _ _ _ cw1⟩
      have HAll : Hid _ := inc_all (HNV.out.map.carry (w' := u0) (HU0.out.block mb HNV.out.map.lt)) HI.out.2.2.1 HI.out.1 HI.out.2.1 HI.out.2.2.2
      rw [← HCt.out] at HAll
      obtain ⟨kY, lY, v0, st, w1, r1, k1, l1, w3, r3, k3, g3, m3⟩ := HAll.out u0.drew (Below.refl _ _).drew
      clear HAll
      refine wp_region_held_drew (S := fun Y => Y.cell? ⟨B, 2, none⟩ = some (.map (some mb)) ∧ Y.cell? ⟨bw, 0, none⟩ = some (.int .i64 fr) ∧ Y.cell? ⟨bw, 1, none⟩ = some (.int .i64 tt)) (by kernel_rfl) (HSx.out _ kY) (fun hHeld => ?_)
      refine take7 (i := 0) (d := 13) (v := .pointer (some ⟨B, 0, none⟩)) rfl rfl (by kernel_rfl) (by kernel_rfl) (by kernel_rfl) (fun _ _ _ h => h) (Or.inl ⟨by rfl, ?_⟩) (by assumption) ?_
      · intro X hSw
        go_simp
      simp only [Act.put, List.setIfInBounds_toArray, List.set_cons_zero, List.set_cons_succ]
      refine take7 (i := 1) (d := 14) (v := .pointer (some ⟨B, 0, none⟩)) rfl rfl (by kernel_rfl) (by kernel_rfl) (by kernel_rfl) (fun _ _ _ h => h) (Or.inl ⟨by rfl, ?_⟩) (by assumption) ?_
      · intro X hSw
        go_simp
      simp only [Act.put, List.setIfInBounds_toArray, List.set_cons_zero, List.set_cons_succ]
      refine take7 (i := 2) (d := 15) (v := .pointer (some ⟨B, 2, none⟩)) rfl rfl (by kernel_rfl) (by kernel_rfl) (by kernel_rfl) (fun _ _ _ h => h) (Or.inl ⟨by rfl, ?_⟩) (by assumption) ?_
      · intro X hSw
        go_simp
      simp only [Act.put, List.setIfInBounds_toArray, List.set_cons_zero, List.set_cons_succ]
      refine take7 (i := 3) (d := 16) (v := .map (some mb)) rfl rfl (by kernel_rfl) (by kernel_rfl) (by kernel_rfl) (fun _ _ _ h => h) (Or.inl ⟨by rfl, ?_⟩) (by assumption) ?_
      · intro X hSw
        go_simp
      simp only [Act.put, List.setIfInBounds_toArray, List.set_cons_zero, List.set_cons_succ]
      refine take7 (i := 4) (d := 17) (v := .agg #[.int .i64 fr, .int .i64 tt]) rfl rfl (by kernel_rfl) (by kernel_rfl) (by kernel_rfl) (fun _ _ _ h => h) (Or.inl ⟨by rfl, ?_⟩) (by assumption) ?_
      · intro X hSw
        go_simp
      simp only [Act.put, List.setIfInBounds_toArray, List.set_cons_zero, List.set_cons_succ]
      refine wpAnyH_ready (rs := [5, 7]) (by kernel_rfl) (by simp) ?_
      refine AllReadyH.cons rfl (fun K hK => ?_) (AllReadyH.cons rfl (fun K hK => ?_) AllReadyH.nil)
      · go_simp
        refine hK.out _ _ (HSx.out _ kY) (fun hHeld => ?_)
        clear hK K
        refine take7 (i := 6) (d := 19) (v := .int .i64 (ct - 1)) rfl rfl (by kernel_rfl) (by kernel_rfl) (by kernel_rfl) (fun _ _ _ h => h) (Or.inl ⟨by rfl, ?_⟩) (by assumption) ?_
        · intro X hSw
          go_simp
        simp only [Act.put, List.setIfInBounds_toArray, List.set_cons_zero, List.set_cons_succ]
        refine wpAnyH_ready (rs := [7]) (by kernel_rfl) (by simp) ?_
        refine AllReadyH.cons rfl (fun K hK => ?_) AllReadyH.nil
        refine stepEntry 20 rfl rfl 72 (.tmp 16) (.tmp 17) rfl (by simp [Act.eval]) (by simp [Act.eval]) r1 ?_
        refine hK.out _ _ (HSx.out _ k1) (fun hHeld => ?_)
        clear hK K
        simp only [Act.put, List.setIfInBounds_toArray, List.set_cons_zero, List.set_cons_succ]
        refine take7 (i := 8) (d := 21) (v := .int .i64 st) rfl rfl (by kernel_rfl) (by kernel_rfl) (by kernel_rfl) (fun _ _ _ h => h) (Or.inl ⟨by rfl, ?_⟩) (by assumption) ?_
        · intro X hSw
          go_simp
        simp only [Act.put, List.setIfInBounds_toArray, List.set_cons_zero, List.set_cons_succ]
        refine wpAnyH_ready (rs := [9]) (by kernel_rfl) (by simp) ?_
        refine AllReadyH.cons rfl (fun K hK => ?_) AllReadyH.nil
        refine stepStore rfl rfl 72 (.tmp 16) (.tmp 21) (.tmp 19) rfl (by simp [Act.eval]) (by simp [Act.eval]) (by simp [Act.eval]) r3 ?_
        refine hK.out _ _ (HSx.out _ k3) (fun hHeld => ?_)
        clear hK K hHeld
        refine wpAnyH_done (by kernel_rfl) ?_ _
        clear hHeld
        have HMp : Hid (Mp w3 mb (n + 1) (fun a b => (Q.cnt (s.ls.eraseIdx k) a b : Int))) := by rw [← HSe.out]; exact m3
        have i2 := k3 _ _ _ c2u
        have j0 := k3 _ _ _ cw0
        have j1 := k3 _ _ _ cw1
        have HG3 : Hid _ := g3
        have HK3 : Hid _ := k3
        have hlk : (Instr.lookup 72 (.map (some mb)) (.agg #[.int .i64 fr, .int .i64 tt]) false).run Try.prog w3.drew = .ok (.int .i64 (ct - 1)) w3.drew := by
          have := Mp.look (w := w3.drew) (HMp.out.carry rfl) HI.out.1 HI.out.2.1
          rw [HC0.out] at this
          exact this
        clear kY lY r1 k1 l1 r3 k3 g3 m3
        have HRem : Hid (RemAt w w3.drew B s own n mb k v) := HMid.out u0 w3.drew HU0.out ⟨HG3.out.os, HG3.out.tape, HG3.out.output, HG3.out.size, HG3.out.block⟩ (HMp.out.carry rfl)
        have b1 : w3.cell? ⟨B, 1, none⟩ = some (.slice (some ⟨g, off, none⟩) m (c + 1)) := (HB1.out _ HRem.out).1
        have bf : w3.frozen? ⟨B, 1, none⟩ = false := (HB1.out _ HRem.out).2
        go_wp2
        go_region
        clear hlk i2 j0 j1
        go_wp2_with fail
        refine (HD.out w3.drew HRem.out).mono ?_
        rintro e X1 ⟨rfl, hBl, hfin⟩
        have b1x : X1.cell? ⟨B, 1, none⟩ = some (.slice (some ⟨g, off, none⟩) m (c + 1)) := (World.cell?_of_block (a := ⟨B, 1, none⟩) hBl).trans b1
        have bfx : X1.frozen? ⟨B, 1, none⟩ = false := (World.frozen?_of_block (a := ⟨B, 1, none⟩) hBl).trans bf
        have HFin : Hid _ := hfin
        clear hfin hBl b1 bf
        go_wp2_with fail
        refine (HSet.out _ (.inr HFin.out)).mono ?_
        rintro e w9 ⟨rfl, ha⟩
        have HA9 : Hid _ := ha
        clear ha
        go_wp2
        exact bodyPost_end (v := .tuple #[]) (by simp [results, Try.results68]) rfl ⟨rfl, HA9.out⟩
      · refine stepEntry 20 rfl rfl 72 (.tmp 16) (.tmp 17) rfl (by simp [Act.eval]) (by simp [Act.eval]) r1 ?_
        refine hK.out _ _ (HSx.out _ k1) (fun hHeld => ?_)
        clear hK K
        simp only [Act.put, List.setIfInBounds_toArray, List.set_cons_zero, List.set_cons_succ]
        refine take7 (i := 8) (d := 21) (v := .int .i64 st) rfl rfl (by kernel_rfl) (by kernel_rfl) (by kernel_rfl) (fun _ _ _ h => h) (Or.inl ⟨by rfl, ?_⟩) (by assumption) ?_
        · intro X hSw
          go_simp
        simp only [Act.put, List.setIfInBounds_toArray, List.set_cons_zero, List.set_cons_succ]
        refine wpAnyH_ready (rs := [5]) (by kernel_rfl) (by simp) ?_
        refine AllReadyH.cons rfl (fun K hK => ?_) AllReadyH.nil
        go_simp
        refine hK.out _ _ (HSx.out _ k1) (fun hHeld => ?_)
        clear hK K
        refine take7 (i := 6) (d := 19) (v := .int .i64 (ct - 1)) rfl rfl (by kernel_rfl) (by kernel_rfl) (by kernel_rfl) (fun _ _ _ h => h) (Or.inl ⟨by rfl, ?_⟩) (by assumption) ?_
        · intro X hSw
          go_simp
        simp only [Act.put, List.setIfInBounds_toArray, List.set_cons_zero, List.set_cons_succ]
        refine wpAnyH_ready (rs := [9]) (by kernel_rfl) (by simp) ?_
        refine AllReadyH.cons rfl (fun K hK => ?_) AllReadyH.nil
        refine stepStore rfl rfl 72 (.tmp 16) (.tmp 21) (.tmp 19) rfl (by simp [Act.eval]) (by simp [Act.eval]) (by simp [Act.eval]) r3 ?_
        refine hK.out _ _ (HSx.out _ k3) (fun hHeld => ?_)
        clear hK K hHeld
        refine wpAnyH_done (by kernel_rfl) ?_ _
        clear hHeld
        have HMp : Hid (Mp w3 mb (n + 1) (fun a b => (Q.cnt (s.ls.eraseIdx k) a b : Int))) := by rw [← HSe.out]; exact m3
        have i2 := k3 _ _ _ c2u
        have j0 := k3 _ _ _ cw0
        have j1 := k3 _ _ _ cw1
        have HG3 : Hid _ := g3
        have HK3 : Hid _ := k3
        have hlk : (Instr.lookup 72 (.map (some mb)) (.agg #[.int .i64 fr, .int .i64 tt]) false).run Try.prog w3.drew = .ok (.int .i64 (ct - 1)) w3.drew := by
          have := Mp.look (w := w3.drew) (HMp.out.carry rfl) HI.out.1 HI.out.2.1
          rw [HC0.out] at this
          exact this
        clear kY lY r1 k1 l1 r3 k3 g3 m3
        have HRem : Hid (RemAt w w3.drew B s own n mb k v) := HMid.out u0 w3.drew HU0.out ⟨HG3.out.os, HG3.out.tape, HG3.out.output, HG3.out.size, HG3.out.block⟩ (HMp.out.carry rfl)
        have b1 : w3.cell? ⟨B, 1, none⟩ = some (.slice (some ⟨g, off, none⟩) m (c + 1)) := (HB1.out _ HRem.out).1
        have bf : w3.frozen? ⟨B, 1, none⟩ = false := (HB1.out _ HRem.out).2
        go_wp2
        go_region
        clear hlk i2 j0 j1
        go_wp2_with fail
        refine (HD.out w3.drew HRem.out).mono ?_
        rintro e X1 ⟨rfl, hBl, hfin⟩
        have b1x : X1.cell? ⟨B, 1, none⟩ = some (.slice (some ⟨g, off, none⟩) m (c + 1)) := (World.cell?_of_block (a := ⟨B, 1, none⟩) hBl).trans b1
        have bfx : X1.frozen? ⟨B, 1, none⟩ = false := (World.frozen?_of_block (a := ⟨B, 1, none⟩) hBl).trans bf
        have HFin : Hid _ := hfin
        clear hfin hBl b1 bf
        go_wp2_with fail
        refine (HSet.out _ (.inr HFin.out)).mono ?_
        rintro e w9 ⟨rfl, ha⟩
        have HA9 : Hid _ := ha
        clear ha
        go_wp2
        exact bodyPost_end (v := .tuple #[]) (by simp [results, Try.results68]) rfl ⟨rfl, HA9.out⟩

end
end Go.Proofs.Ytpopanfefpehnaa
