/-
  The document's reader beside structs that are being filled.
-/
import Derived.Deep.MidRow
import Derived.Test.YtgkcchbignakcaaCmIn
namespace Go.Proofs.Ytgkcchbignakcaa
open Go.RowKit

/-- One cell's store. -/
theorem run_storeVar_cell {P : Program} (w : World) (b o : Nat) (ty : TypeId) (v u : Value) (hv : v.cells = #[v]) (h1 : v.oneCell' = true) (hu : w.cell? ⟨b, o, none⟩ = some u) (hf : w.frozen? ⟨b, o, none⟩ = false) (hi : (P.info? ty).map (·.size) = some 1) :
    (storeVar ty ⟨b, o, none⟩ v).run P w = .ok () (w.setCell ⟨b, o, none⟩ v) := by
  have := run_storeCells_cells (P := P) b o [v] 0 w (fun j hj => by
      obtain rfl : j = 0 := by simpa using hj
      simp [hu]) (fun j hj => by
      obtain rfl : j = 0 := by simpa using hj
      simpa using hf) (fun x hx => by simp at hx; rw [hx]; exact h1)
  cases hq : P.info? ty with
  | none => simp [hq] at hi
  | some i =>
    have hs : i.size = 1 := by simpa [hq] using hi
    simp only [Nat.add_zero] at this
    simp [storeVar, sizeOf, typeInfo, hq, hv, hs]
    exact this

theorem wpList_store_cell {P : Program} {ops : Array Oper} {rest : List Oper} {op : Oper} {a : Act} {w : World} {Q : Exit → Act → World → Prop} (hgd : op.guard = none) (ty : TypeId) (x y : Operand) (ho : op.op = .store ty x y)
    (b o : Nat) (v u : Value) (hx : a.eval x = .pointer (some ⟨b, o, none⟩)) (hy : a.eval y = v) (hv : v.cells = #[v]) (h1 : v.oneCell' = true) (hu : w.cell? ⟨b, o, none⟩ = some u) (hf : w.frozen? ⟨b, o, none⟩ = false) (hi : (P.info? ty).map (·.size) = some 1)
    (h : wpList P ops Q rest (a.put op.dst undef) (w.setCell ⟨b, o, none⟩ v)) : wpList P ops Q (op :: rest) a w :=
  wpList_plain hgd fun _ hK => by
    unfold Oper.wp execOp
    simp only [ho, hx, hy, Instr.storeAt, Instr.sureAddr, Sem.run_bind, Sem.run_pure, Result.andThen_ok, run_storeVar_cell w b o ty v u hv h1 hu hf hi]
    exact hK _ _ h

/-- Cells, some of them set. -/
def setL : List Value → Nat → List Value → List Value
  | cs, _, [] => cs
  | cs, o, v :: r => setL (cs.set o v) (o + 1) r
theorem setL_len : ∀ (r cs : List Value) (o : Nat), (setL cs o r).length = cs.length
  | [], _, _ => rfl
  | v :: r, cs, o => by rw [setL, setL_len r]; simp

theorem box_set {w : World} {b : Nat} {cs : List Value} {t : TypeId} (h : w.heap[b]? = some (.cells cs.toArray t (0, 0))) (k : Nat) (v : Value) : (w.setCell ⟨b, k, none⟩ v).heap[b]? = some (.cells (cs.set k v).toArray t (0, 0)) := by
  rw [heap_setCell_same _ _ _ _ _ _ h]
  simp
theorem box_sets {b : Nat} {t : TypeId} : ∀ (vs : List Value) {w : World} {cs : List Value} (o : Nat), w.heap[b]? = some (.cells cs.toArray t (0, 0)) → (w.setCells b o vs).heap[b]? = some (.cells (setL cs o vs).toArray t (0, 0))
  | [], _, _, _, h => h
  | v :: r, _, _, o, h => box_sets r (o + 1) (box_set h o v)
theorem KeptO.setCells {own : Nat → Prop} {a : World} {b : Nat} : ∀ (vs : List Value) {w : World} (o : Nat), KeptO own a w → (b < a.heap.size → own b) → KeptO own a (w.setCells b o vs)
  | [], _, _, h, _ => h
  | v :: r, _, o, h, ho => KeptO.setCells r (o + 1) (h.setCell (p := ⟨b, o, none⟩) ho v) ho

theorem box_cell {w : World} {b : Nat} {cs : List Value} {t : TypeId} (h : w.heap[b]? = some (.cells cs.toArray t (0, 0))) {k : Nat} (hk : k < cs.length) : w.cell? ⟨b, k, none⟩ = some cs[k] ∧ w.frozen? ⟨b, k, none⟩ = false := by
  refine ⟨?_, by simp [World.frozen?, h]⟩
  rw [Lib.cell_of_heap h]
  simp [hk]
theorem box_range {w : World} {b : Nat} {cs : List Value} {t : TypeId} (h : w.heap[b]? = some (.cells cs.toArray t (0, 0))) : w.rangeAt b 0 cs := fun j v hj => by
  rw [Lib.cell_of_heap h, Nat.zero_add]
  simp [hj]

/-- The reader in block B, and boxes that are each other's none. -/
structure Rx (w0 U : World) (B : Nat) (x : Option (List UInt8)) (bs : List (Nat × TypeId × List Value)) (X : World) : Prop where
  rs : Rs w0 B x X
  box : ∀ p ∈ bs, X.heap[p.1]? = some (.cells p.2.2.toArray p.2.1 (0, 0)) ∧ p.1 ≠ B ∧ U.heap.size ≤ p.1
  kept : KeptO (fun k => k = B) U X
  uw : w0.heap.size ≤ U.heap.size
  nd : (bs.map (·.1)).Nodup

theorem heap_lt {w : World} {b : Nat} {o : Obj} (h : w.heap[b]? = some o) : b < w.heap.size := by
  rcases Nat.lt_or_ge b w.heap.size with x | x
  · exact x
  · rw [Array.getElem?_eq_none x] at h; cases h
theorem Rs.lt {w0 w : World} {B : Nat} {x : Option (List UInt8)} (h : Rs w0 B x w) : B < w.heap.size := by
  obtain ⟨t, b, hh, _⟩ := h
  exact heap_lt hh
theorem Rs.keepO {w0 w w' : World} {B : Nat} {x : Option (List UInt8)} (h : Rs w0 B x w) {own : Nat → Prop} (hk : KeptO own w w') (hn : ¬ own B) (hb : Below w0.heap.size w0 w') : Rs w0 B x w' := by
  have hlt := h.lt
  obtain ⟨t, b, hh, ht, h0, _, hx⟩ := h
  exact ⟨t, b, by rw [hk.block B hlt hn]; exact hh, ht, h0, hb, hx⟩
theorem Rs.calm {w0 w w1 : World} {B : Nat} {x : Option (List UInt8)} (h : Rs w0 B x w) (hb : Below w.heap.size w w1) : Rs w0 B x w1 := by
  have hlt := h.lt
  obtain ⟨t, b, hh, ht, h0, hbb, hx⟩ := h
  exact ⟨t, b, by rw [hb.block B hlt]; exact hh, ht, h0, hbb.trans ⟨hb.os, hb.tape, hb.output, hb.size, fun j hj => hb.block j (by have := hbb.size; omega)⟩, hx⟩

theorem Rx.call {w0 U : World} {B : Nat} {x y : Option (List UInt8)} {bs : List (Nat × TypeId × List Value)} {X Y : World} (h : Rx w0 U B x bs X) (h2 : Rs w0 B y Y) (hk : KeptO (fun k => k = B) X Y) : Rx w0 U B y bs Y :=
  ⟨h2, fun p hp => ⟨by rw [hk.block p.1 (heap_lt (h.box p hp).1) (h.box p hp).2.1]; exact (h.box p hp).1, (h.box p hp).2⟩, h.kept.trans hk (fun _ _ e => e), h.uw, h.nd⟩
theorem Rx.num {w0 U : World} {B : Nat} {x : Option (List UInt8)} {bs : List (Nat × TypeId × List Value)} {X : World} (h : Rx w0 U B x bs X) :
    Calls Try.prog 40 #[.pointer (some ⟨B, 0, none⟩)] X fun e Y => e = .returned (.int .i64 (numV x)) ∧ Rx w0 U B (numX x) bs Y :=
  (in_num h.rs).mono fun _ _ ⟨a, c, k⟩ => ⟨a, h.call c k⟩
theorem Rx.most {w0 U : World} {B : Nat} {x : Option (List UInt8)} {bs : List (Nat × TypeId × List Value)} {X : World} (h : Rx w0 U B x bs X) (m : Nat) :
    Calls Try.prog 41 #[.pointer (some ⟨B, 0, none⟩), .int .i64 (m : Int)] X fun e Y => e = .returned (.int .i64 (mostV m x)) ∧ Rx w0 U B (mostX m x) bs Y :=
  (in_most h.rs m).mono fun _ _ ⟨a, c, k⟩ => ⟨a, h.call c k⟩
theorem Rx.text {w0 U : World} {B : Nat} {x : Option (List UInt8)} {bs : List (Nat × TypeId × List Value)} {X : World} (h : Rx w0 U B x bs X) :
    Calls Try.prog 43 #[.pointer (some ⟨B, 0, none⟩)] X fun e Y => e = .returned (.string (textV x)) ∧ Rx w0 U B (textX x) bs Y :=
  (in_text h.rs).mono fun _ _ ⟨a, c, k⟩ => ⟨a, h.call c k⟩
theorem Rx.mark {w0 U : World} {B : Nat} {x : Option (List UInt8)} {bs : List (Nat × TypeId × List Value)} {X : World} (h : Rx w0 U B x bs X) (m : UInt8) :
    Calls Try.prog 39 #[.pointer (some ⟨B, 0, none⟩), .int .u8 (m.toNat : Int)] X fun e Y => e = .returned (.tuple #[]) ∧ Rx w0 U B (markX m x) bs Y :=
  (in_mark h.rs m).mono fun _ _ ⟨a, c, k⟩ => ⟨a, h.call c k⟩
theorem Rx.fineF {w0 U : World} {B : Nat} {x : Option (List UInt8)} {bs : List (Nat × TypeId × List Value)} {X : World} (h : Rx w0 U B x bs X) {v : Bool} (hv : fineB x = v) :
    Calls Try.prog 44 #[.pointer (some ⟨B, 0, none⟩)] X fun e Y => e = .returned (.bool v) ∧ Y = X := by
  subst hv
  exact in_fine h.rs

/-- A new box. -/
theorem Rx.more {w0 U : World} {B : Nat} {x : Option (List UInt8)} {bs : List (Nat × TypeId × List Value)} {X : World} (h : Rx w0 U B x bs X) (t : TypeId) (cs : List Value) : Rx w0 U B x ((X.heap.size, t, cs) :: bs) (X.alloc (.cells cs.toArray t)) := by
  refine ⟨h.rs.calm (alloc_below X _), fun p hp => ?_, h.kept.trans (KeptO.of_below (alloc_below X _)) (fun _ _ e => e), h.uw, ?_⟩
  · rcases List.mem_cons.1 hp with rfl | hp
    · exact ⟨heap_alloc_new _ _, fun e => by have := h.rs.lt; simp only at e; omega, h.kept.size⟩
    · exact ⟨by rw [Below.heap_alloc _ _ _ (heap_lt (h.box p hp).1)]; exact (h.box p hp).1, (h.box p hp).2⟩
  · rw [List.map_cons, List.nodup_cons]
    refine ⟨fun hm => ?_, h.nd⟩
    obtain ⟨p, hp, e⟩ := List.mem_map.1 hm
    have := heap_lt (h.box p hp).1
    simp only at e
    omega
/-- A box that is not wanted any more. -/
theorem Rx.drop {w0 U : World} {B : Nat} {x : Option (List UInt8)} {p : Nat × TypeId × List Value} {bs : List (Nat × TypeId × List Value)} {X : World} (h : Rx w0 U B x (p :: bs) X) : Rx w0 U B x bs X :=
  ⟨h.rs, fun q hq => h.box q (List.mem_cons_of_mem _ hq), h.kept, h.uw, by have := h.nd; rw [List.map_cons, List.nodup_cons] at this; exact this.2⟩

theorem Rx.at {w0 U : World} {B : Nat} {x : Option (List UInt8)} {bs : List (Nat × TypeId × List Value)} {X : World} (h : Rx w0 U B x bs X) {i b : Nat} {t : TypeId} {cs : List Value} (hi : bs[i]? = some (b, t, cs)) : X.heap[b]? = some (.cells cs.toArray t (0, 0)) ∧ b ≠ B ∧ U.heap.size ≤ b := h.box _ (List.mem_of_getElem? hi)
theorem Rx.range {w0 U : World} {B : Nat} {x : Option (List UInt8)} {bs : List (Nat × TypeId × List Value)} {X : World} (h : Rx w0 U B x bs X) {i b : Nat} {t : TypeId} {cs : List Value} (hi : bs[i]? = some (b, t, cs)) : X.rangeAt b 0 cs := box_range (h.at hi).1
theorem Rx.cell {w0 U : World} {B : Nat} {x : Option (List UInt8)} {bs : List (Nat × TypeId × List Value)} {X : World} (h : Rx w0 U B x bs X) {i b : Nat} {t : TypeId} {cs : List Value} (hi : bs[i]? = some (b, t, cs)) {k : Nat} {v : Value} (hk : cs[k]? = some v) : X.cell? ⟨b, k, none⟩ = some v := by
  rw [Lib.cell_of_heap (h.at hi).1]
  simpa using hk

/-- Only block b is another one: what its cells are then. -/
theorem Rx.turn {w0 U : World} {B : Nat} {x : Option (List UInt8)} {bs : List (Nat × TypeId × List Value)} {X : World} (h : Rx w0 U B x bs X) {i b : Nat} {t : TypeId} {cs : List Value} (hi : bs[i]? = some (b, t, cs)) {Y : World} {ds : List Value} (hk : KeptO (fun k => k = b) X Y) (hb : Below w0.heap.size w0 Y) (hy : Y.heap[b]? = some (.cells ds.toArray t (0, 0))) : Rx w0 U B x (bs.set i (b, t, ds)) Y := by
  have hlt := (List.getElem?_eq_some_iff.1 hi).1
  refine ⟨h.rs.keepO hk (fun e => (h.at hi).2.1 e.symm) hb, fun p hp => ?_, h.kept.trans hk (fun k hk e => by have := (h.at hi).2.2; omega), h.uw, ?_⟩
  · obtain ⟨j, hj⟩ := List.getElem?_of_mem hp
    by_cases e : i = j
    · subst e
      rw [List.getElem?_set_self hlt] at hj
      simp only [Option.some.injEq] at hj
      subst hj
      exact ⟨hy, (h.at hi).2⟩
    · rw [List.getElem?_set_ne e] at hj
      have hm := List.mem_of_getElem? hj
      have hne : p.1 ≠ b := by
        intro e2
        have h1 : (bs.map (·.1))[i]? = some b := by rw [List.getElem?_map, hi]; rfl
        have h2 : (bs.map (·.1))[j]? = some b := by rw [List.getElem?_map, hj]; simp [e2]
        exact e ((List.getElem?_inj (by simpa using hlt) h.nd).1 (h1.trans h2.symm))
      exact ⟨by rw [hk.block p.1 (heap_lt (h.box p hm).1) hne]; exact (h.box p hm).1, (h.box p hm).2⟩
  · have e : (bs.set i (b, t, ds)).map (·.1) = bs.map (·.1) := by
      apply List.ext_getElem?
      intro j
      rw [List.getElem?_map, List.getElem?_map]
      by_cases e : i = j
      · subst e
        rw [List.getElem?_set_self hlt, hi]
        rfl
      · rw [List.getElem?_set_ne e]
    rw [e]
    exact h.nd

theorem Below.setCells {n : Nat} {w : World} {b : Nat} (hb : n ≤ b) : ∀ (vs : List Value) {X : World} (o : Nat), Below n w X → Below n w (X.setCells b o vs)
  | [], _, _, h => h
  | v :: r, _, o, h => Below.setCells hb r (o + 1) (h.setCell hb v)
theorem Rx.set {w0 U : World} {B : Nat} {x : Option (List UInt8)} {bs : List (Nat × TypeId × List Value)} {X : World} (h : Rx w0 U B x bs X) {i b : Nat} {t : TypeId} {cs : List Value} (hi : bs[i]? = some (b, t, cs)) (k : Nat) (v : Value) : Rx w0 U B x (bs.set i (b, t, cs.set k v)) (X.setCell ⟨b, k, none⟩ v) :=
  h.turn hi ((KeptO.refl (fun c => c = b) X).setCell (p := ⟨b, k, none⟩) (fun _ => rfl) v) (h.rs.below.setCell (Nat.le_trans h.uw (h.at hi).2.2) _) (box_set (h.at hi).1 k v)
theorem Rx.sets {w0 U : World} {B : Nat} {x : Option (List UInt8)} {bs : List (Nat × TypeId × List Value)} {X : World} (h : Rx w0 U B x bs X) {i b : Nat} {t : TypeId} {cs : List Value} (hi : bs[i]? = some (b, t, cs)) (k : Nat) (vs : List Value) : Rx w0 U B x (bs.set i (b, t, setL cs k vs)) (X.setCells b k vs) :=
  h.turn hi ((KeptO.refl (fun c => c = b) X).setCells vs k (fun _ => rfl)) (Below.setCells (Nat.le_trans h.uw (h.at hi).2.2) vs k h.rs.below) (box_sets vs k (h.at hi).1)
theorem Rx.row {w0 U : World} {B : Nat} {x : Option (List UInt8)} {bs : List (Nat × TypeId × List Value)} {X : World} (h : Rx w0 U B x bs X) {i b : Nat} {t : TypeId} {cs : List Value} (hi : bs[i]? = some (b, t, cs)) (ds : List Value) : Rx w0 U B x (bs.set i (b, t, ds)) (X.setRow b ds.toArray) :=
  h.turn hi ⟨rfl, rfl, rfl, by simp [World.setRow], fun k _ hn => setRow_other _ _ _ _ hn⟩ ⟨h.rs.below.os, h.rs.below.tape, h.rs.below.output, by have := h.rs.below.size; simpa [World.setRow] using this, fun k hk => (setRow_other _ _ _ _ (by have := (h.at hi).2.2; have := h.uw; omega)).trans (h.rs.below.block k hk)⟩ (setRow_heap _ _ _ _ _ _ (h.at hi).1)

theorem Rx.store {w0 U : World} {B : Nat} {x : Option (List UInt8)} {bs : List (Nat × TypeId × List Value)} {X : World} (h : Rx w0 U B x bs X) {i b : Nat} {t : TypeId} {cs : List Value} (hi : bs[i]? = some (b, t, cs)) {ops : Array Oper} {rest : List Oper} {op : Oper} {a : Act} {Q : Exit → Act → World → Prop} (hgd : op.guard = none) (ty : TypeId) (p y : Operand) (ho : op.op = .store ty p y)
    (o : Nat) (v : Value) (hx : a.eval p = .pointer (some ⟨b, o, none⟩)) (hy : a.eval y = v) (hv : v.cells = #[v]) (h1 : v.oneCell' = true) (hs : (Try.prog.info? ty).map (·.size) = some 1) (hk : o < cs.length)
    (hg : ∀ Y, Rx w0 U B x (bs.set i (b, t, cs.set o v)) Y → wpList Try.prog ops Q rest (a.put op.dst undef) Y) : wpList Try.prog ops Q (op :: rest) a X :=
  wpList_store_cell hgd ty p y ho b o v _ hx hy hv h1 (box_cell (h.at hi).1 hk).1 (box_cell (h.at hi).1 hk).2 hs (hg _ (h.set hi o v))

theorem Rx.stores {w0 U : World} {B : Nat} {x : Option (List UInt8)} {bs : List (Nat × TypeId × List Value)} {X : World} (h : Rx w0 U B x bs X) {i b : Nat} {t : TypeId} {cs : List Value} (hi : bs[i]? = some (b, t, cs)) {ops : Array Oper} {rest : List Oper} {op : Oper} {a : Act} {Q : Exit → Act → World → Prop} (hgd : op.guard = none) (ty : TypeId) (p y : Operand) (ho : op.op = .store ty p y)
    (o : Nat) (vs : List Value) (hx : a.eval p = .pointer (some ⟨b, o, none⟩)) (hy : a.eval y = .agg vs.toArray) (h1 : vs.all (·.oneCell') = true) (hs : (Try.prog.info? ty).map (·.size) = some vs.length) (hk : o + vs.length ≤ cs.length)
    (hg : ∀ Y, Rx w0 U B x (bs.set i (b, t, setL cs o vs)) Y → wpList Try.prog ops Q rest (a.put op.dst undef) Y) : wpList Try.prog ops Q (op :: rest) a X :=
  wpList_store_mid hgd ty p y ho b o vs.toArray hx hy (fun j hj => by
    have hj' : o + j < cs.length := by simp at hj; omega
    have := box_cell (h.at hi).1 hj'
    exact ⟨by rw [this.1]; rfl, this.2⟩) (by simpa using hs) (all_oneCell_toArray (fun v hv => List.all_eq_true.1 h1 v hv)) (hg _ (by simpa using h.sets hi o vs))

/-- A whole struct is stored. -/
theorem Rx.whole {w0 U : World} {B : Nat} {x : Option (List UInt8)} {bs : List (Nat × TypeId × List Value)} {X : World} (h : Rx w0 U B x bs X) {i b : Nat} {t : TypeId} {cs : List Value} (hi : bs[i]? = some (b, t, cs)) {ops : Array Oper} {rest : List Oper} {op : Oper} {a : Act} {Q : Exit → Act → World → Prop} (hgd : op.guard = none) (ty : TypeId) (p y : Operand) (ho : op.op = .store ty p y)
    (ds : List Value) (hx : a.eval p = .pointer (some ⟨b, 0, none⟩)) (hy : a.eval y = .agg ds.toArray) (hs : (Try.prog.info? ty).map (·.size) = some ds.length) (hl : cs.length = ds.length) (h1 : ds.all (·.oneCell') = true)
    (hg : ∀ Y, Rx w0 U B x (bs.set i (b, t, ds)) Y → wpList Try.prog ops Q rest (a.put op.dst undef) Y) : wpList Try.prog ops Q (op :: rest) a X :=
  wpList_store_row hgd ty p y ho b ds.toArray hx hy t _ (h.at hi).1 (by simpa using hs) (by simpa using hl) (all_oneCell_toArray (fun v hv => List.all_eq_true.1 h1 v hv)) (hg _ (h.row hi ds))

/-- A whole struct is loaded. -/
theorem Rx.load {w0 U : World} {B : Nat} {x : Option (List UInt8)} {bs : List (Nat × TypeId × List Value)} {X : World} (h : Rx w0 U B x bs X) {i b : Nat} {t : TypeId} {cs : List Value} (hi : bs[i]? = some (b, t, cs)) {ops : Array Oper} {rest : List Oper} {op : Oper} {a : Act} {Q : Exit → Act → World → Prop} (hgd : op.guard = none) (ty : TypeId) (p : Operand) (ho : op.op = .load ty p)
    (hx : a.eval p = .pointer (some ⟨b, 0, none⟩)) {d : TypeDesc} (hu : Try.prog.underlying ty = some d) (hd : d.isRow = true) (hs : (Try.prog.info? ty).map (·.size) = some cs.length)
    (hg : wpList Try.prog ops Q rest (a.put op.dst (.agg cs.toArray)) X) : wpList Try.prog ops Q (op :: rest) a X :=
  wpList_load_mid hgd ty p ho b 0 hx cs d (h.range hi) hu hd hs hg

/-- Made at first. -/
theorem Rx.first {w0 w : World} (hb : Below w0.heap.size w0 w) (s : ByteArray) (hs : s.size ≤ 140737488351232) (bs : List (Nat × TypeId × List Value)) (hbs : ∀ p ∈ bs, w.heap[p.1]? = some (.cells p.2.2.toArray p.2.1 (0, 0)) ∧ w0.heap.size ≤ p.1) (hn : (bs.map (·.1)).Nodup) : Rx w0 w0 w.heap.size (some s.data.toList) bs (w.alloc (.cells #[.string s, .bool false] 79)) :=
  ⟨Rs.fresh hb s hs, fun p hp => ⟨by rw [Below.heap_alloc _ _ _ (heap_lt (hbs p hp).1)]; exact (hbs p hp).1, fun e => by have := heap_lt (hbs p hp).1; omega, (hbs p hp).2⟩, (KeptO.of_below hb).trans (KeptO.of_below (own := fun k => k = w.heap.size) (alloc_below w _)) (fun _ _ e => e), Nat.le_refl _, hn⟩
theorem Rx.empty {w0 w : World} {B : Nat} {x : Option (List UInt8)} (h : Rs w0 B x w) : Rx w0 w B x [] w := ⟨h, fun p hp => by simp at hp, KeptO.refl _ _, h.below.size, List.nodup_nil⟩

end Go.Proofs.Ytgkcchbignakcaa
