/-
  The document's reader beside structs, one of which holds a list that grows.
-/
import Derived.Test.YtgkcchbignakcaaCmInOp
import Derived.Test.YtgkcchbignakcaaRlRow
namespace Go.Proofs.Ytgkcchbignakcaa
open Go.RowKit

/-- The reader, its boxes, and a row of the call's own that no box is. -/
structure Rz (w0 U : World) (B : Nat) (x : Option (List UInt8)) (bs : List (Nat × TypeId × List Value)) (lv : Value) (n : Nat) (xs : List Value) (X : World) : Prop where
  rx : Rx w0 U B x bs X
  row : RowC X 2 lv n xs
  rb : ∀ k, cBlk lv = some k → U.heap.size ≤ k ∧ k ≠ B ∧ ∀ p ∈ bs, p.1 ≠ k

theorem Rz.start {w0 U : World} {B : Nat} {x : Option (List UInt8)} {bs : List (Nat × TypeId × List Value)} {X : World} (h : Rx w0 U B x bs X) : Rz w0 U B x bs (.slice none 0 0) 0 [] X := ⟨h, RowC.nil _ _ _, fun k hk => by simp [cBlk] at hk⟩

section
variable {w0 U : World} {B : Nat} {x : Option (List UInt8)} {bs : List (Nat × TypeId × List Value)} {lv : Value} {n : Nat} {xs : List Value} {X : World}

theorem Rz.call {y : Option (List UInt8)} {Y : World} (h : Rz w0 U B x bs lv n xs X) (h2 : Rs w0 B y Y) (hk : KeptO (fun k => k = B) X Y) : Rz w0 U B y bs lv n xs Y :=
  ⟨h.rx.call h2 hk, h.row.carry (fun k e => hk.block k (h.row.lt (by decide) e) (h.rb k e).2.1), h.rb⟩
theorem Rz.num (h : Rz w0 U B x bs lv n xs X) :
    Calls Try.prog 40 #[.pointer (some ⟨B, 0, none⟩)] X fun e Y => e = .returned (.int .i64 (numV x)) ∧ Rz w0 U B (numX x) bs lv n xs Y :=
  (in_num h.rx.rs).mono fun _ _ ⟨a, c, k⟩ => ⟨a, h.call c k⟩
theorem Rz.text (h : Rz w0 U B x bs lv n xs X) :
    Calls Try.prog 43 #[.pointer (some ⟨B, 0, none⟩)] X fun e Y => e = .returned (.string (textV x)) ∧ Rz w0 U B (textX x) bs lv n xs Y :=
  (in_text h.rx.rs).mono fun _ _ ⟨a, c, k⟩ => ⟨a, h.call c k⟩
theorem Rz.fineF (h : Rz w0 U B x bs lv n xs X) {v : Bool} (hv : fineB x = v) :
    Calls Try.prog 44 #[.pointer (some ⟨B, 0, none⟩)] X fun e Y => e = .returned (.bool v) ∧ Y = X := h.rx.fineF hv

/-- A new box. -/
theorem Rz.more (h : Rz w0 U B x bs lv n xs X) (t : TypeId) (cs : List Value) : Rz w0 U B x ((X.heap.size, t, cs) :: bs) lv n xs (X.alloc (.cells cs.toArray t)) := by
  refine ⟨h.rx.more t cs, h.row.carry (fun k e => Below.heap_alloc _ _ _ (h.row.lt (by decide) e)), fun k e => ⟨(h.rb k e).1, (h.rb k e).2.1, fun p hp => ?_⟩⟩
  rcases List.mem_cons.1 hp with rfl | hp
  · have := h.row.lt (by decide) e
    show X.heap.size ≠ k
    omega
  · exact (h.rb k e).2.2 p hp
theorem Rz.drop {p : Nat × TypeId × List Value} (h : Rz w0 U B x (p :: bs) lv n xs X) : Rz w0 U B x bs lv n xs X :=
  ⟨h.rx.drop, h.row, fun k e => ⟨(h.rb k e).1, (h.rb k e).2.1, fun q hq => (h.rb k e).2.2 q (List.mem_cons_of_mem _ hq)⟩⟩

theorem Rz.turn (h : Rz w0 U B x bs lv n xs X) {i b : Nat} {t : TypeId} {cs ds : List Value} (hi : bs[i]? = some (b, t, cs)) {Y : World} (hr : Rx w0 U B x (bs.set i (b, t, ds)) Y) (hk : KeptO (fun k => k = b) X Y) : Rz w0 U B x (bs.set i (b, t, ds)) lv n xs Y := by
  refine ⟨hr, h.row.carry (fun k e => hk.block k (h.row.lt (by decide) e) (fun e2 => (h.rb k e).2.2 _ (List.mem_of_getElem? hi) e2.symm)), fun k e => ⟨(h.rb k e).1, (h.rb k e).2.1, fun p hp => ?_⟩⟩
  rcases List.mem_or_eq_of_mem_set hp with hp | rfl
  · exact (h.rb k e).2.2 p hp
  · exact (h.rb k e).2.2 (b, t, cs) (List.mem_of_getElem? hi)

theorem Rz.store (h : Rz w0 U B x bs lv n xs X) {i b : Nat} {t : TypeId} {cs : List Value} (hi : bs[i]? = some (b, t, cs)) {ops : Array Oper} {rest : List Oper} {op : Oper} {a : Act} {Q : Exit → Act → World → Prop} (hgd : op.guard = none) (ty : TypeId) (p y : Operand) (ho : op.op = .store ty p y)
    (o : Nat) (v : Value) (hx : a.eval p = .pointer (some ⟨b, o, none⟩)) (hy : a.eval y = v) (hv : v.cells = #[v]) (h1 : v.oneCell' = true) (hs : (Try.prog.info? ty).map (·.size) = some 1) (hk : o < cs.length)
    (hg : ∀ Y, Rz w0 U B x (bs.set i (b, t, cs.set o v)) lv n xs Y → wpList Try.prog ops Q rest (a.put op.dst undef) Y) : wpList Try.prog ops Q (op :: rest) a X :=
  wpList_store_cell hgd ty p y ho b o v _ hx hy hv h1 (box_cell (h.rx.at hi).1 hk).1 (box_cell (h.rx.at hi).1 hk).2 hs (hg _ (h.turn hi (h.rx.set hi o v) ((KeptO.refl (fun c => c = b) X).setCell (p := ⟨b, o, none⟩) (fun _ => rfl) v)))

theorem Rz.whole (h : Rz w0 U B x bs lv n xs X) {i b : Nat} {t : TypeId} {cs : List Value} (hi : bs[i]? = some (b, t, cs)) {ops : Array Oper} {rest : List Oper} {op : Oper} {a : Act} {Q : Exit → Act → World → Prop} (hgd : op.guard = none) (ty : TypeId) (p y : Operand) (ho : op.op = .store ty p y)
    (ds : List Value) (hx : a.eval p = .pointer (some ⟨b, 0, none⟩)) (hy : a.eval y = .agg ds.toArray) (hs : (Try.prog.info? ty).map (·.size) = some ds.length) (hl : cs.length = ds.length) (h1 : ds.all (·.oneCell') = true)
    (hg : ∀ Y, Rz w0 U B x (bs.set i (b, t, ds)) lv n xs Y → wpList Try.prog ops Q rest (a.put op.dst undef) Y) : wpList Try.prog ops Q (op :: rest) a X :=
  wpList_store_row hgd ty p y ho b ds.toArray hx hy t _ (h.rx.at hi).1 (by simpa using hs) (by simpa using hl) (all_oneCell_toArray (fun v hv => List.all_eq_true.1 h1 v hv)) (hg _ (h.turn hi (h.rx.row hi ds) ⟨rfl, rfl, rfl, by simp [World.setRow], fun k _ hn => setRow_other _ _ _ _ hn⟩))

theorem Rz.load (h : Rz w0 U B x bs lv n xs X) {i b : Nat} {t : TypeId} {cs : List Value} (hi : bs[i]? = some (b, t, cs)) {ops : Array Oper} {rest : List Oper} {op : Oper} {a : Act} {Q : Exit → Act → World → Prop} (hgd : op.guard = none) (ty : TypeId) (p : Operand) (ho : op.op = .load ty p)
    (hx : a.eval p = .pointer (some ⟨b, 0, none⟩)) {d : TypeDesc} (hu : Try.prog.underlying ty = some d) (hd : d.isRow = true) (hs : (Try.prog.info? ty).map (·.size) = some cs.length)
    (hg : wpList Try.prog ops Q rest (a.put op.dst (.agg cs.toArray)) X) : wpList Try.prog ops Q (op :: rest) a X := h.rx.load hi hgd ty p ho hx hu hd hs hg

/-- The row has grown by an element that was laid just ahead. -/
theorem Rz.app (h : Rz w0 U B x bs lv n xs X) {cs : Array Value} {t : TypeId} {Y : World} {lv' : Value} {m : Nat} {ys : List Value} (a1 : RowC Y 2 lv' m ys) (a2 : (X.alloc (.cells cs t)).grownBy Y (cBlk lv)) (a3 : ∀ k, cBlk lv' = some k → cBlk lv = some k ∨ (X.alloc (.cells cs t)).heap.size ≤ k) : Rz w0 U B x bs lv' m ys Y := by
  have hs : (X.alloc (.cells cs t)).heap.size = X.heap.size + 1 := by simp
  have hk : KeptO (fun k => cBlk lv = some k) X Y := (KeptO.of_below (alloc_below X _)).trans ⟨a2.os, a2.tape, a2.output, a2.size, fun k hk hn => a2.block k hk (fun e => hn e.symm)⟩ (fun _ _ e => e)
  have hU := h.rx.uw
  refine ⟨⟨h.rx.rs.keepO hk (fun e => (h.rb _ e).2.1 rfl) ?_, fun p hp => ⟨by rw [hk.block p.1 (heap_lt (h.rx.box p hp).1) (fun e => (h.rb _ e).2.2 p hp rfl)]; exact (h.rx.box p hp).1, (h.rx.box p hp).2⟩, h.rx.kept.trans hk (fun k hk2 e => by have := (h.rb k e).1; omega), h.rx.uw, h.rx.nd⟩, a1, fun k e => ?_⟩
  · exact h.rx.rs.below.trans ⟨hk.os, hk.tape, hk.output, hk.size, fun k hk2 => hk.block k (by have := h.rx.rs.below.size; omega) (fun e => by have := (h.rb k e).1; omega)⟩
  · rcases a3 k e with e2 | e2
    · exact h.rb k e2
    · refine ⟨by have := h.rx.kept.size; omega, by have := h.rx.rs.lt; omega, fun p hp e3 => ?_⟩
      have := heap_lt (h.rx.box p hp).1
      omega
/-- The element, and the row ahead of it. -/
theorem Rz.laid (h : Rz w0 U B x bs lv n xs X) (o : Obj) : RowC (X.alloc o) 2 lv n xs := h.row.carry (fun k e => Below.heap_alloc _ _ _ (h.row.lt (by decide) e))
theorem src_new2 {w : World} {t e : TypeId} (ht : Try.prog.underlying t = some (.slice e)) (u v : Value) (hu : u.oneCell' = true) (hv : v.oneCell' = true) : Src Try.prog 2 t (.slice (some ⟨w.heap.size, 0, none⟩) 1 1) 1 [u, v] (w.alloc (.cells #[u, v] e)) := by
  refine Src.ofSlice _ ht _ _ _ _ rfl (fun j z hz => ?_) (fun z hz => ?_)
  · rw [Addr.add_lit, Nat.zero_add, World.cell?_alloc_mark]
    simpa using hz
  · simp at hz
    rcases hz with rfl | rfl
    · exact hu
    · exact hv
end

end Go.Proofs.Ytgkcchbignakcaa
