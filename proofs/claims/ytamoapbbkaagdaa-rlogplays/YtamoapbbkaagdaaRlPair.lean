/-
  A raft log and the document's beside it: what each call of either leaves of both.
-/
import Derived.Test.YtamoapbbkaagdaaRlRef6
import Derived.Test.YtamoapbbkaagdaaRlAwake
import Derived.Test.YtamoapbbkaagdaaRlArgs
namespace Go.Proofs.Ytamoapbbkaagdaa
open Go.RowKit

/-- The log in block B has state s; the document's, whose list is v, has state sq; the blocks loc are neither the log's nor owned by it. -/
def P6 (w X : World) (B : Nat) (s sq : G.L) (v : Value) (loc : Nat → Prop) : Prop :=
  ∃ own : Nat → Prop, Lg X B s own ∧ EntR X v sq.ents ∧ (∀ k, readBlk v = some k → loc k) ∧ (∀ k, loc k → k < X.heap.size ∧ k ≠ B ∧ ¬ own k) ∧ w.heap.size ≤ B ∧ (∀ k, own k → w.heap.size ≤ k) ∧ Below w.heap.size w X

theorem P6.old {w X : World} {B : Nat} {s sq : G.L} {v : Value} {loc : Nat → Prop} (h : P6 w X B s sq v loc) : Below w.heap.size w X := by
  obtain ⟨own, _, _, _, _, _, _, h⟩ := h
  exact h
theorem P6.ok {w X : World} {B : Nat} {s sq : G.L} {v : Value} {loc : Nat → Prop} (h : P6 w X B s sq v loc) : G.Ok s := by
  obtain ⟨own, h, _⟩ := h
  exact h.ok
theorem P6.ent {w X : World} {B : Nat} {s sq : G.L} {v : Value} {loc : Nat → Prop} (h : P6 w X B s sq v loc) : EntR X v sq.ents := by
  obtain ⟨own, _, h, _⟩ := h
  exact h

/-- Nothing that was there changed; what is new may be held. -/
theorem P6.grow {w X Y : World} {B : Nat} {s sq : G.L} {v : Value} {loc : Nat → Prop} (h : P6 w X B s sq v loc) (hb : Below X.heap.size X Y) : P6 w Y B s sq v (fun k => loc k ∨ (X.heap.size ≤ k ∧ k < Y.heap.size)) := by
  obtain ⟨own, h1, h2, h3, h4, h5, h6, h7⟩ := h
  refine ⟨own, h1.below hb, h2.below hb, fun k hk => .inl (h3 k hk), fun k hk => ?_, h5, h6, h7.trans (hb.mono h7.size)⟩
  rcases hk with e | e
  · exact ⟨Nat.lt_of_lt_of_le (h4 k e).1 hb.size, (h4 k e).2⟩
  · have := h1.lt
    exact ⟨e.2, by omega, fun q => by have := (h1.here k q).1; omega⟩

theorem P6.less {w X : World} {B : Nat} {s sq : G.L} {v : Value} {loc loc' : Nat → Prop} (h : P6 w X B s sq v loc) (hl : ∀ k, loc' k → loc k) (hv : ∀ k, readBlk v = some k → loc' k) : P6 w X B s sq v loc' := by
  obtain ⟨own, h1, h2, h3, h4, h5, h6, h7⟩ := h
  exact ⟨own, h1, h2, hv, fun k hk => h4 k (hl k hk), h5, h6, h7⟩

theorem P6.below {w X Y : World} {B : Nat} {s sq : G.L} {v : Value} {loc : Nat → Prop} (h : P6 w X B s sq v loc) (hb : Below X.heap.size X Y) : P6 w Y B s sq v loc := by
  obtain ⟨own, h1, h2, h3, h4, h5, h6, h7⟩ := h
  exact ⟨own, h1.below hb, h2.below hb, h3, fun k hk => ⟨Nat.lt_of_lt_of_le (h4 k hk).1 hb.size, (h4 k hk).2⟩, h5, h6, h7.trans (hb.mono h7.size)⟩

/-- A call of the log. -/
theorem P6.rl {w X : World} {B : Nat} {s sq : G.L} {v : Value} {loc : Nat → Prop} (h : P6 w X B s sq v loc) : ∃ own, Lg X B s own ∧ ∀ Y s', Aft own X Y B s' → P6 w Y B s' sq v loc ∧ X.heap.size ≤ Y.heap.size ∧ ∀ k, loc k → Y.heap[k]? = X.heap[k]? := by
  obtain ⟨own, h1, h2, h3, h4, h5, h6, h7⟩ := h
  refine ⟨own, h1, fun Y s' ha => ?_⟩
  have hkeep : ∀ k, loc k → Y.heap[k]? = X.heap[k]? := fun k hk => ha.2.block k (h4 k hk).1 (h4 k hk).2.1 (h4 k hk).2.2
  refine ⟨⟨sinceB own X Y, ha.1, h2.carry (fun k hk => hkeep k (h3 k hk)), h3, fun k hk => ⟨Nat.lt_of_lt_of_le (h4 k hk).1 ha.2.size, (h4 k hk).2.1, fun e => ?_⟩, h5, fun k hk => ?_, ?_⟩, ha.2.size, hkeep⟩
  · rcases e with e | e
    · exact (h4 k hk).2.2 e
    · have := (h4 k hk).1
      omega
  · rcases hk with e | e
    · exact h6 k e
    · have := h7.size
      omega
  · exact h7.trans (ha.2.below h5 (fun k hk => h6 k hk) h7.size)

/-- A call of the document's. -/
theorem P6.put {w X Y : World} {B : Nat} {s sq sq' : G.L} {v v' : Value} {loc : Nat → Prop} (h : P6 w X B s sq v loc) (hb : Below X.heap.size X Y) (he : EntR Y v' sq'.ents) (hr : ∀ k, readBlk v' = some k → readBlk v = some k ∨ X.heap.size ≤ k) : P6 w Y B s sq' v' (fun k => loc k ∨ (X.heap.size ≤ k ∧ k < Y.heap.size)) := by
  obtain ⟨own, h1, h2, h3, h4, h5, h6, h7⟩ := h.grow hb
  obtain ⟨_, _, _, g3, _⟩ := h
  refine ⟨own, h1, he, fun k hk => ?_, h4, h5, h6, h7⟩
  rcases hr k hk with q | q
  · exact .inl (g3 k q)
  · exact .inr ⟨q, he.lt hk⟩

theorem CellsAt.carry {w X Y : World} {br : Nat} {cs : Array Value} (h : CellsAt w X br cs) (hb : Y.heap[br]? = X.heap[br]?) (hs : X.heap.size ≤ Y.heap.size) : CellsAt w Y br cs :=
  ⟨h.ge, Nat.lt_of_lt_of_le h.lt hs, fun j => (World.cell?_of_block (a := ⟨br, j, none⟩) hb).trans (h.c j), fun j => (World.frozen?_of_block (a := ⟨br, j, none⟩) hb).trans (h.f j)⟩

/-- Both logs, and the three blocks of a call of 'does'. -/
structure Dz (w X0 X : World) (B : Nat) (s sq : G.L) (v : Value) (loc : Nat → Prop) (bq bo br : Nat) (cq co cr : Array Value) : Prop where
  p : P6 w X B s sq v loc
  q : CellsAt X0 X bq cq
  o : CellsAt X0 X bo co
  r : CellsAt X0 X br cr
  lq : loc bq
  lo : loc bo
  lr : loc br
  old : X0.heap.size ≤ X.heap.size
  kp : ∀ k, k < X0.heap.size → loc k → X.heap[k]? = X0.heap[k]?

theorem Dz.grow {w X0 X Y : World} {B : Nat} {s sq : G.L} {v : Value} {loc : Nat → Prop} {bq bo br : Nat} {cq co cr : Array Value} (h : Dz w X0 X B s sq v loc bq bo br cq co cr) (hb : Below X.heap.size X Y) : Dz w X0 Y B s sq v (fun k => loc k ∨ (X.heap.size ≤ k ∧ k < Y.heap.size)) bq bo br cq co cr :=
  ⟨h.p.grow hb, h.q.below hb, h.o.below hb, h.r.below hb, .inl h.lq, .inl h.lo, .inl h.lr, Nat.le_trans h.old hb.size, fun k hk hl => by
    have := h.old
    rcases hl with e | e
    · exact (hb.block k (by omega)).trans (h.kp k hk e)
    · omega⟩
theorem Dz.below {w X0 X Y : World} {B : Nat} {s sq : G.L} {v : Value} {loc : Nat → Prop} {bq bo br : Nat} {cq co cr : Array Value} (h : Dz w X0 X B s sq v loc bq bo br cq co cr) (hb : Below X.heap.size X Y) : Dz w X0 Y B s sq v loc bq bo br cq co cr :=
  ⟨h.p.below hb, h.q.below hb, h.o.below hb, h.r.below hb, h.lq, h.lo, h.lr, Nat.le_trans h.old hb.size, fun k hk hl => (hb.block k (Nat.lt_of_lt_of_le hk h.old)).trans (h.kp k hk hl)⟩
theorem Dz.put {w X0 X Y : World} {B : Nat} {s sq sq' : G.L} {v v' : Value} {loc : Nat → Prop} {bq bo br : Nat} {cq co cr : Array Value} (h : Dz w X0 X B s sq v loc bq bo br cq co cr) (hb : Below X.heap.size X Y) (he : EntR Y v' sq'.ents) (hr : ∀ k, readBlk v' = some k → readBlk v = some k ∨ X.heap.size ≤ k) : Dz w X0 Y B s sq' v' (fun k => loc k ∨ (X.heap.size ≤ k ∧ k < Y.heap.size)) bq bo br cq co cr :=
  ⟨h.p.put hb he hr, h.q.below hb, h.o.below hb, h.r.below hb, .inl h.lq, .inl h.lo, .inl h.lr, Nat.le_trans h.old hb.size, fun k hk hl => by
    have := h.old
    rcases hl with e | e
    · exact (hb.block k (by omega)).trans (h.kp k hk e)
    · omega⟩
theorem Dz.rl {w X0 X : World} {B : Nat} {s sq : G.L} {v : Value} {loc : Nat → Prop} {bq bo br : Nat} {cq co cr : Array Value} (h : Dz w X0 X B s sq v loc bq bo br cq co cr) : ∃ own, Lg X B s own ∧ ∀ Y s', Aft own X Y B s' → Dz w X0 Y B s' sq v loc bq bo br cq co cr ∧ X.heap.size ≤ Y.heap.size ∧ ∀ k, loc k → Y.heap[k]? = X.heap[k]? := by
  obtain ⟨own, h1, h2⟩ := h.p.rl
  refine ⟨own, h1, fun Y s' ha => ?_⟩
  obtain ⟨a1, a2, a3⟩ := h2 Y s' ha
  exact ⟨⟨a1, h.q.carry (a3 _ h.lq) a2, h.o.carry (a3 _ h.lo) a2, h.r.carry (a3 _ h.lr) a2, h.lq, h.lo, h.lr, Nat.le_trans h.old a2, fun k hk hl => (a3 k hl).trans (h.kp k hk hl)⟩, a2, a3⟩

/-- The start of a call of 'does'. -/
theorem Dz.start {w X : World} {B : Nat} {s : G.L} {v : Value} {loc : Nat → Prop} (h : P6 w X B s s v loc) (cq co cr : Array Value) (t1 t2 t3 : TypeId) : ∃ u bq bo br, u = ((X.alloc (.cells cq t1)).alloc (.cells co t2)).alloc (.cells cr t3) ∧ bq = X.heap.size ∧ bo = X.heap.size + 1 ∧ br = X.heap.size + 1 + 1 ∧ Dz w X u B s s v (fun k => loc k ∨ (X.heap.size ≤ k ∧ k < u.heap.size)) bq bo br cq co cr := by
  obtain ⟨u, bq, bo, br, hu, h1, h2, h3, h4, h5, h6, h7⟩ := three_blocks X cq co cr t1 t2 t3
  exact ⟨u, bq, bo, br, hu, h1, h2, h3, h.grow h4, h5, h6, h7, .inr ⟨h5.ge, h5.lt⟩, .inr ⟨h6.ge, h6.lt⟩, .inr ⟨h7.ge, h7.lt⟩, h4.size, fun k hk _ => h4.block k hk⟩

/-- The result's cells are stored: what of both logs stays. -/
theorem Dz.stop {w X0 X : World} {B : Nat} {s sq : G.L} {v : Value} {loc loc0 : Nat → Prop} {bq bo br : Nat} {cq co cr : Array Value} (h : Dz w X0 X B s sq v loc bq bo br cq co cr) (h0 : ∀ k, loc0 k → loc k ∧ k < X0.heap.size) (hv : readBlk v ≠ some br) (hw : w.heap.size ≤ X0.heap.size) (x y z : Value) : P6 w (((X.setCell ⟨br, 0, none⟩ x).setCell ⟨br, 1, none⟩ y).setCell ⟨br, 2, none⟩ z) B s sq v (fun k => loc0 k ∨ readBlk v = some k) ∧ (∀ k, loc0 k → (((X.setCell ⟨br, 0, none⟩ x).setCell ⟨br, 1, none⟩ y).setCell ⟨br, 2, none⟩ z).heap[k]? = X0.heap[k]?) ∧ X0.heap.size ≤ (((X.setCell ⟨br, 0, none⟩ x).setCell ⟨br, 1, none⟩ y).setCell ⟨br, 2, none⟩ z).heap.size := by
  obtain ⟨own, h1, h2, h3, h4, h5, h6, h7⟩ := h.p
  have hb := h4 br h.lr
  have hge := h.r.ge
  have hh : ∀ k, k ≠ br → (((X.setCell ⟨br, 0, none⟩ x).setCell ⟨br, 1, none⟩ y).setCell ⟨br, 2, none⟩ z).heap[k]? = X.heap[k]? := fun k hk => by rw [Below.heap_setCell _ _ _ _ hk, Below.heap_setCell _ _ _ _ hk, Below.heap_setCell _ _ _ _ hk]
  have hs : (((X.setCell ⟨br, 0, none⟩ x).setCell ⟨br, 1, none⟩ y).setCell ⟨br, 2, none⟩ z).heap.size = X.heap.size := by rw [size_set6, size_set6, size_set6]
  refine ⟨⟨own, h1.carry (by rw [hs]; exact Nat.le_refl _) (hh B (fun e => hb.2.1 e.symm)) (fun k hk => hh k (fun e => hb.2.2 (e ▸ hk))), h2.carry (fun k hk => hh k (fun e => hv (e ▸ hk))), fun k hk => .inr hk, fun k hk => ?_, h5, h6, below_set3 h7 (Nat.le_trans hw h.r.ge) _ _ _⟩, fun k hk => ?_, by rw [hs]; exact h.old⟩
  · rw [hs]
    rcases hk with e | e
    · exact h4 k (h0 k e).1
    · exact h4 k (h3 k e)
  · have := (h0 k hk).2
    rw [hh k (by omega)]
    exact h.kp k (h0 k hk).2 (h0 k hk).1

end Go.Proofs.Ytamoapbbkaagdaa
