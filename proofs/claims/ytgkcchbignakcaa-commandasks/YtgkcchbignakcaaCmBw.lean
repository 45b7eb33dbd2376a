/-
  A law's variables: boxes made since the call began, beside lists that lie somewhere.
-/
import Derived.Test.YtgkcchbignakcaaCmSame
import Derived.Test.YtgkcchbignakcaaCmAwake
namespace Go.Proofs.Ytgkcchbignakcaa
open Go.RowKit

structure Bw (w0 : World) (bs : List (Nat × TypeId × List Value)) (X : World) : Prop where
  below : Below w0.heap.size w0 X
  box : ∀ p ∈ bs, X.heap[p.1]? = some (.cells p.2.2.toArray p.2.1 (0, 0))

theorem Bw.start (w : World) : Bw w [] w := ⟨Below.refl _ _, fun p hp => by simp at hp⟩
theorem heap_ltB {w : World} {b : Nat} {o : Obj} (h : w.heap[b]? = some o) : b < w.heap.size := by
  rcases Nat.lt_or_ge b w.heap.size with x | x
  · exact x
  · rw [Array.getElem?_eq_none x] at h; cases h
theorem Bw.call {w0 X Y : World} {bs : List (Nat × TypeId × List Value)} (h : Bw w0 bs X) (hb : Below X.heap.size X Y) : Bw w0 bs Y :=
  ⟨bel_then h.below hb, fun p hp => by rw [hb.block _ (heap_ltB (h.box p hp))]; exact h.box p hp⟩

theorem new1_below (X : World) (z d : Array Value) (t : TypeId) : Below X.heap.size X ((X.alloc (.cells z t)).setRow X.heap.size d) :=
  ⟨rfl, rfl, rfl, by simp [World.setRow], fun k hk => by rw [setRow_other _ _ _ _ (by omega)]; exact Below.heap_alloc _ _ _ hk⟩
theorem Bw.new1 {w0 X : World} {bs : List (Nat × TypeId × List Value)} (h : Bw w0 bs X) (z : Array Value) (t : TypeId) (d : List Value) : Bw w0 ((X.heap.size, t, d) :: bs) ((X.alloc (.cells z t)).setRow X.heap.size d.toArray) := by
  have hb := new1_below X z d.toArray t
  refine ⟨bel_then h.below hb, fun p hp => ?_⟩
  rcases List.mem_cons.1 hp with rfl | hp
  · exact setRow_heap _ _ _ _ _ _ (heap_alloc_new X _)
  · rw [hb.block _ (heap_ltB (h.box p hp))]; exact h.box p hp

theorem alloc2_at (X : World) (z1 z2 : Array Value) (t1 t2 : TypeId) : ((X.alloc (.cells z1 t1)).alloc (.cells z2 t2)).heap[X.heap.size]? = some (.cells z1 t1 (0, 0)) ∧ ((X.alloc (.cells z1 t1)).alloc (.cells z2 t2)).heap[X.heap.size + 1]? = some (.cells z2 t2 (0, 0)) := by
  refine ⟨by rw [Below.heap_alloc _ _ _ (by simp)]; exact heap_alloc_new _ _, ?_⟩
  have := heap_alloc_new (X.alloc (.cells z1 t1)) (.cells z2 t2)
  simpa using this
theorem new2_mid (X : World) (z1 z2 d1 : Array Value) (t1 t2 : TypeId) : (((X.alloc (.cells z1 t1)).alloc (.cells z2 t2)).setRow X.heap.size d1).heap[X.heap.size + 1]? = some (.cells z2 t2 (0, 0)) := by
  rw [setRow_other _ _ _ _ (by omega)]
  exact (alloc2_at X z1 z2 t1 t2).2
theorem new2_below (X : World) (z1 z2 d1 d2 : Array Value) (t1 t2 : TypeId) : Below X.heap.size X ((((X.alloc (.cells z1 t1)).alloc (.cells z2 t2)).setRow X.heap.size d1).setRow (X.heap.size + 1) d2) :=
  ⟨rfl, rfl, rfl, by simp [World.setRow]; omega, fun k hk => by rw [setRow_other _ _ _ _ (by omega), setRow_other _ _ _ _ (by omega), Below.heap_alloc _ _ _ (by simp; omega)]; exact Below.heap_alloc _ _ _ hk⟩
theorem Bw.new2 {w0 X : World} {bs : List (Nat × TypeId × List Value)} (h : Bw w0 bs X) (z1 z2 : Array Value) (t1 t2 : TypeId) (d1 d2 : List Value) : Bw w0 ((X.heap.size + 1, t2, d2) :: (X.heap.size, t1, d1) :: bs) ((((X.alloc (.cells z1 t1)).alloc (.cells z2 t2)).setRow X.heap.size d1.toArray).setRow (X.heap.size + 1) d2.toArray) := by
  have hb := new2_below X z1 z2 d1.toArray d2.toArray t1 t2
  refine ⟨bel_then h.below hb, fun p hp => ?_⟩
  rcases List.mem_cons.1 hp with rfl | hp
  · exact setRow_heap _ _ _ _ _ _ (new2_mid X z1 z2 d1.toArray t1 t2)
  · rcases List.mem_cons.1 hp with rfl | hp
    · show ((((X.alloc (.cells z1 t1)).alloc (.cells z2 t2)).setRow X.heap.size d1.toArray).setRow (X.heap.size + 1) d2.toArray).heap[X.heap.size]? = _
      rw [setRow_other _ _ _ _ (by omega)]
      exact setRow_heap _ _ _ _ _ _ (alloc2_at X z1 z2 t1 t2).1
    · rw [hb.block _ (heap_ltB (h.box p hp))]; exact h.box p hp

theorem Bw.range {w0 X : World} {bs : List (Nat × TypeId × List Value)} (h : Bw w0 bs X) {i b : Nat} {t : TypeId} {cs : List Value} (hi : bs[i]? = some (b, t, cs)) : X.rangeAt b 0 cs := fun j v hj => by
  rw [Lib.cell_of_heap (h.box _ (List.mem_of_getElem? hi)), Nat.zero_add]
  simp [hj]
theorem Bw.load {w0 X : World} {bs : List (Nat × TypeId × List Value)} (h : Bw w0 bs X) {i b : Nat} {t : TypeId} {cs : List Value} (hi : bs[i]? = some (b, t, cs)) {ops : Array Oper} {rest : List Oper} {op : Oper} {a : Act} {Q : Exit → Act → World → Prop} (ty : TypeId) (p : Operand) (hw : Region.wanted op (yielded ops a.tmps) = true) (ho : op.op = .load ty p)
    (hx : a.eval p = .pointer (some ⟨b, 0, none⟩)) {d : TypeDesc} (hu : Try.prog.underlying ty = some d) (hd : d.isRow = true) (hs : (Try.prog.info? ty).map (·.size) = some cs.length)
    (hg : wpList Try.prog ops Q rest (a.put op.dst (.agg cs.toArray)) X) : wpList Try.prog ops Q (op :: rest) a X :=
  wpList_wants hw fun _ hK => wp_load_mid ty p ho b 0 hx cs d (h.range hi) hu hd hs (hK _ _ hg)

theorem run_idEq (i : IdD) (w : World) : (binOp .eql 23 (.agg i.cells.toArray) (.agg i.cells.toArray)).run Try.prog w = .ok (.bool true) w := by
  obtain ⟨a, b⟩ := i
  unfold IdD.cells
  go_simp
theorem run_opEq (x : OpD) (w : World) : (binOp .eql 25 (.agg x.cells.toArray) (.agg x.cells.toArray)).run Try.prog w = .ok (.bool true) w := by
  obtain ⟨a0, a1, a2, a3, a4, a5, a6, a7, a8⟩ := x
  unfold OpD.cells
  go_simp

theorem ask_inj {i j : IdD} {x y : OpD} (h : i.pss.flatten ++ x.pss.flatten = j.pss.flatten ++ y.pss.flatten) : i = j ∧ x = y := by
  obtain ⟨a, b⟩ := i
  obtain ⟨c, d⟩ := j
  obtain ⟨a0, a1, a2, a3, a4, a5, a6, a7, a8⟩ := x
  obtain ⟨b0, b1, b2, b3, b4, b5, b6, b7, b8⟩ := y
  simp [IdD.pss, OpD.pss, nf, tf] at h
  obtain ⟨rfl, rfl, rfl, rfl, rfl, rfl, rfl, rfl, rfl, rfl, rfl⟩ := h
  exact ⟨rfl, rfl⟩
theorem posts_inj : ∀ {l m : List (ByteArray × ByteArray)}, (l.map fun e => [tf e.1, tf e.2]).flatten = (m.map fun e => [tf e.1, tf e.2]).flatten → l = m
  | [], [], _ => rfl
  | [], b :: m, h => by simp at h
  | a :: l, [], h => by simp at h
  | a :: l, b :: m, h => by
    simp only [List.map_cons, List.flatten_cons, List.cons_append, List.nil_append, List.cons.injEq] at h
    obtain ⟨h1, h2, h3⟩ := h
    simp [tf] at h1 h2
    rw [posts_inj h3, Prod.ext h1 h2]
theorem ents_inj : ∀ {l m : List (Int × ByteArray)}, (l.map fun e => [nf e.1, tf e.2]).flatten = (m.map fun e => [nf e.1, tf e.2]).flatten → l = m
  | [], [], _ => rfl
  | [], b :: m, h => by simp at h
  | a :: l, [], h => by simp at h
  | a :: l, b :: m, h => by
    simp only [List.map_cons, List.flatten_cons, List.cons_append, List.nil_append, List.cons.injEq] at h
    obtain ⟨h1, h2, h3⟩ := h
    simp [nf] at h1
    simp [tf] at h2
    rw [ents_inj h3, Prod.ext h1 h2]
theorem ans_inj {i j : IdD} {x y : RepD} (h : i.pss.flatten ++ x.pss.flatten = j.pss.flatten ++ y.pss.flatten) : i = j ∧ x.err = y.err ∧ x.at_ = y.at_ ∧ x.posts = y.posts := by
  obtain ⟨a, b⟩ := i
  obtain ⟨c, d⟩ := j
  simp only [IdD.pss, RepD.pss, pPosts, List.flatten_cons, List.flatten_nil, List.append_nil, List.cons_append, List.nil_append, List.cons.injEq] at h
  obtain ⟨h0, h1, h2, h3, -, h5⟩ := h
  simp [nf] at h0 h1 h2 h3
  exact ⟨by rw [h0, h1], h2, h3, posts_inj h5⟩
theorem msg_inj {x y : MsgD} (h : x.pss.flatten = y.pss.flatten) : x.kind = y.kind ∧ x.group = y.group ∧ x.frm = y.frm ∧ x.to = y.to ∧ x.term = y.term ∧ x.index = y.index ∧ x.at_ = y.at_ ∧ x.commit = y.commit ∧ x.ok = y.ok ∧ x.ents = y.ents ∧ x.data = y.data := by
  simp only [MsgD.pss, pEnts, List.flatten_cons, List.flatten_nil, List.append_nil, List.cons_append, List.nil_append, List.cons.injEq] at h
  obtain ⟨h0, h1, h2, h3, h4, h5, h6, h7, h8, h9, h10⟩ := h
  have hl : x.ents.length = y.ents.length := by
    simp at h9
    omega
  have hlen : (x.ents.map fun e => [nf e.1, tf e.2]).flatten.length = (y.ents.map fun e => [nf e.1, tf e.2]).flatten.length := by rw [len_Ents, len_Ents, hl]
  obtain ⟨h11, h12⟩ := List.append_inj h10 hlen
  have h13 : x.ok = y.ok := by
    simp only [Prod.mk.injEq, Sum.inl.injEq, true_and] at h8
    cases hx : x.ok <;> cases hy : y.ok <;> rw [hx, hy] at h8 <;> first | rfl | (exact absurd h8 (by decide))
  simp [nf] at h0 h1 h2 h3 h4 h5 h6 h7
  simp [tf] at h12
  exact ⟨h0, h1, h2, h3, h4, h5, h6, h7, h13, ents_inj h11, h12⟩

end Go.Proofs.Ytgkcchbignakcaa
