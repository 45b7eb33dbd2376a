/-
  A raft node's log and its records: an entry is added.
-/
import Derived.Test.YteaopnhjndnpnaaNdMsg
import Derived.StillTailTactics
import Derived.Deep.RegionHeld3
namespace Go.Proofs.Yteaopnhjndnpnaa
open Go.RowKit

/-- A region that reads, then goes on in the order of the text. -/
theorem wp_tail7 {P : Program} {id : Nat} {Q : Exit → Act → World → Prop} {a : Act} {w : World} {l : List Oper} (n : Nat) (hm : P.follows .mixedOrders = true) (hB : Region.lexTailB .any l.toArray n = true)
    (h : wpStill P l.toArray w.drew (fun a' => wpList P l.toArray Q (l.drop n) a' w.drew) (l.take n) a) : (Code.region id l.toArray true).wp P Q a w := wp_region_still_tail n hm hB h

/-- An operation that only reads is taken first. -/
theorem take7 {P : Program} {md : Region.Mode} {ops : Array Oper} {Q : Exit → Act → World → Prop} {S : World → Prop} {i d : Nat} {oi : Oper} {v : Value} {fuel : Nat} {listed : Array Bool} {a : Act} {w : World} (hi : ops[i]? = some oi) (hd : oi.dst = some d)
    (hs : Region.noSelect ops = true) (hf : Region.free md ops listed i = true) (hr : (Region.ready md ops listed).contains i = true)
    (hQ : ∀ c a w, Q (.panic c) (a.put (some d) v) w → Q (.panic c) a w) (hy : YieldsIf P ops S oi v a) (hS : S w)
    (h : wpAnyH P md ops Q S fuel (listed.setIfInBounds i true) (a.put (some d) v) w) : wpAnyH P md ops Q S (fuel + 1) listed a w :=
  wpAnyH_take hi hs hf hr (by rw [hd]; exact hQ) hy hS (by rw [hd]; exact h)

/-- append, as one step of a region that draws. -/
theorem step7 {P : Program} {w : World} {ops : Array Oper} {o : Oper} {a : Act} {K : Act → World → Prop} {Q : Exit → Act → World → Prop} {E : Prop} (d : Nat) (hd : o.dst = some d) (hgd : o.guard = none) (s x : Operand) (t tx e : TypeId)
    (ho : o.op = .call { callee := .builtin .append, args := #[s, x], argTypes := #[t, tx] })
    (ht : P.underlying t = some (.slice e)) (z : Value) (size bytes : Nat) (hinfo : (P.info? e).map (fun i => (i.zero, i.size, i.bytes)) = some (some z, size, bytes)) (hzs : z.cells.size = size)
    (v : Value) (n : Nat) (xs : List Value) (hv : a.eval s = v) (hown : RowC w size v n xs) (xv : Value) (m : Nat) (news : List Value) (hx : a.eval x = xv) (hs : Src P size tx xv m news w)
    (hlen : (n + m) * bytes ≤ 140737488355328) (hmax : n + m ≤ maxLen)
    (h : ∀ v' w', RowC w' size v' (n + m) (xs ++ news) → w.grownBy w' (cBlk v) → (∀ k, cBlk v' = some k → cBlk v = some k ∨ w.heap.size ≤ k) → K (a.put (some d) v') w') :
    if Region.wanted o (yielded ops a.tmps) = true then Oper.wp P o a w K Q else E :=
  step_append_rowC hgd s x t tx e ho ht z size bytes hinfo hzs v n xs hv hown xv m news hx hs hlen hmax (by rw [hd]; exact h)

theorem infoRec : (Try.prog.info? 99).map (fun i => (i.zero, i.size, i.bytes)) = some (some (.agg #[.int .i64 0, .int .i64 0, .int .i64 0, .int .i64 0, .int .i64 0, .string ⟨#[]⟩]), 6, 56) := by kernel_rfl

section
variable {w : World} {B : Nat} {s : N.St} {own : Nat → Prop} {LB MB : Nat} {ol : Nat → Prop} {rv : Value}

/-- A call of the log leaves the node with the log as it is then. -/
theorem NdV.logged {w2 : World} {l' : G.L} (h : NdV w B s own LB MB ol rv) (ha : Aft ol w w2 LB l') : NdV w2 B { s with log := l' } (sinceB own w w2) LB MB (sinceB ol w w2) rv ∧ KeptB B own w w2 := by
  obtain ⟨h1, h2⟩ := ha
  have hsz := h2.size
  have hLB := h.here LB h.oL
  have hMB := h.here MB h.oM
  have hB : w2.heap[B]? = w.heap[B]? := h2.block B h.lt (fun e => hLB.2 e.symm) (fun e => (h.here B (h.olo B e)).2 rfl)
  refine ⟨⟨Nat.lt_of_lt_of_le h.lt hsz, fun j => (World.cell?_of_block (a := ⟨B, j, none⟩) hB).trans (h.cells j), fun j hj => (World.frozen?_of_block (a := ⟨B, j, none⟩) hB).trans (h.fz j hj), ?_, h1, ?_, .inl h.oL, .inl h.oM, ?_, fun k hk => .inl (h.orv k hk), ⟨h.sM.1, ?_⟩, fun k hk => ⟨(h.srv k hk).1, (h.srv k hk).2.1, ?_⟩, ?_, ⟨h.sz.id, h.sz.nodes, h.sz.v, h.sz.n, h.sz.m⟩⟩, ?_⟩
  · rw [h2.block MB hMB.1 h.sM.1 h.sM.2]; exact h.map
  · exact h.row.carry (fun k hk => h2.block k (h.here k (h.orv k hk)).1 (h.srv k hk).1 (h.srv k hk).2.2)
  · intro k hk
    rcases hk with e | e
    · exact .inl (h.olo k e)
    · exact .inr e
  · rintro (e | e)
    · exact h.sM.2 e
    · omega
  · rintro (e | e)
    · exact (h.srv k hk).2.2 e
    · have := (h.here k (h.orv k hk)).1; omega
  · intro k hk
    have := h.lt
    rcases hk with e | e
    · exact ⟨Nat.lt_of_lt_of_le (h.here k e).1 hsz, (h.here k e).2⟩
    · exact ⟨e.2, by omega⟩
  · exact ⟨h2.os, h2.tape, h2.output, h2.size, fun k hk hkB hn => h2.block k hk (fun e => hn (e ▸ h.oL)) (fun e => hn (h.olo k e))⟩

theorem ndCells_len (h : Sz s) : (ndCells s LB MB rv).length = 35 := by
  have := h.v
  have := h.n
  have := h.m
  simp [ndCells, bools, ints]
  omega
/-- All cells but the last one. -/
def ndFront (s : N.St) (LB MB : Nat) : List Value :=
  .int .i64 s.group :: .int .i64 (s.id : Int) :: .int .i64 (s.nodes : Int) :: .map (some MB) :: .pointer (some ⟨LB, 0, none⟩) :: .string s.data :: .int .i64 s.term :: .int .i64 s.vote :: .int .i64 s.role :: .int .i64 s.lead :: .int .i64 s.commit :: .int .i64 s.wait :: .int .i64 s.left :: (bools s.voted ++ (ints s.next ++ ints s.mtch))
theorem ndCells_front : ndCells s LB MB rv = ndFront s LB MB ++ [rv] := by simp [ndCells, ndFront]
theorem ndFront_len (h : Sz s) : (ndFront s LB MB).length = 34 := by
  have := ndCells_len (LB := LB) (MB := MB) (rv := .bool true) h
  rw [ndCells_front] at this
  simpa using this
theorem ndCells_rv (h : Sz s) : (ndCells s LB MB rv)[34]? = some rv := by
  rw [ndCells_front, List.getElem?_append_right (by rw [ndFront_len h]; exact Nat.le_refl _), ndFront_len h]
  rfl
theorem ndCells_setrv (h : Sz s) (v : Value) : (ndCells s LB MB rv).set 34 v = ndCells s LB MB v := by
  rw [ndCells_front, ndCells_front, List.set_append, if_neg (by rw [ndFront_len h]; decide), ndFront_len h]
  rfl

/-- The records' slice is another one. -/
theorem NdV.reslice {w4 : World} {v' : Value} {l : List N.Rec} (h : NdV w B s own LB MB ol rv) (hrow : RowC w4 6 v' l.length (recCells s.group l)) (hg : w.grownBy w4 (cBlk rv)) (hv : ∀ k, cBlk v' = some k → cBlk rv = some k ∨ w.heap.size ≤ k) :
    NdV (w4.setCell ⟨B, 34, none⟩ v') B { s with recs := l } (sinceB own w w4) LB MB ol v' ∧ KeptB B own w (w4.setCell ⟨B, 34, none⟩ v') := by
  have hsz := hg.size
  have hLB := h.here LB h.oL
  have hMB := h.here MB h.oM
  have hne : ∀ k, k < w.heap.size → cBlk rv ≠ some k → w4.heap[k]? = w.heap[k]? := fun k hk hn => hg.block k hk (fun e => hn e.symm)
  have hB : w4.heap[B]? = w.heap[B]? := hne B h.lt (fun e => (h.here B (h.orv B e)).2 rfl)
  have hs : (w4.setCell ⟨B, 34, none⟩ v').heap.size = w4.heap.size := size_set6 _ _ _
  have hk : ∀ k, k ≠ B → (w4.setCell ⟨B, 34, none⟩ v').heap[k]? = w4.heap[k]? := fun k hk => Below.heap_setCell _ _ _ _ hk
  have hc4 : ∀ j, w4.cell? ⟨B, j, none⟩ = (ndCells s LB MB rv)[j]? := fun j => (World.cell?_of_block (a := ⟨B, j, none⟩) hB).trans (h.cells j)
  have hx : w4.cell? ⟨B, 34, none⟩ = some rv := by rw [hc4, ndCells_rv h.sz]
  have hL4 : w4.heap[LB]? = w.heap[LB]? := hne LB hLB.1 (fun e => (h.srv LB e).1 rfl)
  refine ⟨⟨by rw [hs]; exact Nat.lt_of_lt_of_le h.lt hsz, fun j => ?_, fun j hj => ?_, ?_, ?_, ?_, .inl h.oL, .inl h.oM, fun k hk => .inl (h.olo k hk), ?_, h.sM, ?_, ?_, ⟨h.sz.id, h.sz.nodes, h.sz.v, h.sz.n, h.sz.m⟩⟩, ?_⟩
  · show _ = (ndCells s LB MB v')[j]?
    rw [cell_set6 v' hx j, ← ndCells_setrv (rv := rv) h.sz v']
    by_cases e : j = 34
    · subst e
      rw [if_pos rfl, List.getElem?_set_self (by rw [ndCells_len h.sz]; decide)]
    · rw [if_neg e, List.getElem?_set_ne (fun q => e q.symm)]
      exact hc4 j
  · rw [World.frozen?_setCell, World.frozen?_of_block (a := ⟨B, j, none⟩) hB]; exact h.fz j hj
  · rw [hk MB hMB.2, hne MB hMB.1 (fun e => (h.srv MB e).2.1 rfl)]; exact h.map
  · exact h.log.carry (by rw [hs]; exact hsz) ((hk LB hLB.2).trans hL4) (fun k q => (hk k (h.here k (h.olo k q)).2).trans (hne k (h.here k (h.olo k q)).1 (fun e => (h.srv k e).2.2 q)))
  · refine hrow.carry (fun k q => hk k ?_)
    rcases hv k q with e | e
    · exact (h.here k (h.orv k e)).2
    · have := h.lt; omega
  · intro k q
    rcases hv k q with e | e
    · exact .inl (h.orv k e)
    · exact .inr ⟨e, hrow.lt (by decide) q⟩
  · intro k q
    rcases hv k q with e | e
    · exact h.srv k e
    · exact ⟨by omega, by omega, fun q2 => by have := (h.here k (h.olo k q2)).1; omega⟩
  · intro k q
    rw [hs]
    have := h.lt
    rcases q with e | e
    · exact ⟨Nat.lt_of_lt_of_le (h.here k e).1 hsz, (h.here k e).2⟩
    · exact ⟨e.2, by omega⟩
  · refine ⟨hg.os, hg.tape, hg.output, by rw [hs]; exact hsz, fun k hkl hkB hn => ?_⟩
    rw [hk k hkB]
    exact hne k hkl (fun e => hn (h.orv k e))

end

section
variable {w : World} {B : Nat} {s : N.St} {own : Nat → Prop}

/-- While an entry is added: the node, and the entry in block b. -/
structure Ad (w : World) (own : Nat → Prop) (b B : Nat) (st : N.St) (x : Int × ByteArray) (LB MB : Nat) (ol : Nat → Prop) (rv : Value) (X : World) : Prop where
  hb : b = w.heap.size
  lt : b < X.heap.size
  c0 : X.cell? ⟨b, 0, none⟩ = some (.int .i64 x.1)
  c1 : X.cell? ⟨b, 1, none⟩ = some (.string x.2)
  f0 : X.frozen? ⟨b, 0, none⟩ = false
  f1 : X.frozen? ⟨b, 1, none⟩ = false
  nd : ∃ own', NdV X B st own' LB MB ol rv ∧ KeptB B own w X ∧ (∀ k, own' k → own k ∨ w.heap.size < k) ∧ B < w.heap.size ∧ ∀ k, own k → k < w.heap.size

theorem Ad.below {w X Y : World} {own : Nat → Prop} {b B : Nat} {st : N.St} {x : Int × ByteArray} {LB MB : Nat} {ol : Nat → Prop} {rv : Value} (h : Ad w own b B st x LB MB ol rv X) (hb : Below X.heap.size X Y) : Ad w own b B st x LB MB ol rv Y := by
  obtain ⟨own', h1, h2, h3, h4, h5⟩ := h.nd
  exact ⟨h.hb, Nat.lt_of_lt_of_le h.lt hb.size, (hb.cell (p := ⟨b, 0, none⟩) h.lt).trans h.c0, (hb.cell (p := ⟨b, 1, none⟩) h.lt).trans h.c1, (hb.frozen (p := ⟨b, 0, none⟩) h.lt).trans h.f0, (hb.frozen (p := ⟨b, 1, none⟩) h.lt).trans h.f1,
    own', h1.below hb, h2.trans (KeptB.ofBelow (b := B) (own := own) hb) (fun _ _ e => e), h3, h4, h5⟩

/-- Behind the log's call. -/
theorem Ad.logged {w X Y : World} {own : Nat → Prop} {b B : Nat} {st : N.St} {x : Int × ByteArray} {LB MB : Nat} {ol : Nat → Prop} {rv : Value} {l' : G.L} (h : Ad w own b B st x LB MB ol rv X) (ha : Aft ol X Y LB l') : Ad w own b B { st with log := l' } x LB MB (sinceB ol X Y) rv Y := by
  obtain ⟨own', h1, h2, h3, h4, h5⟩ := h.nd
  obtain ⟨n1, n2⟩ := h1.logged ha
  have hbw := h.hb
  have hsz := h2.size
  have hlt := h.lt
  have hb : Y.heap[b]? = X.heap[b]? := n2.block b h.lt (by omega) (fun e => by
    rcases h3 b e with q | q
    · have := h5 b q; omega
    · omega)
  refine ⟨h.hb, Nat.lt_of_lt_of_le h.lt n2.size, (World.cell?_of_block (a := ⟨b, 0, none⟩) hb).trans h.c0, (World.cell?_of_block (a := ⟨b, 1, none⟩) hb).trans h.c1, (World.frozen?_of_block (a := ⟨b, 0, none⟩) hb).trans h.f0, (World.frozen?_of_block (a := ⟨b, 1, none⟩) hb).trans h.f1, _, n1, h2.trans n2 (fun k hk e => ?_), fun k hk => ?_, h4, h5⟩
  · rcases h3 k e with q | q
    · exact q
    · omega
  · rcases hk with q | q
    · exact h3 k q
    · exact .inr (by omega)

theorem add_math {l : G.L} {x : Int × ByteArray} (he : G.appE l x = 0) : G.appA l x = G.last l + 1 ∧ G.entryA (G.app l x) (G.last l + 1) = x := by
  unfold G.appA G.entryA G.entryE G.app
  rw [if_pos he, if_pos he]
  refine ⟨rfl, ?_⟩
  have hw : G.within (G.last l + 1) (l.base + 1) (G.last { l with ents := l.ents ++ [x] }) = 0 := by
    rw [G.within_zero]
    unfold G.last
    simp
    omega
  dsimp only at hw ⊢
  rw [if_pos hw]
  unfold G.entAt G.last
  have : (l.base + (l.ents.length : Int) + 1 - l.base - 1).toNat = l.ents.length := by omega
  dsimp only
  rw [this, List.getElem?_concat_length]

/-- What was in the entry's block is stored there again. -/
theorem Ad.again {w X : World} {own : Nat → Prop} {b B : Nat} {st : N.St} {x : Int × ByteArray} {LB MB : Nat} {ol : Nat → Prop} {rv : Value} (h : Ad w own b B st x LB MB ol rv X) : Ad w own b B st x LB MB ol rv ((X.setCell ⟨b, 0, none⟩ (.int .i64 x.1)).setCell ⟨b, 1, none⟩ (.string x.2)) := by
  obtain ⟨own', h1, h2, h3, h4, h5⟩ := h.nd
  have hbw := h.hb
  have hsz := h2.size
  have hs : ((X.setCell ⟨b, 0, none⟩ (.int .i64 x.1)).setCell ⟨b, 1, none⟩ (.string x.2)).heap.size = X.heap.size := by rw [size_set6, size_set6]
  have hk : ∀ k, k ≠ b → ((X.setCell ⟨b, 0, none⟩ (.int .i64 x.1)).setCell ⟨b, 1, none⟩ (.string x.2)).heap[k]? = X.heap[k]? := fun k hk => (Below.heap_setCell _ _ _ _ hk).trans (Below.heap_setCell _ _ _ _ hk)
  have e0 : (X.setCell ⟨b, 0, none⟩ (.int .i64 x.1)).cell? ⟨b, 1, none⟩ = some (.string x.2) := by rw [cell_set6 _ h.c0, if_neg (by decide)]; exact h.c1
  have hnb : ∀ k, own' k → k ≠ b := fun k hk e => by
    rcases h3 k hk with q | q
    · have := h5 k q; omega
    · omega
  refine ⟨h.hb, by rw [hs]; exact h.lt, ?_, ?_, ?_, ?_, own', h1.carry (by rw [hs]; exact Nat.le_refl _) (hk B (by omega)) (fun k q => hk k (hnb k q)), ?_, h3, h4, h5⟩
  · rw [cell_set6 _ e0, if_neg (by decide), cell_set6 _ h.c0, if_pos rfl]
  · rw [cell_set6 _ e0, if_pos rfl]
  · rw [World.frozen?_setCell, World.frozen?_setCell]; exact h.f0
  · rw [World.frozen?_setCell, World.frozen?_setCell]; exact h.f1
  · exact (h2.setCell ⟨b, 0, none⟩ (.inr (.inr (by show _ ≤ b; omega))) _).setCell ⟨b, 1, none⟩ (.inr (.inr (by show _ ≤ b; omega))) _

/-- Behind the append of a record. -/
theorem recGo {w X W w4 : World} {own own' : Nat → Prop} {B : Nat} {st : N.St} {LB MB : Nat} {ol : Nat → Prop} {rv v' : Value} {n : Nat} {r : N.Rec} (h : NdV X B st own' LB MB ol rv) (hk : KeptB B own w X) (ho' : ∀ k, own' k → own k ∨ w.heap.size ≤ k) (hn : n = st.recs.length) (hW : Below X.heap.size X W)
    (ho : RowC w4 6 v' (n + 1) (recCells st.group st.recs ++ recOne st.group r)) (hg : W.grownBy w4 (cBlk rv)) (hl : ∀ k, cBlk v' = some k → cBlk rv = some k ∨ W.heap.size ≤ k) :
    Hid (∃ own'', AftN own w (w4.setCell ⟨B, 34, none⟩ v') B { st with recs := st.recs ++ [r] } own'') ∧ w4.cell? ⟨B, 34, none⟩ = some rv ∧ w4.frozen? ⟨B, 34, none⟩ = false ∧ ∃ p' c', v' = .slice p' (n + 1) c' := by
  have hN := h.below hW
  have hrow : RowC w4 6 v' (st.recs ++ [r]).length (recCells st.group (st.recs ++ [r])) := by rw [recCells_snoc, List.length_append, ← hn]; exact ho
  obtain ⟨m1, m2⟩ := hN.reslice hrow hg hl
  obtain ⟨p', c', hv', _, _⟩ := ho.form
  have hB : w4.heap[B]? = W.heap[B]? := hg.block B hN.lt (fun e => (hN.here B (hN.orv B e.symm)).2 rfl)
  refine ⟨⟨_, m1.nd, hk.trans ((KeptB.ofBelow hW).trans m2 (fun _ _ e => e)) (fun k hkl e => ?_), fun k q => ?_⟩, ?_, ?_, p', c', hv'⟩
  · rcases ho' k e with q | q
    · exact q
    · omega
  · rcases q with e | e
    · exact ho' k e
    · exact .inr (by have := hW.size; have := hk.size; omega)
  · rw [World.cell?_of_block (a := ⟨B, 34, none⟩) hB, hN.cells, ndCells_rv hN.sz]
  · rw [World.frozen?_of_block (a := ⟨B, 34, none⟩) hB]; exact hN.fz 34 (by decide)

set_option maxHeartbeats 800000 in
set_option maxRecDepth 20000 in
theorem add_yes (h : Nd w B s own) (x : Int × ByteArray) (he : G.appE s.log x = 0) (hr : s.recs.length ≤ 1000000000) :
    Calls Try.prog 34 #[.pointer (some ⟨B, 0, none⟩), .agg #[.int .i64 x.1, .string x.2]] w fun e w' => e = .returned (.tuple #[]) ∧ ∃ own', AftN own w w' B (N.add s x) own' := by
  obtain ⟨hA1, hA2⟩ := add_math he
  obtain ⟨LB, MB, ol, rv, hv⟩ := h
  obtain ⟨u, hu⟩ : ∃ u, u = w.alloc (.cells #[.int .i64 x.1, .string x.2] 79) := ⟨_, rfl⟩
  obtain ⟨b, hb⟩ : ∃ b, b = w.heap.size := ⟨_, rfl⟩
  have hbu : Below w.heap.size w u := by rw [hu]; exact below_alloc _ _
  have HA : Hid (Ad w own b B s x LB MB ol rv u) := by
    refine ⟨hb, by rw [hu, hb]; simp, by rw [hu, hb]; exact World.cell?_alloc_mark w _ _ _ 0, by rw [hu, hb]; exact World.cell?_alloc_mark w _ _ _ 1, by rw [hu, hb, World.frozen?_alloc_mark]; simp, by rw [hu, hb, World.frozen?_alloc_mark]; simp, own, hv.below hbu, KeptB.ofBelow hbu, fun k hk => .inl hk, hv.lt, fun k hk => (hv.here k hk).1⟩
  have h4 : u.cell? ⟨B, 4, none⟩ = some (.pointer (some ⟨LB, 0, none⟩)) := (hv.below hbu).at 4 _ rfl
  have c0 := HA.out.c0
  have c1 := HA.out.c1
  have HAp : Hid (∀ X, Ad w own b B s x LB MB ol rv X → Calls Try.prog 57 #[.pointer (some ⟨LB, 0, none⟩), .agg #[.int .i64 x.1, .string x.2]] X fun e w' => e = .returned (.tuple #[.int .i64 (G.last s.log + 1), .int .i64 0]) ∧ ∃ ol', Ad w own b B { s with log := G.app s.log x } x LB MB ol' rv w') := by
    intro X hX
    obtain ⟨own', h1, _⟩ := hX.nd
    refine (Append_c h1.log x).mono ?_
    rintro e w' ⟨rfl, ha⟩
    exact ⟨by rw [hA1, he], _, hX.logged ha⟩
  have HEn : Hid (∀ X ol', Ad w own b B { s with log := G.app s.log x } x LB MB ol' rv X → X.cell? ⟨B, 4, none⟩ = some (.pointer (some ⟨LB, 0, none⟩)) ∧ Calls Try.prog 58 #[.pointer (some ⟨LB, 0, none⟩), .int .i64 (G.last s.log + 1)] X fun e w' => (∃ y, e = .returned (.tuple #[.agg #[.int .i64 x.1, .string x.2], y])) ∧ Ad w own b B { s with log := G.app s.log x } x LB MB ol' rv w') := by
    intro X ol' hX
    obtain ⟨own', h1, _⟩ := hX.nd
    refine ⟨h1.at 4 _ rfl, (Entry_c h1.log (G.last s.log + 1)).mono ?_⟩
    rintro e w' ⟨rfl, hb⟩
    exact ⟨⟨_, by rw [hA2]⟩, hX.below hb⟩
  have HX0 : Hid (G.appE s.log x = 0) := he
  have HBe : Hid (b = w.heap.size) := hb
  clear he hA1 hA2 hv hbu
  go_enter Try.func34, Try.ntmps34
  go_wp2
  rw [← hu, ← hb]
  clear hu hb
  have HK : Hid (∀ X st ol', Ad w own b B st x LB MB ol' rv X → X.cell? ⟨B, 4, none⟩ = some (.pointer (some ⟨LB, 0, none⟩)) ∧ X.cell? ⟨b, 0, none⟩ = some (.int .i64 x.1) ∧ X.cell? ⟨b, 1, none⟩ = some (.string x.2)) := fun X st ol' hX => by
    obtain ⟨own', h1, _⟩ := hX.nd
    exact ⟨h1.at 4 _ rfl, hX.c0, hX.c1⟩
  have hAd : Ad w own b B s x LB MB ol rv u.drew := HA.out.below (Below.refl _ _).drew
  go_region_held (fun X => X.cell? ⟨B, 4, none⟩ = some (.pointer (some ⟨LB, 0, none⟩)) ∧ X.cell? ⟨b, 0, none⟩ = some (.int .i64 x.1) ∧ X.cell? ⟨b, 1, none⟩ = some (.string x.2))
    (exact HK.out _ _ _ (by assumption))
    (first | (go_at_call 57; refine (HAp.out _ ?_).mono ?_; assumption; rintro e w2 ⟨rfl, ol2, hA2⟩))
  clear hAd
  have HA2 : Hid _ := hA2
  obtain ⟨g4, hE⟩ := HEn.out w2 ol2 hA2
  have HE : Hid _ := hE
  clear hA2 hE c0 c1 h4
  go_wp2_with fail
  refine Calls.mono HE.out ?_
  rintro e w3 ⟨⟨y, rfl⟩, hA3⟩
  have HA3 : Hid _ := hA3
  have c0 := hA3.c0
  have c1 := hA3.c1
  have f0 := hA3.f0
  have f1 := hA3.f1
  clear hA3 HE g4
  go_wp2
  obtain ⟨X, hX⟩ : ∃ X, X = (w3.setCell ⟨b, 0, none⟩ (.int .i64 x.1)).setCell ⟨b, 1, none⟩ (.string x.2) := ⟨_, rfl⟩
  rw [← hX]
  have HAX : Hid (Ad w own b B { s with log := G.app s.log x } x LB MB ol2 rv X) := by rw [hX]; exact HA3.out.again
  clear hX c0 c1 f0 f1 HA2 HA3
  obtain ⟨own', h1, h2, h3, h5, h6⟩ := HAX.out.nd
  have HN : Hid _ := h1
  have HK2 : Hid (KeptB B own w X) := h2
  have HO2 : Hid (∀ k, own' k → own k ∨ w.heap.size ≤ k) := fun k hk => by
    rcases h3 k hk with q | q
    · exact .inl q
    · exact .inr (by omega)
  obtain ⟨p, c, hrv, hc1, hc2⟩ := h1.row.form
  obtain ⟨n, hn⟩ : ∃ n, n = s.recs.length := ⟨_, rfl⟩
  have HNn : Hid (n = s.recs.length) := hn
  have hrv' : rv = .slice p n c := by rw [hn]; exact hrv
  have k0 : X.cell? ⟨B, 0, none⟩ = some (.int .i64 s.group) := h1.at 0 _ rfl
  have k34 : X.cell? ⟨B, 34, none⟩ = some (.slice p n c) := by rw [h1.cells, ndCells_rv h1.sz, hrv']
  have kb0 := HAX.out.c0
  have kb1 := HAX.out.c1
  have hlb := HAX.out.lt
  have hlB := h1.lt
  obtain ⟨li, hli⟩ : ∃ li, li = G.last s.log + 1 := ⟨_, rfl⟩
  have HLi : Hid (li = G.last s.log + 1) := hli
  obtain ⟨W, hW⟩ : ∃ W, W = (X.alloc (.cells #[.int .i64 s.group, .int .i64 2, .int .i64 li, .int .i64 x.1, .int .i64 0, .string x.2] 99)).drew := ⟨_, rfl⟩
  have HG : Hid (Below X.heap.size X W) := by rw [hW]; exact (below_alloc X _).drew
  have HR : Hid (RowC W 6 (.slice p n c) n (recCells s.group s.recs)) := by
    have := h1.row.carry (w' := W) (fun k hk => HG.out.block k (h1.here k (h1.orv k hk)).1)
    rw [hrv'] at this
    rw [hn] at this ⊢
    exact this
  have HSrc : Hid (Src Try.prog 6 55 (.slice (some ⟨X.heap.size, 0, none⟩) 1 1) 1 [.int .i64 s.group, .int .i64 2, .int .i64 li, .int .i64 x.1, .int .i64 0, .string x.2] W) := by
    refine Src.ofSlice W Try.underlying55 _ _ _ _ rfl (fun j u hu => ?_) (fun u hu => by simp at hu; rcases hu with rfl | rfl | rfl | rfl | rfl | rfl <;> rfl)
    rw [Addr.add_lit, Nat.zero_add, hW]
    show (X.alloc _).cell? _ = _
    rw [World.cell?_alloc_mark]
    simpa using hu
  have hL1 : Hid ((n + 1) * 56 ≤ 140737488355328) := by show _ ≤ _; omega
  have hL2 : Hid (n + 1 ≤ maxLen) := by unfold maxLen; show _ ≤ _; omega
  have HRv : Hid (rv = .slice p n c) := hrv'
  have HEnd : Hid (∀ w4 v', RowC w4 6 v' (n + 1) (recCells s.group s.recs ++ [.int .i64 s.group, .int .i64 2, .int .i64 li, .int .i64 x.1, .int .i64 0, .string x.2]) → W.grownBy w4 (cBlk (.slice p n c)) → (∀ k, cBlk v' = some k → cBlk (.slice p n c) = some k ∨ W.heap.size ≤ k) →
      Hid (∃ own'', AftN own w (w4.setCell ⟨B, 34, none⟩ v') B (N.add s x) own'') ∧ w4.cell? ⟨B, 34, none⟩ = some (.slice p n c) ∧ w4.frozen? ⟨B, 34, none⟩ = false ∧ ∃ p' c', v' = .slice p' (n + 1) c') := by
    intro w4 v' a1 a2 a3
    have e : N.add s x = { s with log := G.app s.log x, recs := s.recs ++ [⟨2, li, x.1, 0, x.2⟩] } := by
      unfold N.add
      rw [if_pos HX0.out, HLi.out]
    rw [← HRv.out] at a2 a3
    have := recGo (r := ⟨2, li, x.1, 0, x.2⟩) HN.out HK2.out HO2.out HNn.out HG.out a1 a2 a3
    rw [e, ← HRv.out]
    exact this
  have HS0 : Hid (∀ Y, Below X.heap.size X Y → Y.cell? ⟨B, 0, none⟩ = some (.int .i64 s.group) ∧ Y.cell? ⟨b, 0, none⟩ = some (.int .i64 x.1) ∧ Y.cell? ⟨b, 1, none⟩ = some (.string x.2)) := fun Y hY => ⟨(hY.cell (p := ⟨B, 0, none⟩) hlB).trans k0, (hY.cell (p := ⟨b, 0, none⟩) hlb).trans kb0, (hY.cell (p := ⟨b, 1, none⟩) hlb).trans kb1⟩
  have HS4 : Hid (∀ w4 v', W.grownBy w4 (cBlk (.slice p n c)) → ((fun Y : World => Y.cell? ⟨B, 0, none⟩ = some (.int .i64 s.group) ∧ Y.cell? ⟨b, 0, none⟩ = some (.int .i64 x.1) ∧ Y.cell? ⟨b, 1, none⟩ = some (.string x.2)) w4 ∧ (fun Y : World => Y.cell? ⟨B, 0, none⟩ = some (.int .i64 s.group) ∧ Y.cell? ⟨b, 0, none⟩ = some (.int .i64 x.1) ∧ Y.cell? ⟨b, 1, none⟩ = some (.string x.2)) (w4.setCell ⟨B, 34, none⟩ v'))) := by
    intro w4 v' hg
    have hbB : b ≠ B := by have := HBe.out; omega
    have hB4 : w4.heap[B]? = W.heap[B]? := hg.block B (Nat.lt_of_lt_of_le hlB HG.out.size) (fun e => (h1.here B (h1.orv B (by rw [hrv']; exact e.symm))).2 rfl)
    have hb4 : w4.heap[b]? = W.heap[b]? := hg.block b (Nat.lt_of_lt_of_le hlb HG.out.size) (fun e => by
      have h0 := HBe.out
      rcases h3 b (h1.orv b (by rw [hrv']; exact e.symm)) with q | q
      · have := h6 b q; omega
      · omega)
    obtain ⟨z0, z1, z2⟩ := HS0.out W HG.out
    have y0 : w4.cell? ⟨B, 0, none⟩ = some (.int .i64 s.group) := (World.cell?_of_block (a := ⟨B, 0, none⟩) hB4).trans z0
    have y34 : w4.cell? ⟨B, 34, none⟩ = some rv := by
      rw [World.cell?_of_block (a := ⟨B, 34, none⟩) hB4, HG.out.cell (p := ⟨B, 34, none⟩) hlB, h1.cells, ndCells_rv h1.sz]
    have y1 : w4.cell? ⟨b, 0, none⟩ = some (.int .i64 x.1) := (World.cell?_of_block (a := ⟨b, 0, none⟩) hb4).trans z1
    have y2 : w4.cell? ⟨b, 1, none⟩ = some (.string x.2) := (World.cell?_of_block (a := ⟨b, 1, none⟩) hb4).trans z2
    have hk : ∀ j, (w4.setCell ⟨B, 34, none⟩ v').cell? ⟨b, j, none⟩ = w4.cell? ⟨b, j, none⟩ := fun j => World.cell?_of_block (a := ⟨b, j, none⟩) (Below.heap_setCell _ _ _ _ hbB)
    exact ⟨⟨y0, y1, y2⟩, by show _ = _; rw [cell_set6 _ y34, if_neg (by decide)]; exact y0, by rw [hk]; exact y1, by rw [hk]; exact y2⟩
  subst hW
  rw [← hli]
  clear h1 h2 h3 h5 h6 hrv hrv' hn hr hli HA HAp HEn HK hc1 hc2
  refine wp_region_held_drew (S := fun Y => Y.cell? ⟨B, 0, none⟩ = some (.int .i64 s.group) ∧ Y.cell? ⟨b, 0, none⟩ = some (.int .i64 x.1) ∧ Y.cell? ⟨b, 1, none⟩ = some (.string x.2)) (by kernel_rfl) (HS0.out _ (Below.refl _ _).drew) (fun hHeld => ?_)
  refine take7 (i := 0) (d := 26) (v := .pointer (some ⟨B, 0, none⟩)) rfl rfl (by kernel_rfl) (by kernel_rfl) (by kernel_rfl) (fun _ _ _ h => h) (Or.inl ⟨by rfl, ?_⟩) (by assumption) ?_
  · intro X hSw
    go_simp
  simp only [Act.put, List.setIfInBounds_toArray, List.set_cons_zero, List.set_cons_succ]
  refine take7 (i := 1) (d := 27) (v := .pointer (some ⟨B, 0, none⟩)) rfl rfl (by kernel_rfl) (by kernel_rfl) (by kernel_rfl) (fun _ _ _ h => h) (Or.inl ⟨by rfl, ?_⟩) (by assumption) ?_
  · intro X hSw
    go_simp
  simp only [Act.put, List.setIfInBounds_toArray, List.set_cons_zero, List.set_cons_succ]
  refine take7 (i := 2) (d := 28) (v := .pointer (some ⟨B, 0, none⟩)) rfl rfl (by kernel_rfl) (by kernel_rfl) (by kernel_rfl) (fun _ _ _ h => h) (Or.inl ⟨by rfl, ?_⟩) (by assumption) ?_
  · intro X hSw
    go_simp
  simp only [Act.put, List.setIfInBounds_toArray, List.set_cons_zero, List.set_cons_succ]
  refine take7 (i := 3) (d := 29) (v := .pointer (some ⟨B, 34, none⟩)) rfl rfl (by kernel_rfl) (by kernel_rfl) (by kernel_rfl) (fun _ _ _ h => h) (Or.inl ⟨by rfl, ?_⟩) (by assumption) ?_
  · intro X hSw
    go_simp
  simp only [Act.put, List.setIfInBounds_toArray, List.set_cons_zero, List.set_cons_succ]
  refine take7 (i := 5) (d := 31) (v := .pointer (some ⟨B, 0, none⟩)) rfl rfl (by kernel_rfl) (by kernel_rfl) (by kernel_rfl) (fun _ _ _ h => h) (Or.inl ⟨by rfl, ?_⟩) (by assumption) ?_
  · intro X hSw
    go_simp
  simp only [Act.put, List.setIfInBounds_toArray, List.set_cons_zero, List.set_cons_succ]
  refine take7 (i := 6) (d := 32) (v := .pointer (some ⟨B, 0, none⟩)) rfl rfl (by kernel_rfl) (by kernel_rfl) (by kernel_rfl) (fun _ _ _ h => h) (Or.inl ⟨by rfl, ?_⟩) (by assumption) ?_
  · intro X hSw
    go_simp
  simp only [Act.put, List.setIfInBounds_toArray, List.set_cons_zero, List.set_cons_succ]
  refine take7 (i := 7) (d := 33) (v := .pointer (some ⟨B, 0, none⟩)) rfl rfl (by kernel_rfl) (by kernel_rfl) (by kernel_rfl) (fun _ _ _ h => h) (Or.inl ⟨by rfl, ?_⟩) (by assumption) ?_
  · intro X hSw
    go_simp
  simp only [Act.put, List.setIfInBounds_toArray, List.set_cons_zero, List.set_cons_succ]
  refine take7 (i := 8) (d := 34) (v := .int .i64 s.group) rfl rfl (by kernel_rfl) (by kernel_rfl) (by kernel_rfl) (fun _ _ _ h => h) (Or.inl ⟨by rfl, ?_⟩) (by assumption) ?_
  · intro X hSw
    go_simp
  simp only [Act.put, List.setIfInBounds_toArray, List.set_cons_zero, List.set_cons_succ]
  refine take7 (i := 9) (d := 35) (v := .int .i64 li) rfl rfl (by kernel_rfl) (by kernel_rfl) (by kernel_rfl) (fun _ _ _ h => h) (Or.inl ⟨by rfl, ?_⟩) (by assumption) ?_
  · intro X hSw
    go_simp
  simp only [Act.put, List.setIfInBounds_toArray, List.set_cons_zero, List.set_cons_succ]
  refine take7 (i := 10) (d := 36) (v := .pointer (some ⟨b, 0, none⟩)) rfl rfl (by kernel_rfl) (by kernel_rfl) (by kernel_rfl) (fun _ _ _ h => h) (Or.inl ⟨by rfl, ?_⟩) (by assumption) ?_
  · intro X hSw
    go_simp
  simp only [Act.put, List.setIfInBounds_toArray, List.set_cons_zero, List.set_cons_succ]
  refine take7 (i := 11) (d := 37) (v := .int .i64 x.1) rfl rfl (by kernel_rfl) (by kernel_rfl) (by kernel_rfl) (fun _ _ _ h => h) (Or.inl ⟨by rfl, ?_⟩) (by assumption) ?_
  · intro X hSw
    go_simp
  simp only [Act.put, List.setIfInBounds_toArray, List.set_cons_zero, List.set_cons_succ]
  refine take7 (i := 12) (d := 38) (v := .pointer (some ⟨b, 1, none⟩)) rfl rfl (by kernel_rfl) (by kernel_rfl) (by kernel_rfl) (fun _ _ _ h => h) (Or.inl ⟨by rfl, ?_⟩) (by assumption) ?_
  · intro X hSw
    go_simp
  simp only [Act.put, List.setIfInBounds_toArray, List.set_cons_zero, List.set_cons_succ]
  refine take7 (i := 13) (d := 39) (v := .string x.2) rfl rfl (by kernel_rfl) (by kernel_rfl) (by kernel_rfl) (fun _ _ _ h => h) (Or.inl ⟨by rfl, ?_⟩) (by assumption) ?_
  · intro X hSw
    go_simp
  simp only [Act.put, List.setIfInBounds_toArray, List.set_cons_zero, List.set_cons_succ]
  refine take7 (i := 14) (d := 40) (v := .agg #[.int .i64 s.group, .int .i64 2, .int .i64 li, .int .i64 x.1, .int .i64 0, .string x.2]) rfl rfl (by kernel_rfl) (by kernel_rfl) (by kernel_rfl) (fun _ _ _ h => h) (Or.inl ⟨by rfl, ?_⟩) (by assumption) ?_
  · intro X hSw
    go_simp
  simp only [Act.put, List.setIfInBounds_toArray, List.set_cons_zero, List.set_cons_succ]
  refine wpAnyH_ready (rs := [4, 15]) (by kernel_rfl) (by simp) ?_
  refine AllReadyH.cons rfl (fun K hK => ?_) (AllReadyH.cons rfl (fun K hK => ?_) AllReadyH.nil)
  · go_simp
    refine hK.out _ _ (HS0.out _ (Below.refl _ _).drew) (fun hHeld2 => ?_)
    clear hK K hHeld
    refine wpAnyH_ready (rs := [15]) (by kernel_rfl) (by simp) ?_
    refine AllReadyH.cons rfl (fun K hK => ?_) AllReadyH.nil
    go_simp
    refine hK.out _ _ (HS0.out _ HG.out) (fun hHeld3 => ?_)
    clear hK K hHeld2
    refine wpAnyH_ready (rs := [16]) (by kernel_rfl) (by simp) ?_
    refine AllReadyH.cons rfl (fun K hK => ?_) AllReadyH.nil
    refine step7 42 rfl rfl (.tmp 30) (.tmp 41) 55 55 99 rfl Try.underlying55 _ 6 56 infoRec rfl (.slice p n c) n (recCells s.group s.recs) (by simp [Act.eval]) HR.out _ 1 _ (by simp [Act.eval]) HSrc.out hL1.out hL2.out ?_
    intro v' w4 ho hg hl
    obtain ⟨H1, c1, g1, ⟨p', c', hv'⟩⟩ := HEnd.out w4 v' ho hg hl
    obtain ⟨s4, s5⟩ := HS4.out w4 v' hg
    have HS5 : Hid _ := s5
    subst hv'
    clear ho hg hl s5
    refine hK.out _ _ s4 (fun hHeld4 => ?_)
    clear hK K hHeld3
    simp only [Act.put, List.setIfInBounds_toArray, List.set_cons_zero, List.set_cons_succ]
    refine take7 (i := 17) (d := 43) (v := .pointer (some ⟨B, 0, none⟩)) rfl rfl (by kernel_rfl) (by kernel_rfl) (by kernel_rfl) (fun _ _ _ h => h) (Or.inl ⟨by rfl, ?_⟩) (by assumption) ?_
    · intro X hSw
      go_simp
    simp only [Act.put, List.setIfInBounds_toArray, List.set_cons_zero, List.set_cons_succ]
    refine take7 (i := 18) (d := 44) (v := .pointer (some ⟨B, 34, none⟩)) rfl rfl (by kernel_rfl) (by kernel_rfl) (by kernel_rfl) (fun _ _ _ h => h) (Or.inl ⟨by rfl, ?_⟩) (by assumption) ?_
    · intro X hSw
      go_simp
    simp only [Act.put, List.setIfInBounds_toArray, List.set_cons_zero, List.set_cons_succ]
    refine wpAnyH_ready (rs := [19]) (by kernel_rfl) (by simp) ?_
    refine AllReadyH.cons rfl (fun K hK => ?_) AllReadyH.nil
    go_simp
    refine hK.out _ _ HS5.out (fun hHeld5 => ?_)
    clear hK K hHeld4 s4 HS5
    refine wpAnyH_done (by kernel_rfl) ?_ _
    clear hHeld5
    go_wp2
    exact bodyPost_end (v := .tuple #[]) (by simp [results, Try.results34]) rfl ⟨rfl, H1.out⟩
  · go_simp
    refine hK.out _ _ (HS0.out _ (below_alloc _ _).drew) (fun hHeld2 => ?_)
    clear hK K hHeld
    refine wpAnyH_ready (rs := [4]) (by kernel_rfl) (by simp) ?_
    refine AllReadyH.cons rfl (fun K hK => ?_) AllReadyH.nil
    go_simp
    refine hK.out _ _ (HS0.out _ HG.out) (fun hHeld3 => ?_)
    clear hK K hHeld2
    refine wpAnyH_ready (rs := [16]) (by kernel_rfl) (by simp) ?_
    refine AllReadyH.cons rfl (fun K hK => ?_) AllReadyH.nil
    refine step7 42 rfl rfl (.tmp 30) (.tmp 41) 55 55 99 rfl Try.underlying55 _ 6 56 infoRec rfl (.slice p n c) n (recCells s.group s.recs) (by simp [Act.eval]) HR.out _ 1 _ (by simp [Act.eval]) HSrc.out hL1.out hL2.out ?_
    intro v' w4 ho hg hl
    obtain ⟨H1, c1, g1, ⟨p', c', hv'⟩⟩ := HEnd.out w4 v' ho hg hl
    obtain ⟨s4, s5⟩ := HS4.out w4 v' hg
    have HS5 : Hid _ := s5
    subst hv'
    clear ho hg hl s5
    refine hK.out _ _ s4 (fun hHeld4 => ?_)
    clear hK K hHeld3
    simp only [Act.put, List.setIfInBounds_toArray, List.set_cons_zero, List.set_cons_succ]
    refine take7 (i := 17) (d := 43) (v := .pointer (some ⟨B, 0, none⟩)) rfl rfl (by kernel_rfl) (by kernel_rfl) (by kernel_rfl) (fun _ _ _ h => h) (Or.inl ⟨by rfl, ?_⟩) (by assumption) ?_
    · intro X hSw
      go_simp
    simp only [Act.put, List.setIfInBounds_toArray, List.set_cons_zero, List.set_cons_succ]
    refine take7 (i := 18) (d := 44) (v := .pointer (some ⟨B, 34, none⟩)) rfl rfl (by kernel_rfl) (by kernel_rfl) (by kernel_rfl) (fun _ _ _ h => h) (Or.inl ⟨by rfl, ?_⟩) (by assumption) ?_
    · intro X hSw
      go_simp
    simp only [Act.put, List.setIfInBounds_toArray, List.set_cons_zero, List.set_cons_succ]
    refine wpAnyH_ready (rs := [19]) (by kernel_rfl) (by simp) ?_
    refine AllReadyH.cons rfl (fun K hK => ?_) AllReadyH.nil
    go_simp
    refine hK.out _ _ HS5.out (fun hHeld5 => ?_)
    clear hK K hHeld4 s4 HS5
    refine wpAnyH_done (by kernel_rfl) ?_ _
    clear hHeld5
    go_wp2
    exact bodyPost_end (v := .tuple #[]) (by simp [results, Try.results34]) rfl ⟨rfl, H1.out⟩

set_option maxHeartbeats 800000 in
set_option maxRecDepth 20000 in
theorem add_no (h : Nd w B s own) (x : Int × ByteArray) (he : G.appE s.log x ≠ 0) :
    Calls Try.prog 34 #[.pointer (some ⟨B, 0, none⟩), .agg #[.int .i64 x.1, .string x.2]] w fun e w' => e = .returned (.tuple #[]) ∧ ∃ own', AftN own w w' B (N.add s x) own' := by
  obtain ⟨LB, MB, ol, rv, hv⟩ := h
  obtain ⟨u, hu⟩ : ∃ u, u = w.alloc (.cells #[.int .i64 x.1, .string x.2] 79) := ⟨_, rfl⟩
  obtain ⟨b, hb⟩ : ∃ b, b = w.heap.size := ⟨_, rfl⟩
  have hbu : Below w.heap.size w u := by rw [hu]; exact below_alloc _ _
  have HA : Hid (Ad w own b B s x LB MB ol rv u) := by
    refine ⟨hb, by rw [hu, hb]; simp, by rw [hu, hb]; exact World.cell?_alloc_mark w _ _ _ 0, by rw [hu, hb]; exact World.cell?_alloc_mark w _ _ _ 1, by rw [hu, hb, World.frozen?_alloc_mark]; simp, by rw [hu, hb, World.frozen?_alloc_mark]; simp, own, hv.below hbu, KeptB.ofBelow hbu, fun k hk => .inl hk, hv.lt, fun k hk => (hv.here k hk).1⟩
  have h4 : u.cell? ⟨B, 4, none⟩ = some (.pointer (some ⟨LB, 0, none⟩)) := (hv.below hbu).at 4 _ rfl
  have c0 := HA.out.c0
  have c1 := HA.out.c1
  obtain ⟨ce, hce⟩ : ∃ ce, ce = G.appE s.log x := ⟨_, rfl⟩
  have HAp : Hid (∀ X, Ad w own b B s x LB MB ol rv X → Calls Try.prog 57 #[.pointer (some ⟨LB, 0, none⟩), .agg #[.int .i64 x.1, .string x.2]] X fun e w' => e = .returned (.tuple #[.int .i64 0, .int .i64 ce]) ∧ ∃ ol', Ad w own b B s x LB MB ol' rv w') := by
    intro X hX
    obtain ⟨own', h1, _⟩ := hX.nd
    refine (Append_c h1.log x).mono ?_
    rintro e w' ⟨rfl, ha⟩
    have e1 : G.app s.log x = s.log := by unfold G.app; rw [if_neg he]
    have e2 : G.appA s.log x = 0 := by unfold G.appA; rw [if_neg he]
    rw [e1] at ha
    exact ⟨by rw [e2, hce], _, hX.logged ha⟩
  have hne : (ce != 0) = true := by rw [hce]; simpa using he
  have HSt : Hid (N.add s x = s) := by show N.add s x = s; unfold N.add; rw [if_neg he]
  clear he hv hbu hce
  go_enter Try.func34, Try.ntmps34
  go_wp2
  rw [← hu, ← hb]
  clear hu hb
  have HK : Hid (∀ X st ol', Ad w own b B st x LB MB ol' rv X → X.cell? ⟨B, 4, none⟩ = some (.pointer (some ⟨LB, 0, none⟩)) ∧ X.cell? ⟨b, 0, none⟩ = some (.int .i64 x.1) ∧ X.cell? ⟨b, 1, none⟩ = some (.string x.2)) := fun X st ol' hX => by
    obtain ⟨own', h1, _⟩ := hX.nd
    exact ⟨h1.at 4 _ rfl, hX.c0, hX.c1⟩
  have hAd : Ad w own b B s x LB MB ol rv u.drew := HA.out.below (Below.refl _ _).drew
  go_region_held (fun X => X.cell? ⟨B, 4, none⟩ = some (.pointer (some ⟨LB, 0, none⟩)) ∧ X.cell? ⟨b, 0, none⟩ = some (.int .i64 x.1) ∧ X.cell? ⟨b, 1, none⟩ = some (.string x.2))
    (exact HK.out _ _ _ (by assumption))
    (first | (go_at_call 57; refine (HAp.out _ ?_).mono ?_; assumption; rintro e w2 ⟨rfl, ol2, hA2⟩))
  clear hAd
  have HA2 : Hid _ := hA2
  clear hA2 c0 c1 h4
  go_wp2
  refine bodyPost_ret (v := .tuple #[]) (by simp [results, Try.results34]) rfl ?_
  obtain ⟨own', h1, h2, h3, h5, h6⟩ := HA2.out.nd
  exact ⟨rfl, own', by rw [HSt.out]; exact ⟨h1.nd, h2, fun k hk => by
    rcases h3 k hk with q | q
    · exact .inl q
    · exact .inr (by omega)⟩⟩

theorem add_c (h : Nd w B s own) (x : Int × ByteArray) (hr : s.recs.length ≤ 1000000000) :
    Calls Try.prog 34 #[.pointer (some ⟨B, 0, none⟩), .agg #[.int .i64 x.1, .string x.2]] w fun e w' => e = .returned (.tuple #[]) ∧ ∃ own', AftN own w w' B (N.add s x) own' := by
  by_cases he : G.appE s.log x = 0
  · exact add_yes h x he hr
  · exact add_no h x he

end
end Go.Proofs.Yteaopnhjndnpnaa
