/-
  A command in its box, an answer's place, what is told.
-/
import Derived.Test.YtepbmfjimppgcaaMeCall
import Derived.Deep.RegionHeld3
namespace Go.Proofs.Ytepbmfjimppgcaa
open Go.RowKit

/-- An operation that only reads is taken first. -/
theorem takeM {P : Program} {md : Region.Mode} {ops : Array Oper} {Q : Exit → Act → World → Prop} {S : World → Prop} {i d : Nat} {oi : Oper} {v : Value} {fuel : Nat} {listed : Array Bool} {a : Act} {w : World} (hi : ops[i]? = some oi) (hd : oi.dst = some d)
    (hs : Region.noSelect ops = true) (hf : Region.free md ops listed i = true) (hr : (Region.ready md ops listed).contains i = true)
    (hQ : ∀ c a w, Q (.panic c) (a.put (some d) v) w → Q (.panic c) a w) (hy : YieldsIf P ops S oi v a) (hS : S w)
    (h : wpAnyH P md ops Q S fuel (listed.setIfInBounds i true) (a.put (some d) v) w) : wpAnyH P md ops Q S (fuel + 1) listed a w :=
  wpAnyH_take hi hs hf hr (by rw [hd]; exact hQ) hy hS (by rw [hd]; exact h)

/-- A command's cells. -/
def cmdL (c : Me.Cd) : List Value := [.int .i64 c.kind, .int .i64 c.a, .int .i64 c.b, .int .i64 c.op.kind, .string c.op.space, .string c.op.channel, .string c.op.user, .string c.op.text, .string c.op.toSpace, .string c.op.to, .int .i64 c.op.frm, .int .i64 c.op.most, .int .i64 c.tx, .int .i64 c.plan, .int .i64 c.slot, .int .i64 c.epoch, .int .i64 c.group, .bool c.ok, .int .i64 c.err, .string c.data]
def cmdV (c : Me.Cd) : Value := .agg (cmdL c).toArray
theorem cmdInfo : (Try.prog.info? 39).map (·.size) = some 20 := by kernel_rfl

/-- The command's box and the answer's, behind w; who has what in w. -/
structure Bc (w u : World) (bc br : Nat) (who : Nat → Nat) (cs : List Value) : Prop where
  old : Below w.heap.size w u
  lo : w.heap.size ≤ bc ∧ bc < br ∧ br < u.heap.size
  no : who bc = 0 ∧ who br = 0
  c : ∀ X, KeptQ who u X → ∀ j v, cs[j]? = some v → X.cell? ⟨bc, j, none⟩ = some v
  r : ∀ X, KeptQ who u X → (X.cell? ⟨br, 0, none⟩ = some (.int .i64 0) ∧ X.cell? ⟨br, 1, none⟩ = some (.int .i64 0) ∧ X.cell? ⟨br, 2, none⟩ = some (.slice none 0 0)) ∧ X.frozen? ⟨br, 0, none⟩ = false ∧ X.frozen? ⟨br, 1, none⟩ = false ∧ X.frozen? ⟨br, 2, none⟩ = false
theorem Bc.of {w : World} {who : Nat → Nat} (hw : ∀ k, who k ≠ 0 → k < w.heap.size) (cs : List Value) {u0 u : World} {T T' : TypeId} (h0 : u0 = w.alloc (.cells cs.toArray T)) (h1 : u = u0.alloc (.cells #[.int .i64 0, .int .i64 0, .slice none 0 0] T')) : Bc w u w.heap.size (w.heap.size + 1) who cs := by
  have s0 : u0.heap.size = w.heap.size + 1 := by rw [h0]; simp
  have s1 : u.heap.size = w.heap.size + 2 := by rw [h1]; simp [s0]
  have b0 : Below w.heap.size w u0 := by rw [h0]; exact below_alloc _ _
  have b1 : Below u0.heap.size u0 u := by rw [h1]; exact below_alloc _ _
  have n0 : who w.heap.size = 0 := Classical.byContradiction fun h => by have := hw _ h; omega
  have n1 : who (w.heap.size + 1) = 0 := Classical.byContradiction fun h => by have := hw _ h; omega
  have hk : ∀ X, KeptQ who u X → X.heap[w.heap.size]? = u.heap[w.heap.size]? ∧ X.heap[w.heap.size + 1]? = u.heap[w.heap.size + 1]? := fun X hX => ⟨hX.block _ (by omega) n0, hX.block _ (by omega) n1⟩
  refine ⟨b0.trans (b1.mono b0.size), by omega, ⟨n0, n1⟩, fun X hX j v hv => ?_, fun X hX => ?_⟩
  · rw [World.cell?_of_block (a := ⟨w.heap.size, j, none⟩) (hk X hX).1, b1.cell (p := ⟨w.heap.size, j, none⟩) (by show w.heap.size < _; omega), h0, World.cell?_alloc_mark]
    simpa using hv
  · have e : ∀ j, X.cell? ⟨w.heap.size + 1, j, none⟩ = (#[.int .i64 0, .int .i64 0, .slice none 0 0] : Array Value)[j]? := fun j => by
      rw [World.cell?_of_block (a := ⟨w.heap.size + 1, j, none⟩) (hk X hX).2, h1, ← s0]
      exact World.cell?_alloc_mark u0 _ _ _ j
    have f : ∀ j, X.frozen? ⟨w.heap.size + 1, j, none⟩ = false := fun j => by
      rw [World.frozen?_of_block (a := ⟨w.heap.size + 1, j, none⟩) (hk X hX).2, h1, ← s0, World.frozen?_alloc_mark]
      simp
    exact ⟨⟨e 0, e 1, e 2⟩, f 0, f 1, f 2⟩
theorem Bc.range {w u : World} {bc br : Nat} {who : Nat → Nat} {cs : List Value} (h : Bc w u bc br who cs) {X : World} (hX : KeptQ who u X) : X.rangeAt bc 0 cs := fun j v hv => by rw [Nat.zero_add]; exact h.c X hX j v hv

/-- An answer is told: nothing else is changed. -/
theorem AftT.fin {w u X : World} {bc br B n : Nat} {q : Me.St} {who who' : Nat → Nat} {cs : List Value} (h : AftT who u X B q n who') (hb : Bc w u bc br who cs) (vs : List Value) : AftT who w (putS X br vs) B q n who' := by
  have hn : who' br = 0 := h.2.1 br hb.lo.2.2 hb.no.2
  have h1 : AftT who w X B q n who' := h.from hb.old
  exact ⟨h.1.carry (by rw [putS_size]; exact Nat.le_refl _) (fun i hi => putS_heap (fun e => hi (by rw [e]; exact hn)) vs), h1.2.1, h1.2.2.grown (grown_setCells X br 0 vs) fun k hk hl => by
    injection hk with hk
    have := hb.lo
    omega⟩
theorem Bc.told {w u : World} {bc br : Nat} {who : Nat → Nat} {cs : List Value} (h : Bc w u bc br who cs) {X : World} (hX : KeptQ who u X) (v0 v1 v2 : Value) : (putS X br [v0, v1, v2]).cell? ⟨br, 0, none⟩ = some v0 ∧ (putS X br [v0, v1, v2]).cell? ⟨br, 1, none⟩ = some v1 ∧ (putS X br [v0, v1, v2]).cell? ⟨br, 2, none⟩ = some v2 := by
  obtain ⟨⟨r0, r1, r2⟩, f0, f1, f2⟩ := h.r X hX
  have ht : ∀ j, j < ([v0, v1, v2] : List Value).length → (X.cell? ⟨br, j, none⟩).isSome = true ∧ X.frozen? ⟨br, j, none⟩ = false := fun j hj => by
    match j, hj with
    | 0, _ => exact ⟨by rw [r0]; rfl, f0⟩
    | 1, _ => exact ⟨by rw [r1]; rfl, f1⟩
    | 2, _ => exact ⟨by rw [r2]; rfl, f2⟩
  exact ⟨putS_at ht rfl, putS_at ht rfl, putS_at ht rfl⟩

/-! ### stores into the machine's block -/
theorem setCells_at {b : Nat} : ∀ (vs : List Value) (o : Nat) (X : World), (∀ j, j < vs.length → (X.cell? ⟨b, o + j, none⟩).isSome = true) → ∀ q, (X.setCells b o vs).cell? ⟨b, q, none⟩ = if o ≤ q ∧ q < o + vs.length then vs[q - o]? else X.cell? ⟨b, q, none⟩
  | [], o, X, _, q => by rw [if_neg (by simp)]; rfl
  | v :: vs, o, X, h, q => by
    have h0 := h 0 (by simp)
    rw [Nat.add_zero] at h0
    obtain ⟨y, hy⟩ := Option.isSome_iff_exists.1 h0
    have hc : ∀ q, (X.setCell ⟨b, o, none⟩ v).cell? ⟨b, q, none⟩ = if q = o then some v else X.cell? ⟨b, q, none⟩ := fun q => sl_cell_set6 v hy q
    rw [World.setCells, setCells_at vs (o + 1) _ (fun j hj => by
      rw [hc]
      split
      · rfl
      · rw [show o + 1 + j = o + (j + 1) by omega]; exact h (j + 1) (by simp; omega)) q, hc]
    by_cases e : q = o
    · subst e
      rw [if_neg (by omega), if_pos rfl, if_pos (by simp)]
      simp
    · rw [if_neg e]
      by_cases e2 : o + 1 ≤ q ∧ q < o + 1 + vs.length
      · rw [if_pos e2, if_pos (by simp; omega), show q - o = (q - (o + 1)) + 1 by omega]
        rfl
      · rw [if_neg e2, if_neg (by simp; omega)]
def plL (p : Me.Pl) : List Value := [.int .i64 p.plan, .int .i64 p.slot, .int .i64 p.frm, .int .i64 p.to, .int .i64 p.epoch, .bool p.frozen, .string p.data]
theorem MqB.plAt {w : World} {B : Nat} {q : Me.St} {ob tb : Nat} {wv : Value} (h : MqB w B q ob tb wv) : ∀ j, j < 7 → w.cell? ⟨B, 5 + j, none⟩ = (plL q.pl)[j]?
  | 0, _ => h.c5
  | 1, _ => h.c6
  | 2, _ => h.c7
  | 3, _ => h.c8
  | 4, _ => h.c9
  | 5, _ => h.c10
  | 6, _ => h.c11
theorem MqB.setPl {w : World} {B : Nat} {q : Me.St} {ob tb : Nat} {wv : Value} (h : MqB w B q ob tb wv) (p : Me.Pl) (o : Nat) (vs : List Value) (ho : o + vs.length ≤ 7) (hv : ∀ j, j < 7 → (if o ≤ j ∧ j < o + vs.length then vs[j - o]? else (plL q.pl)[j]?) = (plL p)[j]?) : MqB (w.setCells B (5 + o) vs) B { q with pl := p } ob tb wv := by
  have hat := setCells_at (b := B) vs (5 + o) w (fun j hj => by
    rw [Nat.add_assoc, h.plAt (o + j) (by omega), List.getElem?_eq_getElem (by show o + j < 7; omega)]
    rfl)
  have key : ∀ j, j < 7 → (w.setCells B (5 + o) vs).cell? ⟨B, 5 + j, none⟩ = (plL p)[j]? := fun j hj => by
    rw [hat, ← hv j hj, h.plAt j hj]
    by_cases e : o ≤ j ∧ j < o + vs.length
    · rw [if_pos e, if_pos (by omega), show 5 + j - (5 + o) = j - o by omega]
    · rw [if_neg e, if_neg (by omega)]
  have low : ∀ j, j < 5 → (w.setCells B (5 + o) vs).cell? ⟨B, j, none⟩ = w.cell? ⟨B, j, none⟩ := fun j hj => by rw [hat, if_neg (by omega)]
  exact ⟨(low 0 (by omega)).trans h.c0, (low 1 (by omega)).trans h.c1, (low 2 (by omega)).trans h.c2, (low 3 (by omega)).trans h.c3, (low 4 (by omega)).trans h.c4, key 0 (by omega), key 1 (by omega), key 2 (by omega), key 3 (by omega), key 4 (by omega), key 5 (by omega), key 6 (by omega), fun j => by rw [World.frozen?_setCells]; exact h.fz j⟩
/-- Another plan. -/
theorem AftT.setPl {u X : World} {B n : Nat} {q : Me.St} {who who' : Nat → Nat} (h : AftT who u X B q n who') (p : Me.Pl) (o : Nat) (vs : List Value) (ho : o + vs.length ≤ 7) (hv : ∀ j, j < 7 → (if o ≤ j ∧ j < o + vs.length then vs[j - o]? else (plL q.pl)[j]?) = (plL p)[j]?) (hp : p.data.size ≤ maxLen) : AftT who u (X.setCells B (5 + o) vs) B { q with pl := p } n who' := by
  obtain ⟨⟨h0, ob, tb, tm, wv, vb, eb, h1⟩, h2, h3⟩ := h
  refine ⟨⟨⟨h0.tx, h0.few, h0.ans, h0.np, h0.grp, hp, h0.sq⟩, ob, tb, tm, wv, vb, eb, h1.b.setPl p o vs ho hv, h1.r.carry (q' := { q with pl := p }) h0.np (by rw [size_setCells6]; exact Nat.le_refl _) (fun i hi => heap_setCells6 B (fun e => by rw [e, h1.wB] at hi; omega) vs _ X) rfl rfl rfl rfl, h1.wB⟩, h2, h3.grown (grown_setCells X B _ vs) fun k hk hl => ?_⟩
  injection hk with hk
  subst hk
  intro e
  have := h2 _ hl e
  rw [h1.wB] at this
  omega
/-- Another map of owners. -/
theorem Mt.give {u X : World} {B n ob : Nat} {q : Me.St} {who : Nat → Nat} {s : Sl.St} (h0 : Me.Ok n q) {tb tm : Nat} {wv : Value} {vb eb : Nat → Nat} (h : Mq u B q who ob tb tm wv vb eb) (ha : AftS u X ob s) : AftT who u X B { q with own := s } n who := by
  have hB : ∀ i, who i ≠ 0 → who i ≠ 2 → X.heap[i]? = u.heap[i]? := fun i hi h2 => ha.2.block i (h.r.here i hi) (fun e => h2 (by rw [e, h.r.wo])) (fun e => e)
  have hs := ha.2.size
  refine ⟨⟨⟨h0.tx, h0.few, h0.ans, h0.np, h0.grp, h0.pl, h0.sq⟩, ob, tb, tm, wv, vb, eb, ?_, ⟨ha.1, h.r.tab.carry0 h0.np (hB tb (by rw [h.r.wt]; omega) (by rw [h.r.wt]; omega)) (hB tm (by rw [h.r.wm]; omega) (by rw [h.r.wm]; omega)), h.r.row.carry fun k hk => hB k (by rw [h.r.wr k hk]; omega) (by rw [h.r.wr k hk]; omega), fun i t ht => ?_, h.r.wo, h.r.wt, h.r.wm, h.r.wr, fun k hk => Nat.lt_of_lt_of_le (h.r.here k hk) hs⟩, h.wB⟩, fun _ _ e => e, ?_⟩
  · have := h.b.carry (hB B (by rw [h.wB]; omega) (by rw [h.wB]; omega))
    exact ⟨this.c0, this.c1, this.c2, this.c3, this.c4, this.c5, this.c6, this.c7, this.c8, this.c9, this.c10, this.c11, this.fz⟩
  · obtain ⟨⟨m1, m2⟩, m3, m4⟩ := h.r.mv i t ht
    exact ⟨⟨m1.carry (hB _ (by rw [m2]; omega) (by rw [m2]; omega)), m2⟩, m3.carry (hB _ (by rw [m4]; omega) (by rw [m4]; omega)), m4⟩
  · exact ⟨ha.2.os, ha.2.tape, ha.2.output, hs, fun k hk hz => ha.2.block k hk (fun e => by rw [e, h.r.wo] at hz; omega) (fun e => e)⟩
end Go.Proofs.Ytepbmfjimppgcaa
