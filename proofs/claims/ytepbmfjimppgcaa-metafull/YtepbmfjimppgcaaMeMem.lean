/-
  The meta group's machine in memory: maps of votes and ends, a transaction's cells, the machine's own block.
-/
import Derived.Test.YtepbmfjimppgcaaMeMath
import Derived.Test.YtepbmfjimppgcaaClone
namespace Go.Proofs.Ytepbmfjimppgcaa
open Go.RowKit Go.WideMaps
open Go.MapKept

/-! ### maps of votes and ends -/
def vsM (vs : List (Int × Int)) : List (Int × Value) := vs.map fun p => (p.1, .int .i64 p.2)
def esM (es : List (Int × Unit)) : List (Int × Value) := es.map fun p => (p.1, .agg #[])
theorem vsM_len (vs : List (Int × Int)) : (vsM vs).length = vs.length := by simp [vsM]
theorem esM_len (es : List (Int × Unit)) : (esM es).length = es.length := by simp [esM]
theorem vget_vsM (x : Int) : ∀ vs : List (Int × Int), vget (vsM vs) x = (Me.at? vs x).map (Value.int .i64)
  | [] => rfl
  | (k, v) :: r => by
    show (if k = x then some (Value.int .i64 v) else vget (vsM r) x) = _
    rw [vget_vsM x r, Me.at?]
    split <;> rfl
theorem vget_esM (x : Int) : ∀ es : List (Int × Unit), vget (esM es) x = (Me.at? es x).map fun _ => Value.agg #[]
  | [] => rfl
  | (k, v) :: r => by
    show (if k = x then some (Value.agg #[]) else vget (esM r) x) = _
    rw [vget_esM x r, Me.at?]
    split <;> rfl
theorem ins_vsM (x v : Int) : ∀ vs : List (Int × Int), vsM (Se.ins x v vs) = Se.ins x (.int .i64 v) (vsM vs)
  | [] => rfl
  | (k, u) :: r => by
    have ih := ins_vsM x v r
    unfold vsM at ih ⊢
    simp only [Se.ins, List.map_cons]
    split
    · rfl
    · split
      · rfl
      · rw [List.map_cons, ih]
theorem ins_esM (x : Int) : ∀ es : List (Int × Unit), esM (Se.ins x () es) = Se.ins x (.agg #[]) (esM es)
  | [] => rfl
  | (k, u) :: r => by
    have ih := ins_esM x r
    unfold esM at ih ⊢
    simp only [Se.ins, List.map_cons]
    split
    · rfl
    · split
      · rfl
      · rw [List.map_cons, ih]

theorem zeroErr (w : World) : (zeroValue 24).run Try.prog w = .ok (.int .i64 0) w := by kernel_rfl
theorem zeroUnitM (w : World) : (zeroValue 90).run Try.prog w = .ok (.agg #[]) w := by kernel_rfl
section
variable {w : World} {mb : Nat} {vs : List (Int × Int)} {es : List (Int × Unit)}
set_option maxRecDepth 20000 in
theorem Mi.lookV (h : Mi w mb (vsM vs)) {x : Int} (hx : se_In64 x) :
    (Instr.lookup 67 (.map (some mb)) (.int .i64 x) true).run Try.prog w = .ok (.tuple #[.int .i64 ((Me.at? vs x).getD 0), .bool (Me.at? vs x).isSome]) w := by
  obtain ⟨v, ps, h1, h2⟩ := World.ownsMap.look_ok h intKeyed Try.underlying67 (zeroErr w) (zd := .held (.int .i64 0)) (zp := []) rfl (keyInt hx)
  rw [dat_has] at h1
  rw [dat_at] at h2
  injection h2 with h2
  injection h2 with h2 _
  injection h2 with h2
  rw [h1, h2, vget_vsM]
  cases Me.at? vs x <;> rfl
set_option maxRecDepth 20000 in
theorem Mi.look1 (h : Mi w mb (vsM vs)) {x : Int} (hx : se_In64 x) :
    (Instr.lookup 67 (.map (some mb)) (.int .i64 x) false).run Try.prog w = .ok (.int .i64 ((Me.at? vs x).getD 0)) w := by
  obtain ⟨v, ps, h1, h2⟩ := World.ownsMap.lookup h intKeyed Try.underlying67 (zeroErr w) (zd := .held (.int .i64 0)) (zp := []) rfl (keyInt hx)
  rw [dat_at] at h2
  injection h2 with h2
  injection h2 with h2 _
  injection h2 with h2
  rw [h1, h2, vget_vsM]
  cases Me.at? vs x <;> rfl
set_option maxRecDepth 20000 in
theorem Mi.lookE (h : Mi w mb (esM es)) {x : Int} (hx : se_In64 x) :
    (Instr.lookup 68 (.map (some mb)) (.int .i64 x) true).run Try.prog w = .ok (.tuple #[.agg #[], .bool (Me.at? es x).isSome]) w := by
  obtain ⟨v, ps, h1, h2⟩ := World.ownsMap.look_ok h intKeyed Try.underlying68 (zeroUnitM w) (zd := .held (.agg #[])) (zp := []) rfl (keyInt hx)
  rw [dat_has] at h1
  rw [dat_at] at h2
  injection h2 with h2
  injection h2 with h2 _
  injection h2 with h2
  rw [h1, h2, vget_esM]
  cases Me.at? es x <;> rfl
set_option maxRecDepth 20000 in
theorem Mi.lenV (h : Mi w mb (vsM vs)) (ty : TypeId) : (Builtin.len_ #[67] ty #[.map (some mb)]).run Try.prog w = .ok (.int .i64 (vs.length : Int)) w := by
  rw [World.ownsMap.len h Try.underlying67 ty]
  simp [Maps.size, dat, vsM]
set_option maxRecDepth 20000 in
theorem Mi.putV (h : Mi w mb (vsM vs)) (hn : vs.length < 1000) {x : Int} (hx : se_In64 x) (v : Int) :
    ∃ w', (Instr.mapUpdate 67 (.map (some mb)) (.int .i64 x) (.int .i64 v)).run Try.prog w = .ok () w' ∧ w.mapTurned w' mb ∧ Mi w' mb (vsM (Se.ins x v vs)) := by
  obtain ⟨w', hr, ho, ht⟩ := World.ownsMap.store h intKeyed Try.underlying67 (by rw [vsM_len]; unfold maxLen; omega) (keyInt hx) (val := .int .i64 v) (d := .held (.int .i64 v)) (ps := []) rfl
  refine ⟨w', hr, ht, Mi.of (n := (vsM vs).length + 1) ?_⟩
  have e : dat (vsM (Se.ins x v vs)) = (dat (vsM vs)).put (.int .i64 x) (.held (.int .i64 v)) := by
    rw [ins_vsM]
    show _ = DataW.map _
    rw [dat_insert x _ _ h.rise]
    rfl
  rw [e]
  exact ho
set_option maxRecDepth 20000 in
theorem Mi.putE (h : Mi w mb (esM es)) (hn : es.length < 1000) {x : Int} (hx : se_In64 x) :
    ∃ w', (Instr.mapUpdate 68 (.map (some mb)) (.int .i64 x) (.agg #[])).run Try.prog w = .ok () w' ∧ w.mapTurned w' mb ∧ Mi w' mb (esM (Se.ins x () es)) := by
  obtain ⟨w', hr, ho, ht⟩ := World.ownsMap.store h intKeyed Try.underlying68 (by rw [esM_len]; unfold maxLen; omega) (keyInt hx) (val := .agg #[]) (d := .held (.agg #[])) (ps := []) rfl
  refine ⟨w', hr, ht, Mi.of (n := (esM es).length + 1) ?_⟩
  have e : dat (esM (Se.ins x () es)) = (dat (esM es)).put (.int .i64 x) (.held (.agg #[])) := by
    rw [ins_esM]
    show _ = DataW.map _
    rw [dat_insert x _ _ h.rise]
    rfl
  rw [e]
  exact ho
theorem Mi.nil (hb : w.heap[mb]? = some (.map #[] 0)) : Mi w mb [] := ⟨#[], 0, hb, ⟨by simp, stamped_empty 0, by simp⟩, Nat.le_refl _, rfl⟩
end

/-! ### transactions in a row -/
def opC (o : Mo.Op) : List Value := [.int .i64 o.kind, .string o.space, .string o.channel, .string o.user, .string o.text, .string o.toSpace, .string o.to, .int .i64 o.frm, .int .i64 o.most]
def txC (t : Me.Tx) (v e : Nat) : List Value := [.int .i64 t.a, .int .i64 t.b, .int .i64 t.op.kind, .string t.op.space, .string t.op.channel, .string t.op.user, .string t.op.text, .string t.op.toSpace, .string t.op.to, .int .i64 t.op.frm, .int .i64 t.op.most, .map (some v), .map (some e), .string t.data]
def txV (t : Me.Tx) (v e : Nat) : Value := .agg (txC t v e).toArray
def txsC (vb eb : Nat → Nat) : Nat → List Me.Tx → List Value
  | _, [] => []
  | i, t :: r => txC t (vb i) (eb i) ++ txsC vb eb (i + 1) r
theorem txC_len (t : Me.Tx) (v e : Nat) : (txC t v e).length = 14 := rfl
theorem txsC_len (vb eb : Nat → Nat) : ∀ (l : List Me.Tx) (i : Nat), (txsC vb eb i l).length = l.length * 14
  | [], _ => by simp [txsC]
  | t :: r, i => by
    rw [txsC, List.length_append, txC_len, txsC_len vb eb r, List.length_cons]
    omega
theorem txsC_append (vb eb : Nat → Nat) (m : List Me.Tx) : ∀ (l : List Me.Tx) (i : Nat), txsC vb eb i (l ++ m) = txsC vb eb i l ++ txsC vb eb (i + l.length) m
  | [], i => by simp [txsC]
  | t :: r, i => by
    rw [List.cons_append, txsC, txsC_append vb eb m r (i + 1), txsC, List.append_assoc, List.length_cons, show i + 1 + r.length = i + (r.length + 1) by omega]
theorem txsC_congr {vb eb vb' eb' : Nat → Nat} : ∀ (l : List Me.Tx) (i : Nat), (∀ j, i ≤ j → j < i + l.length → vb' j = vb j ∧ eb' j = eb j) → txsC vb' eb' i l = txsC vb eb i l
  | [], _, _ => rfl
  | t :: r, i, h => by
    rw [txsC, txsC, (h i (Nat.le_refl _) (by simp)).1, (h i (Nat.le_refl _) (by simp)).2, txsC_congr r (i + 1) fun j h1 h2 => h j (by omega) (by simp; omega)]
theorem txsC_at (vb eb : Nat → Nat) : ∀ (l : List Me.Tx) (i k j : Nat) (t : Me.Tx), l[k]? = some t → j < 14 → (txsC vb eb i l)[k * 14 + j]? = (txC t (vb (i + k)) (eb (i + k)))[j]?
  | t' :: r, i, 0, j, t, h, hj => by
    simp at h
    subst h
    rw [txsC, Nat.zero_mul, Nat.zero_add, List.getElem?_append_left (by rw [txC_len]; exact hj)]
    rfl
  | t' :: r, i, k + 1, j, t, h, hj => by
    rw [List.getElem?_cons_succ] at h
    rw [txsC, List.getElem?_append_right (by rw [txC_len]; omega), txC_len, show (k + 1) * 14 + j - 14 = k * 14 + j by omega, txsC_at vb eb r (i + 1) k j t h hj, show i + 1 + k = i + (k + 1) by omega]

/-! ### a struct that is written into a block -/
def putS (X : World) (b : Nat) (vs : List Value) : World := X.setCells b 0 vs
theorem putS_at {X : World} {b : Nat} {vs : List Value} (h : ∀ j, j < vs.length → (X.cell? ⟨b, j, none⟩).isSome = true ∧ X.frozen? ⟨b, j, none⟩ = false) {j : Nat} {v : Value} (hv : vs[j]? = some v) : (putS X b vs).cell? ⟨b, j, none⟩ = some v := by
  have := World.rangeAt_setCells_same X b 0 vs (fun j hj => by rw [Nat.zero_add]; exact h j hj) j v hv
  rw [Nat.zero_add] at this
  exact this
theorem putS_heap {X : World} {b k : Nat} (hk : k ≠ b) (vs : List Value) : (putS X b vs).heap[k]? = X.heap[k]? := heap_setCells6 b hk vs 0 X
theorem putS_size (X : World) (b : Nat) (vs : List Value) : (putS X b vs).heap.size = X.heap.size := size_setCells6 b vs 0 X
theorem putS_frozen (X : World) (b : Nat) (vs : List Value) (a : Addr) : (putS X b vs).frozen? a = X.frozen? a := World.frozen?_setCells _ _ _ _ _
theorem putS_below {w X : World} {b : Nat} (h : Below w.heap.size w X) (hl : w.heap.size ≤ b) (vs : List Value) : Below w.heap.size w (putS X b vs) :=
  ⟨(os_setCells6 b vs 0 X).trans h.os, (tape_setCells6 b vs 0 X).trans h.tape, (output_setCells6 b vs 0 X).trans h.output, by rw [putS_size]; exact h.size, fun k hk => (putS_heap (by omega) vs).trans (h.block k hk)⟩

/-! ### who lies where -/
/-- Blocks that nobody has stay. -/
structure KeptQ (who : Nat → Nat) (w w' : World) : Prop where
  os : w'.os = w.os
  tape : w'.tape = w.tape
  output : w'.output = w.output
  size : w.heap.size ≤ w'.heap.size
  block : ∀ k, k < w.heap.size → who k = 0 → w'.heap[k]? = w.heap[k]?
theorem KeptQ.refl (who : Nat → Nat) (w : World) : KeptQ who w w := ⟨rfl, rfl, rfl, Nat.le_refl _, fun _ _ _ => rfl⟩
theorem KeptQ.ofBelow {who : Nat → Nat} {w w' : World} (h : Below w.heap.size w w') : KeptQ who w w' := ⟨h.os, h.tape, h.output, h.size, fun k hk _ => h.block k hk⟩
theorem KeptQ.trans {who who' : Nat → Nat} {a w w' : World} (h : KeptQ who a w) (k : KeptQ who' w w') (ho : ∀ k, k < a.heap.size → who k = 0 → who' k = 0) : KeptQ who a w' :=
  ⟨k.os.trans h.os, k.tape.trans h.tape, k.output.trans h.output, Nat.le_trans h.size k.size, fun i hi hn => (k.block i (Nat.lt_of_lt_of_le hi h.size) (ho i hi hn)).trans (h.block i hi hn)⟩
theorem KeptQ.grown {who : Nat → Nat} {a w w' : World} {row : Option Nat} (h : KeptQ who a w) (hg : w.grownBy w' row) (hr : ∀ k, row = some k → k < a.heap.size → who k ≠ 0) : KeptQ who a w' :=
  ⟨hg.os.trans h.os, hg.tape.trans h.tape, hg.output.trans h.output, Nat.le_trans h.size hg.size, fun i hi hn => (hg.block i (Nat.lt_of_lt_of_le hi h.size) (fun e => hr i e.symm hi hn)).trans (h.block i hi hn)⟩
theorem KeptQ.setCell {who : Nat → Nat} {a w : World} (h : KeptQ who a w) (p : Addr) (hp : p.block < a.heap.size → who p.block ≠ 0) (u : Value) : KeptQ who a (w.setCell p u) :=
  ⟨h.os, h.tape, h.output, by simpa using h.size, fun i hi hn => (Below.heap_setCell _ _ _ _ (fun e => hp (by rw [← e]; exact hi) (by rw [← e]; exact hn))).trans (h.block i hi hn)⟩
/-- .. seen from a caller to whom all that is changed is new. -/
theorem KeptQ.below {who : Nat → Nat} {a w w' : World} (h : KeptQ who w w') (hb : Below a.heap.size a w) (hn : ∀ k, k < a.heap.size → who k = 0) : Below a.heap.size a w' :=
  ⟨h.os.trans hb.os, h.tape.trans hb.tape, h.output.trans hb.output, Nat.le_trans hb.size h.size, fun k hk => (h.block k (Nat.lt_of_lt_of_le hk hb.size) (hn k hk)).trans (hb.block k hk)⟩

theorem Tb.carry0 {w w' : World} {B mb : Nat} {s : Se.St} (h : Tb w B mb s) (hn : ∀ p ∈ s, p.2.re.posts = []) (h1 : w'.heap[B]? = w.heap[B]?) (h2 : w'.heap[mb]? = w.heap[mb]?) : Tb w' B mb s := by
  obtain ⟨m, hm, he⟩ := h.map
  refine ⟨by rw [World.cell?_of_block (a := ⟨B, 0, none⟩) h1]; exact h.c0, ⟨m, hm.carry h2, ?_⟩, h.len⟩
  have key : ∀ (s : Se.St) (m : List (Int × Value)), (∀ p ∈ s, p.2.re.posts = []) → Ents w s m → Ents w' s m := by
    intro s
    induction s with
    | nil => intro m _ h; match m, h with | [], _ => trivial
    | cons p s ih =>
      intro m hn h
      match p, m, h with
      | (k, l), (k', v) :: m, ⟨⟨h1, pv, hv, hp, hl⟩, h2⟩ =>
        have hp0 : l.re.posts = [] := hn _ (List.mem_cons_self ..)
        refine ⟨⟨h1, pv, hv, ?_, hl⟩, ih m (fun p hp => hn p (List.mem_cons_of_mem _ hp)) h2⟩
        obtain ⟨p, c, q1, q2, q3, q4, _⟩ := hp
        refine ⟨p, c, q1, q2, q3, q4, fun a ha j x hx => ?_⟩
        rw [hp0] at hx
        simp [poCells] at hx
  exact key s m hn he

/-- Block B's own cells. -/
structure MqB (w : World) (B : Nat) (q : Me.St) (ob tb : Nat) (wv : Value) : Prop where
  c0 : w.cell? ⟨B, 0, none⟩ = some (.int .i64 (q.groups : Int))
  c1 : w.cell? ⟨B, 1, none⟩ = some (.pointer (some ⟨ob, 0, none⟩))
  c2 : w.cell? ⟨B, 2, none⟩ = some (.pointer (some ⟨tb, 0, none⟩))
  c3 : w.cell? ⟨B, 3, none⟩ = some (.int .i64 (q.ans : Int))
  c4 : w.cell? ⟨B, 4, none⟩ = some wv
  c5 : w.cell? ⟨B, 5, none⟩ = some (.int .i64 q.pl.plan)
  c6 : w.cell? ⟨B, 6, none⟩ = some (.int .i64 q.pl.slot)
  c7 : w.cell? ⟨B, 7, none⟩ = some (.int .i64 q.pl.frm)
  c8 : w.cell? ⟨B, 8, none⟩ = some (.int .i64 q.pl.to)
  c9 : w.cell? ⟨B, 9, none⟩ = some (.int .i64 q.pl.epoch)
  c10 : w.cell? ⟨B, 10, none⟩ = some (.bool q.pl.frozen)
  c11 : w.cell? ⟨B, 11, none⟩ = some (.string q.pl.data)
  fz : ∀ j, w.frozen? ⟨B, j, none⟩ = false
/-- All the other blocks. -/
structure MqR (w : World) (q : Me.St) (who : Nat → Nat) (ob tb tm : Nat) (wv : Value) (vb eb : Nat → Nat) : Prop where
  sm : Sm w ob q.own
  tab : Tb w tb tm q.tab
  row : RowC w 14 wv q.wait.length (txsC vb eb (q.ans + 1) q.wait)
  mv : ∀ i t, q.wait[i]? = some t → (Mi w (vb (q.ans + 1 + i)) (vsM t.vs) ∧ who (vb (q.ans + 1 + i)) = 10 + 2 * (q.ans + 1 + i)) ∧ Mi w (eb (q.ans + 1 + i)) (esM t.es) ∧ who (eb (q.ans + 1 + i)) = 11 + 2 * (q.ans + 1 + i)
  wo : who ob = 2
  wt : who tb = 3
  wm : who tm = 4
  wr : ∀ k, cBlk wv = some k → who k = 5
  here : ∀ k, who k ≠ 0 → k < w.heap.size
structure Mq (w : World) (B : Nat) (q : Me.St) (who : Nat → Nat) (ob tb tm : Nat) (wv : Value) (vb eb : Nat → Nat) : Prop where
  b : MqB w B q ob tb wv
  r : MqR w q who ob tb tm wv vb eb
  wB : who B = 1
/-- Block B holds a machine behind at most n commands. -/
def Mt (w : World) (B : Nat) (q : Me.St) (who : Nat → Nat) (n : Nat) : Prop := Me.Ok n q ∧ ∃ ob tb tm wv vb eb, Mq w B q who ob tb tm wv vb eb

theorem MqB.carry {w w' : World} {B : Nat} {q : Me.St} {ob tb : Nat} {wv : Value} (h : MqB w B q ob tb wv) (hb : w'.heap[B]? = w.heap[B]?) : MqB w' B q ob tb wv := by
  have hc : ∀ j, w'.cell? ⟨B, j, none⟩ = w.cell? ⟨B, j, none⟩ := fun j => World.cell?_of_block hb
  exact ⟨(hc 0).trans h.c0, (hc 1).trans h.c1, (hc 2).trans h.c2, (hc 3).trans h.c3, (hc 4).trans h.c4, (hc 5).trans h.c5, (hc 6).trans h.c6, (hc 7).trans h.c7, (hc 8).trans h.c8, (hc 9).trans h.c9, (hc 10).trans h.c10, (hc 11).trans h.c11, fun j => (World.frozen?_of_block (a := ⟨B, j, none⟩) hb).trans (h.fz j)⟩
/-- The other blocks stay where they do, whatever the plan is. -/
theorem MqR.carry {w w' : World} {q q' : Me.St} {who : Nat → Nat} {ob tb tm : Nat} {wv : Value} {vb eb : Nat → Nat} (h : MqR w q who ob tb tm wv vb eb) (hn : ∀ p ∈ q.tab, p.2.re.posts = []) (hs : w.heap.size ≤ w'.heap.size) (hb : ∀ i, 2 ≤ who i → w'.heap[i]? = w.heap[i]?)
    (h1 : q'.own = q.own) (h2 : q'.tab = q.tab) (h3 : q'.ans = q.ans) (h4 : q'.wait = q.wait) : MqR w' q' who ob tb tm wv vb eb := by
  refine ⟨by rw [h1]; exact h.sm.carry hs (hb ob (by rw [h.wo]; omega)), by rw [h2]; exact h.tab.carry0 hn (hb tb (by rw [h.wt]; omega)) (hb tm (by rw [h.wm]; omega)), ?_, fun i t ht => ?_, h.wo, h.wt, h.wm, h.wr, fun k hk => Nat.lt_of_lt_of_le (h.here k hk) hs⟩
  · rw [h3, h4]
    exact h.row.carry fun k hk => hb k (by rw [h.wr k hk]; omega)
  · rw [h4] at ht
    rw [h3]
    obtain ⟨⟨m1, m2⟩, m3, m4⟩ := h.mv i t ht
    exact ⟨⟨m1.carry (hb _ (by rw [m2]; omega)), m2⟩, m3.carry (hb _ (by rw [m4]; omega)), m4⟩
theorem Mq.carry {w w' : World} {B : Nat} {q : Me.St} {who : Nat → Nat} {ob tb tm : Nat} {wv : Value} {vb eb : Nat → Nat} (h : Mq w B q who ob tb tm wv vb eb) (hn : ∀ p ∈ q.tab, p.2.re.posts = []) (hs : w.heap.size ≤ w'.heap.size) (hb : ∀ i, who i ≠ 0 → w'.heap[i]? = w.heap[i]?) : Mq w' B q who ob tb tm wv vb eb :=
  ⟨h.b.carry (hb B (by rw [h.wB]; omega)), h.r.carry hn hs (fun i hi => hb i (by omega)) rfl rfl rfl rfl, h.wB⟩
theorem Mq.below {w w' : World} {B : Nat} {q : Me.St} {who : Nat → Nat} {ob tb tm : Nat} {wv : Value} {vb eb : Nat → Nat} (h : Mq w B q who ob tb tm wv vb eb) (hn : ∀ p ∈ q.tab, p.2.re.posts = []) (hb : Below w.heap.size w w') : Mq w' B q who ob tb tm wv vb eb :=
  h.carry hn hb.size fun i hi => hb.block i (h.r.here i hi)
theorem Mt.below {w w' : World} {B : Nat} {q : Me.St} {who : Nat → Nat} {n : Nat} (h : Mt w B q who n) (hb : Below w.heap.size w w') : Mt w' B q who n := by
  obtain ⟨h0, ob, tb, tm, wv, vb, eb, h⟩ := h
  exact ⟨h0, ob, tb, tm, wv, vb, eb, h.below h0.np hb⟩
theorem Mt.carry {w w' : World} {B : Nat} {q : Me.St} {who : Nat → Nat} {n : Nat} (h : Mt w B q who n) (hs : w.heap.size ≤ w'.heap.size) (hb : ∀ i, who i ≠ 0 → w'.heap[i]? = w.heap[i]?) : Mt w' B q who n := by
  obtain ⟨h0, ob, tb, tm, wv, vb, eb, h⟩ := h
  exact ⟨h0, ob, tb, tm, wv, vb, eb, h.carry h0.np hs hb⟩
theorem Mt.mono {w : World} {B : Nat} {q : Me.St} {who : Nat → Nat} {n m : Nat} (h : Mt w B q who n) (hm : n ≤ m) : Mt w B q who m := ⟨h.1.mono hm, h.2⟩
theorem Mt.here {w : World} {B : Nat} {q : Me.St} {who : Nat → Nat} {n : Nat} (h : Mt w B q who n) : ∀ k, who k ≠ 0 → k < w.heap.size := by
  obtain ⟨_, ob, tb, tm, wv, vb, eb, h⟩ := h
  exact h.r.here
theorem Mt.wB {w : World} {B : Nat} {q : Me.St} {who : Nat → Nat} {n : Nat} (h : Mt w B q who n) : who B = 1 := by
  obtain ⟨_, ob, tb, tm, wv, vb, eb, h⟩ := h
  exact h.wB
theorem Mt.lt {w : World} {B : Nat} {q : Me.St} {who : Nat → Nat} {n : Nat} (h : Mt w B q who n) : B < w.heap.size := h.here B (by rw [h.wB]; omega)

/-- What a command leaves. -/
def AftT (who : Nat → Nat) (w w' : World) (B : Nat) (q : Me.St) (n : Nat) (who' : Nat → Nat) : Prop := Mt w' B q who' n ∧ (∀ k, k < w.heap.size → who k = 0 → who' k = 0) ∧ KeptQ who w w'
theorem AftT.same {who : Nat → Nat} {w w' : World} {B : Nat} {q : Me.St} {n : Nat} (h : Mt w B q who n) (hb : Below w.heap.size w w') : AftT who w w' B q n who := ⟨h.below hb, fun _ _ e => e, KeptQ.ofBelow hb⟩
theorem AftT.more {who who' : Nat → Nat} {w w' : World} {B : Nat} {q : Me.St} {n m : Nat} (h : AftT who w w' B q n who') (hm : n ≤ m) : AftT who w w' B q m who' := ⟨h.1.mono hm, h.2⟩
theorem AftT.from {who who' : Nat → Nat} {w u w' : World} {B : Nat} {q : Me.St} {n : Nat} (hb : Below w.heap.size w u) (h : AftT who u w' B q n who') : AftT who w w' B q n who' :=
  ⟨h.1, fun k hk e => h.2.1 k (Nat.lt_of_lt_of_le hk hb.size) e, (KeptQ.ofBelow (who := who) hb).trans h.2.2 fun _ _ e => e⟩
theorem AftT.on {who who' : Nat → Nat} {w u w' : World} {B : Nat} {q : Me.St} {n : Nat} (h : AftT who w u B q n who') (hb : Below u.heap.size u w') : AftT who w w' B q n who' :=
  ⟨h.1.below hb, h.2.1, h.2.2.trans (KeptQ.ofBelow (who := fun _ => 0) hb) fun _ _ _ => rfl⟩
end Go.Proofs.Ytepbmfjimppgcaa
