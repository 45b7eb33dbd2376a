/-
  The document's table: two lists, of ids and of replies; lists that are being made.
-/
import Derived.Test.YtnfjfhjhofaodaaSeRd
import Derived.Test.YtnfjfhjhofaodaaSeCall
import Derived.Test.YtnfjfhjhofaodaaSeLaw
import Derived.StillTailTactics
import Derived.Deep.RegionHeld3
namespace Go.Proofs.Ytnfjfhjhofaodaa
open Go.RowKit

/-- A session of the document's table, and its posts' slice. -/
abbrev Row := Int × (Se.Ls × Value)
def idC (p : Row) : List Value := [.int .i64 p.1, .int .i64 p.2.1.seq]
def reC (p : Row) : List Value := [.int .i64 p.2.1.re.err, .int .i64 p.2.1.re.at_, p.2.2]
theorem idC_len (p : Row) : (idC p).length = 2 := rfl
theorem reC_len (p : Row) : (reC p).length = 3 := rfl
def bare (t : List Row) : Se.St := t.map fun p => (p.1, p.2.1)
theorem bare_len (t : List Row) : (bare t).length = t.length := by simp [bare]
theorem bare_rise {t : List Row} (h : Se.Rise t) : Se.Rise (bare t) := by
  unfold Se.Rise bare
  rw [List.pairwise_map]
  exact h
theorem bare_ins (x : Int) (l : Se.Ls) (v : Value) : ∀ t : List Row, bare (Se.ins x (l, v) t) = Se.ins x l (bare t)
  | [] => rfl
  | (k, m) :: r => by
    have e1 : Se.ins x (l, v) ((k, m) :: r) = if x < k then (x, (l, v)) :: (k, m) :: r else if k = x then (x, (l, v)) :: r else (k, m) :: Se.ins x (l, v) r := rfl
    have e2 : Se.ins x l (bare ((k, m) :: r)) = if x < k then (x, l) :: (k, m.1) :: bare r else if k = x then (x, l) :: bare r else (k, m.1) :: Se.ins x l (bare r) := rfl
    rw [e1, e2]
    split
    · rfl
    · split
      · rfl
      · show (k, m.1) :: bare _ = _
        rw [bare_ins]
/-- What is found, and where. -/
theorem bare_get {x : Int} : ∀ {t : List Row}, (Se.get (bare t) x = none ∧ ∀ p ∈ t, p.1 ≠ x) ∨ ∃ (i : Nat) (l : Se.Ls) (v : Value), t[i]? = some (x, l, v) ∧ (∀ (j : Nat), j < i → ∀ p : Row, t[j]? = some p → p.1 ≠ x) ∧ Se.get (bare t) x = some l
  | [] => .inl ⟨rfl, fun p hp => by cases hp⟩
  | (k, l, v) :: r => by
    by_cases e : k = x
    · refine .inr ⟨0, l, v, by rw [e]; rfl, fun j hj => by omega, ?_⟩
      show (if k = x then some l else Se.get (bare r) x) = _
      rw [if_pos e]
    · have hs : Se.get (bare ((k, l, v) :: r)) x = Se.get (bare r) x := by show (if k = x then some l else Se.get (bare r) x) = _; rw [if_neg e]
      rw [hs]
      rcases bare_get (x := x) (t := r) with ⟨h1, h2⟩ | ⟨i, l', v', h1, h2, h3⟩
      · refine .inl ⟨h1, fun p hp => ?_⟩
        rcases List.mem_cons.1 hp with q | q
        · rw [q]; exact e
        · exact h2 p q
      · refine .inr ⟨i + 1, l', v', by simpa using h1, fun j hj p hp => ?_, h3⟩
        cases j with
        | zero =>
          have : (k, l, v) = p := by simpa using hp
          rw [← this]
          exact e
        | succ j => exact h2 j (by omega) p (by simpa using hp)

/-! ### what Put makes -/
def stA (x : Int) (n : Se.Ls × Value) (s : List Row × Bool) (k : Int) : List Row × Bool := if s.2 = false ∧ x ≤ k then (s.1 ++ [(x, n)], true) else s
def stB (x : Int) (o : List Row) (p : Row) : List Row := if p.1 = x then o else o ++ [p]
def st (x : Int) (n : Se.Ls × Value) (s : List Row × Bool) (p : Row) : List Row × Bool := (stB x (stA x n s p.1).1 p, (stA x n s p.1).2)
def fin (x : Int) (n : Se.Ls × Value) (s : List Row × Bool) : List Row := if s.2 then s.1 else s.1 ++ [(x, n)]

theorem st_done {x : Int} {n : Se.Ls × Value} : ∀ (t o : List Row), (∀ p ∈ t, x < p.1) → t.foldl (st x n) (o, true) = (o ++ t, true)
  | [], o, _ => by simp
  | p :: t, o, h => by
    have hp := h p List.mem_cons_self
    have e : st x n (o, true) p = (o ++ [p], true) := by
      unfold st stA stB
      simp
      omega
    rw [List.foldl_cons, e, st_done t _ fun q hq => h q (List.mem_cons_of_mem _ hq)]
    simp
theorem st_all {x : Int} {n : Se.Ls × Value} : ∀ (t o : List Row), Se.Rise t → fin x n (t.foldl (st x n) (o, false)) = o ++ Se.ins x n t
  | [], o, _ => by simp [fin, Se.ins]
  | (k, m) :: t, o, h => by
    obtain ⟨h1, h2⟩ := List.pairwise_cons.1 h
    unfold Se.ins
    rw [List.foldl_cons]
    by_cases hx : x < k
    · have e : st x n (o, false) (k, m) = (o ++ [(x, n)] ++ [(k, m)], true) := by
        unfold st stA stB
        have h3 : x ≤ k := by omega
        have h4 : ¬ k = x := by omega
        simp [h3, h4]
      rw [if_pos hx, e, st_done t _ (fun p hp => by have h3 : k < p.1 := h1 p hp; omega)]
      simp [fin]
    · rw [if_neg hx]
      by_cases he : k = x
      · have e : st x n (o, false) (k, m) = (o ++ [(x, n)], true) := by
          unfold st stA stB
          simp [he]
        rw [if_pos he, e, st_done t _ (fun p hp => by have h3 : k < p.1 := h1 p hp; omega)]
        simp [fin]
      · have e : st x n (o, false) (k, m) = (o ++ [(k, m)], false) := by
          unfold st stA stB
          have h3 : ¬ x ≤ k := by omega
          simp [h3, he]
        rw [if_neg he, e, st_all t _ h2]
        simp
theorem st_len {x : Int} {n : Se.Ls × Value} : ∀ (t : List Row) (s : List Row × Bool), (t.foldl (st x n) s).1.length ≤ s.1.length + 2 * t.length
  | [], s => by simp
  | p :: t, s => by
    have h1 : (st x n s p).1.length ≤ s.1.length + 2 := by
      unfold st stB stA
      split <;> split <;> simp <;> omega
    have := st_len (x := x) (n := n) t (st x n s p)
    rw [List.foldl_cons, List.length_cons]
    omega

/-- The document's table. -/
structure RT (w : World) (v : Value) (t : List Row) : Prop where
  val : ∃ vi vr, v = .agg #[vi, vr] ∧ Rd w vi t.length (t.flatMap idC) ∧ Rd w vr t.length (t.flatMap reC)
  posts : ∀ p ∈ t, PoR w p.2.2 p.2.1.re.posts
  rise : Se.Rise t
  len : t.length ≤ 64
theorem RT.below {w w' : World} {v : Value} {t : List Row} (h : RT w v t) (hb : Below w.heap.size w w') : RT w' v t := by
  obtain ⟨vi, vr, h1, h2, h3⟩ := h.val
  exact ⟨⟨vi, vr, h1, h2.below hb, h3.below hb⟩, fun p hp => (h.posts p hp).below hb, h.rise, h.len⟩
theorem RT.nil (w : World) : RT w (.agg #[.slice none 0 0, .slice none 0 0]) [] := ⟨⟨_, _, rfl, Rd.nil _, Rd.nil _⟩, fun p hp => (by cases hp), List.Pairwise.nil, by simp⟩

theorem infoId : (Try.prog.info? 27).map (fun i => (i.zero, i.size, i.bytes)) = some (some (.agg #[.int .i64 0, .int .i64 0]), 2, 16) := by kernel_rfl
theorem infoRe : (Try.prog.info? 31).map (fun i => (i.zero, i.size, i.bytes)) = some (some (.agg #[.int .i64 0, .int .i64 0, .slice none 0 0]), 3, 40) := by kernel_rfl

theorem cell_set6 {w : World} {b o : Nat} {y : Value} (x : Value) (h : w.cell? ⟨b, o, none⟩ = some y) (q : Nat) : (w.setCell ⟨b, o, none⟩ x).cell? ⟨b, q, none⟩ = if q = o then some x else w.cell? ⟨b, q, none⟩ := by
  split
  · rename_i e
    subst e
    exact World.cell?_setCell_same _ _ _ (by rw [h])
  · rename_i e
    exact World.cell?_setCell_other _ _ _ _ (fun e' => e (by injection e' with _ e2; exact e2.symm))
theorem size_set6 (w : World) (p : Addr) (x : Value) : (w.setCell p x).heap.size = w.heap.size := by simp [World.setCell]

/-- Two lists that are being made, in a table of the call's own. -/
structure Bw (u : World) (bm : Nat) (oi orr : List Row) (vo ve : Value) (X : World) : Prop where
  old : Below u.heap.size u X
  newm : u.heap.size ≤ bm
  ltm : bm < X.heap.size
  c0 : X.cell? ⟨bm, 0, none⟩ = some vo
  c1 : X.cell? ⟨bm, 1, none⟩ = some ve
  f0 : X.frozen? ⟨bm, 0, none⟩ = false
  f1 : X.frozen? ⟨bm, 1, none⟩ = false
  ro : RowC X 2 vo oi.length (oi.flatMap idC)
  re : RowC X 3 ve orr.length (orr.flatMap reC)
  no : ∀ q, cBlk vo = some q → u.heap.size ≤ q ∧ q ≠ bm
  ne : ∀ q, cBlk ve = some q → u.heap.size ≤ q ∧ q ≠ bm
  ap : ∀ q, cBlk vo = some q → cBlk ve = some q → False

theorem Bw.begin (u : World) : Bw u u.heap.size [] [] (.slice none 0 0) (.slice none 0 0) (u.alloc (.cells #[.slice none 0 0, .slice none 0 0] 43)) := by
  refine ⟨below_alloc u _, Nat.le_refl _, by simp, ?_, ?_, ?_, ?_, RowC.nil _ _ _, RowC.nil _ _ _, fun q h => by simp [cBlk] at h, fun q h => by simp [cBlk] at h, fun q h => by simp [cBlk] at h⟩
  · exact World.cell?_alloc_mark u _ _ _ 0
  · exact World.cell?_alloc_mark u _ _ _ 1
  · rw [World.frozen?_alloc_mark]; simp
  · rw [World.frozen?_alloc_mark]; simp

theorem Bw.below {u X Y : World} {bm : Nat} {oi orr : List Row} {vo ve : Value} (h : Bw u bm oi orr vo ve X) (hb : Below X.heap.size X Y) : Bw u bm oi orr vo ve Y :=
  ⟨h.old.trans (hb.mono h.old.size), h.newm, Nat.lt_of_lt_of_le h.ltm hb.size, (hb.cell (p := ⟨bm, 0, none⟩) h.ltm).trans h.c0, (hb.cell (p := ⟨bm, 1, none⟩) h.ltm).trans h.c1, (hb.frozen (p := ⟨bm, 0, none⟩) h.ltm).trans h.f0, (hb.frozen (p := ⟨bm, 1, none⟩) h.ltm).trans h.f1,
    h.ro.carry (fun q hq => hb.block q (h.ro.lt (by decide) hq)), h.re.carry (fun q hq => hb.block q (h.re.lt (by decide) hq)), h.no, h.ne, h.ap⟩

theorem grown_old {u X Y : World} {r : Option Nat} (h : Below u.heap.size u X) (hg : X.grownBy Y r) (hr : ∀ q, r = some q → u.heap.size ≤ q) : Below u.heap.size u Y :=
  ⟨hg.os.trans h.os, hg.tape.trans h.tape, hg.output.trans h.output, Nat.le_trans h.size hg.size, fun k hk => by
    rw [hg.block k (Nat.lt_of_lt_of_le hk h.size) (fun e => by have := hr k e.symm; omega)]
    exact h.block k hk⟩

/-- The first list has one more. -/
theorem Bw.putO {u X Y : World} {bm : Nat} {oi orr : List Row} {vo ve v' : Value} (h : Bw u bm oi orr vo ve X) (p : Row) (h1 : RowC Y 2 v' (oi.length + 1) (oi.flatMap idC ++ idC p)) (h2 : X.grownBy Y (cBlk vo)) (h3 : ∀ q, cBlk v' = some q → cBlk vo = some q ∨ X.heap.size ≤ q) :
    Y.cell? ⟨bm, 0, none⟩ = some vo ∧ Y.cell? ⟨bm, 1, none⟩ = some ve ∧ Y.frozen? ⟨bm, 0, none⟩ = false ∧ Y.frozen? ⟨bm, 1, none⟩ = false ∧ Below u.heap.size u Y ∧ Bw u bm (oi ++ [p]) orr v' ve (Y.setCell ⟨bm, 0, none⟩ v') := by
  have hm : Y.heap[bm]? = X.heap[bm]? := h2.block bm h.ltm (fun e => (h.no bm e.symm).2 rfl)
  have y0 := (World.cell?_of_block (a := ⟨bm, 0, none⟩) hm).trans h.c0
  have y1 := (World.cell?_of_block (a := ⟨bm, 1, none⟩) hm).trans h.c1
  have z0 := (World.frozen?_of_block (a := ⟨bm, 0, none⟩) hm).trans h.f0
  have z1 := (World.frozen?_of_block (a := ⟨bm, 1, none⟩) hm).trans h.f1
  have hX := h.old.size
  have hltm := h.ltm
  have hn : ∀ q, cBlk v' = some q → u.heap.size ≤ q ∧ q ≠ bm := fun q hq => by
    rcases h3 q hq with e | e
    · exact h.no q e
    · omega
  have hol := grown_old h.old h2 (fun q e => (h.no q e).1)
  refine ⟨y0, y1, z0, z1, hol, ?_⟩
  refine ⟨hol.setCell h.newm _, h.newm, by rw [size_set6]; exact Nat.lt_of_lt_of_le h.ltm h2.size, by rw [cell_set6 _ y0, if_pos rfl], by rw [cell_set6 _ y0, if_neg (by omega)]; exact y1, by rw [World.frozen?_setCell]; exact z0, by rw [World.frozen?_setCell]; exact z1, ?_, ?_, hn, h.ne, fun q e1 e2 => ?_⟩
  · rw [flat_snoc, List.length_append]
    exact h1.carry (fun q hq => Below.heap_setCell _ _ _ _ (fun e => (hn q hq).2 e))
  · refine h.re.carry (fun q hq => ?_)
    rw [Below.heap_setCell _ _ _ _ (fun e => (h.ne q hq).2 e)]
    exact h2.block q (h.re.lt (by decide) hq) (fun e => h.ap q e.symm hq)
  · rcases h3 q e1 with e | e
    · exact h.ap q e e2
    · have := h.re.lt (by decide) e2
      omega
/-- The second list has one more. -/
theorem Bw.putE {u X Y : World} {bm : Nat} {oi orr : List Row} {vo ve v' : Value} (h : Bw u bm oi orr vo ve X) (p : Row) (h1 : RowC Y 3 v' (orr.length + 1) (orr.flatMap reC ++ reC p)) (h2 : X.grownBy Y (cBlk ve)) (h3 : ∀ q, cBlk v' = some q → cBlk ve = some q ∨ X.heap.size ≤ q) :
    Y.cell? ⟨bm, 0, none⟩ = some vo ∧ Y.cell? ⟨bm, 1, none⟩ = some ve ∧ Y.frozen? ⟨bm, 0, none⟩ = false ∧ Y.frozen? ⟨bm, 1, none⟩ = false ∧ Below u.heap.size u Y ∧ Bw u bm oi (orr ++ [p]) vo v' (Y.setCell ⟨bm, 1, none⟩ v') := by
  have hm : Y.heap[bm]? = X.heap[bm]? := h2.block bm h.ltm (fun e => (h.ne bm e.symm).2 rfl)
  have y0 := (World.cell?_of_block (a := ⟨bm, 0, none⟩) hm).trans h.c0
  have y1 := (World.cell?_of_block (a := ⟨bm, 1, none⟩) hm).trans h.c1
  have z0 := (World.frozen?_of_block (a := ⟨bm, 0, none⟩) hm).trans h.f0
  have z1 := (World.frozen?_of_block (a := ⟨bm, 1, none⟩) hm).trans h.f1
  have hX := h.old.size
  have hltm := h.ltm
  have hn : ∀ q, cBlk v' = some q → u.heap.size ≤ q ∧ q ≠ bm := fun q hq => by
    rcases h3 q hq with e | e
    · exact h.ne q e
    · omega
  have hol := grown_old h.old h2 (fun q e => (h.ne q e).1)
  refine ⟨y0, y1, z0, z1, hol, ?_⟩
  refine ⟨hol.setCell h.newm _, h.newm, by rw [size_set6]; exact Nat.lt_of_lt_of_le h.ltm h2.size, by rw [cell_set6 _ y1, if_neg (by omega)]; exact y0, by rw [cell_set6 _ y1, if_pos rfl], by rw [World.frozen?_setCell]; exact z0, by rw [World.frozen?_setCell]; exact z1, ?_, ?_, h.no, hn, fun q e1 e2 => ?_⟩
  · refine h.ro.carry (fun q hq => ?_)
    rw [Below.heap_setCell _ _ _ _ (fun e => (h.no q hq).2 e)]
    exact h2.block q (h.ro.lt (by decide) hq) (fun e => h.ap q hq e.symm)
  · rw [flat_snoc, List.length_append]
    exact h1.carry (fun q hq => Below.heap_setCell _ _ _ _ (fun e => (hn q hq).2 e))
  · rcases h3 q e2 with e | e
    · exact h.ap q e1 e
    · have := h.ro.lt (by decide) e1
      omega
theorem Bw.shapes {u X : World} {bm : Nat} {oi orr : List Row} {vo ve : Value} (h : Bw u bm oi orr vo ve X) : ∃ p c p' c', vo = .slice p oi.length c ∧ ve = .slice p' orr.length c' := by
  obtain ⟨p, c, h1, _⟩ := h.ro.form
  obtain ⟨p', c', h2, _⟩ := h.re.form
  exact ⟨p, c, p', c', h1, h2⟩

/-- What is appended. -/
theorem src_id (X : World) (p : Row) : Src Try.prog 2 22 (.slice (some ⟨X.heap.size, 0, none⟩) 1 1) 1 (idC p) (X.alloc (.cells #[.int .i64 p.1, .int .i64 p.2.1.seq] 27)) := by
  refine Src.ofSlice _ Try.underlying22 _ _ _ _ rfl (fun j u hu => ?_) (fun u hu => by simp [idC] at hu; rcases hu with rfl | rfl <;> rfl)
  rw [Addr.add_lit, Nat.zero_add, World.cell?_alloc_mark]
  simpa [idC] using hu
theorem src_re (X : World) (p : Row) {q : Option Addr} {n c : Nat} (hp : p.2.2 = .slice q n c) : Src Try.prog 3 41 (.slice (some ⟨X.heap.size, 0, none⟩) 1 1) 1 (reC p) (X.alloc (.cells #[.int .i64 p.2.1.re.err, .int .i64 p.2.1.re.at_, p.2.2] 31)) := by
  refine Src.ofSlice _ Try.underlying41 _ _ _ _ rfl (fun j u hu => ?_) (fun u hu => by simp [reC] at hu; rcases hu with rfl | rfl | rfl; rfl; rfl; rw [hp]; rfl)
  rw [Addr.add_lit, Nat.zero_add, World.cell?_alloc_mark]
  simpa [reC] using hu

/-- An operation that only reads is taken first. -/
theorem take7 {P : Program} {md : Region.Mode} {ops : Array Oper} {Q : Exit → Act → World → Prop} {S : World → Prop} {i d : Nat} {oi : Oper} {v : Value} {fuel : Nat} {listed : Array Bool} {a : Act} {w : World} (hi : ops[i]? = some oi) (hd : oi.dst = some d)
    (hs : Region.noSelect ops = true) (hf : Region.free md ops listed i = true) (hr : (Region.ready md ops listed).contains i = true)
    (hQ : ∀ c a w, Q (.panic c) (a.put (some d) v) w → Q (.panic c) a w) (hy : YieldsIf P ops S oi v a) (hS : S w)
    (h : wpAnyH P md ops Q S fuel (listed.setIfInBounds i true) (a.put (some d) v) w) : wpAnyH P md ops Q S (fuel + 1) listed a w :=
  wpAnyH_take hi hs hf hr (by rw [hd]; exact hQ) hy hS (by rw [hd]; exact h)
/-- append, as one step of a region that draws. -/
theorem step7 {P : Program} {w : World} {ops : Array Oper} {o : Oper} {a : Act} {K : Act → World → Prop} {Q : Exit → Act → World → Prop} {E : Prop} (d : Nat) (hd : o.dst = some d) (hgd : o.guard = none) (s x : Operand) (t tx e : TypeId)
    (ho : o.op = .call { callee := .builtin .append, args := #[s, x], argTypes := #[t, tx] })
    (ht : P.underlying t = some (.slice e)) (z : Value) (size bytes : Nat) (hinfo : (P.info? e).map (fun i => (i.zero, i.size, i.bytes)) = some (some z, size, bytes)) (hzs : z.cells.size = size)
    (v : Value) (n : Nat) (xs : List Value) (hv : a.eval s = v) (hown : RowC w size v n xs) (xv : Value) (m : Nat) (news : List Value) (hx : a.eval x = xv) (hs : Src P size tx xv m news w)
    (hlen : (n + m) * bytes ≤ 140737488355328) (hmax : n + m ≤ maxLen)
    (h : ∀ v' w', RowC w' size v' (n + m) (xs ++ news) → w.grownBy w' (cBlk v) → (∀ k, cBlk v' = some k → cBlk v = some k ∨ w.heap.size ≤ k) → K (a.put (some d) v') w') :
    if Region.wanted o (yielded ops a.tmps) = true then Oper.wp P o a w K Q else E :=
  step_append_rowC hgd s x t tx e ho ht z size bytes hinfo hzs v n xs hv hown xv m news hx hs hlen hmax (by rw [hd]; exact h)

end Go.Proofs.Ytnfjfhjhofaodaa
