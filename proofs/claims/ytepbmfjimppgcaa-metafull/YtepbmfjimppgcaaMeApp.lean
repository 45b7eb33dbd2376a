/-
  One more transaction behind the others, in memory.
-/
import Derived.Test.YtepbmfjimppgcaaMeRefu
namespace Go.Proofs.Ytepbmfjimppgcaa
open Go.RowKit

/-- append, as one step of a region that draws. -/
theorem stepM {P : Program} {w : World} {ops : Array Oper} {o : Oper} {a : Act} {K : Act → World → Prop} {Q : Exit → Act → World → Prop} {E : Prop} (d : Nat) (hd : o.dst = some d) (hgd : o.guard = none) (s x : Operand) (t tx e : TypeId)
    (ho : o.op = .call { callee := .builtin .append, args := #[s, x], argTypes := #[t, tx] })
    (ht : P.underlying t = some (.slice e)) (z : Value) (size bytes : Nat) (hinfo : (P.info? e).map (fun i => (i.zero, i.size, i.bytes)) = some (some z, size, bytes)) (hzs : z.cells.size = size)
    (v : Value) (n : Nat) (xs : List Value) (hv : a.eval s = v) (hown : RowC w size v n xs) (xv : Value) (m : Nat) (news : List Value) (hx : a.eval x = xv) (hs : Src P size tx xv m news w)
    (hlen : (n + m) * bytes ≤ 140737488355328) (hmax : n + m ≤ maxLen)
    (h : ∀ v' w', RowC w' size v' (n + m) (xs ++ news) → w.grownBy w' (cBlk v) → (∀ k, cBlk v' = some k → cBlk v = some k ∨ w.heap.size ≤ k) → K (a.put (some d) v') w') :
    if Region.wanted o (yielded ops a.tmps) = true then Oper.wp P o a w K Q else E :=
  step_append_rowC hgd s x t tx e ho ht z size bytes hinfo hzs v n xs hv hown xv m news hx hs hlen hmax (by rw [hd]; exact h)

theorem txInfoZ : (Try.prog.info? 70).map (fun i => (i.zero, i.size, i.bytes)) = some (some (.agg #[.int .i64 0, .int .i64 0, .int .i64 0, .string ⟨#[]⟩, .string ⟨#[]⟩, .string ⟨#[]⟩, .string ⟨#[]⟩, .string ⟨#[]⟩, .string ⟨#[]⟩, .int .i64 0, .int .i64 0, .map none, .map none, .string ⟨#[]⟩]), 14, 168) := by kernel_rfl
theorem src_tx (X : World) {g : Nat} (cs : List Value) (hc : ∀ (j : Nat) x, cs[j]? = some x → X.cell? ⟨g, j, none⟩ = some x) (hl : cs.length = 14) (h1 : ∀ x ∈ cs, x.oneCell' = true) : Src Try.prog 14 63 (.slice (some ⟨g, 0, none⟩) 1 1) 1 cs X := by
  refine Src.ofSlice _ Try.underlying63 _ _ _ _ (by rw [hl]) (fun j u hu => ?_) h1
  rw [Addr.add_lit, Nat.zero_add]
  exact hc j u hu

/-- Who lies where with one more. -/
def appWho (who : Nat → Nat) (num bv be : Nat) (v' : Value) : Nat → Nat := fun k => if k = bv then 10 + 2 * num else if k = be then 11 + 2 * num else if cBlk v' = some k then 5 else who k

theorem AftT.app {u W W' F : World} {B n bv be : Nat} {q : Me.St} {who : Nat → Nat} {ob tb tm : Nat} {wv v' : Value} {vb eb : Nat → Nat} {a b : Int} {o : Mo.Op}
    (h0 : Me.Ok n q) (hq : Mq u B q who ob tb tm wv vb eb) (hW : Below u.heap.size u W) (hbv : W.heap[bv]? = some (.map #[] 0)) (hbe : W.heap[be]? = some (.map #[] 0)) (hne : bv ≠ be) (hlo : u.heap.size ≤ bv ∧ u.heap.size ≤ be)
    (hrow : RowC W' 14 v' (q.wait.length + 1) (txsC vb eb (q.ans + 1) q.wait ++ txC (Me.fresh a b o) bv be)) (hg : W.grownBy W' (cBlk wv)) (hk : ∀ k, cBlk v' = some k → cBlk wv = some k ∨ W.heap.size ≤ k)
    (hF : F = W'.setCell ⟨B, 4, none⟩ v') (hok : Me.TxOk (Me.fresh a b o)) : ∃ who', AftT who u F B (Me.begin q a b o) (n + 1) who' := by
  have hqW := hq.below h0.np hW
  have hBl : B < u.heap.size := hq.r.here B (by rw [hq.wB]; omega)
  have hrl : ∀ k, cBlk wv = some k → k < u.heap.size := fun k hk => hq.r.here k (by rw [hq.r.wr k hk]; omega)
  have hbl : bv < W.heap.size ∧ be < W.heap.size := by
    constructor
    · exact (Array.getElem?_eq_some_iff.1 hbv).1
    · exact (Array.getElem?_eq_some_iff.1 hbe).1
  have hnB : ∀ k, cBlk wv = some k → k ≠ B := fun k hk e => by have := hq.r.wr k hk; rw [e, hq.wB] at this; omega
  have hsF : F.heap.size = W'.heap.size := by rw [hF]; simp
  -- blocks that stay from W to F
  have st : ∀ k, k < W.heap.size → cBlk wv ≠ some k → k ≠ B → F.heap[k]? = W.heap[k]? := fun k hk h1 h2 => by
    rw [hF, Below.heap_setCell _ _ _ _ h2]
    exact hg.block k hk (fun e => h1 e.symm)
  have stu : ∀ k, k < u.heap.size → cBlk wv ≠ some k → k ≠ B → F.heap[k]? = u.heap[k]? := fun k hk h1 h2 => (st k (Nat.lt_of_lt_of_le hk hW.size) h1 h2).trans (hW.block k hk)
  have hv0 : ∀ k, cBlk v' = some k → who k = 5 ∨ who k = 0 := fun k hk' => by
    rcases hk k hk' with e | e
    · exact .inl (hq.r.wr k e)
    · exact .inr (Classical.byContradiction fun h => by have := hq.r.here k h; have := hW.size; omega)
  have w0 : who bv = 0 ∧ who be = 0 := ⟨Classical.byContradiction fun h => by have := hq.r.here bv h; omega, Classical.byContradiction fun h => by have := hq.r.here be h; omega⟩
  have cell' : ∀ (x y : Value), W'.cell? ⟨B, 4, none⟩ = some x → ∀ j, F.cell? ⟨B, j, none⟩ = if j = 4 then some v' else W'.cell? ⟨B, j, none⟩ := fun x y hx j => by rw [hF]; exact sl_cell_set6 _ hx j
  have hBW : W'.heap[B]? = W.heap[B]? := hg.block B (Nat.lt_of_lt_of_le hBl hW.size) (fun e => hnB B e.symm rfl)
  have cW : ∀ j, W'.cell? ⟨B, j, none⟩ = W.cell? ⟨B, j, none⟩ := fun j => World.cell?_of_block hBW
  have fW : ∀ j, W'.frozen? ⟨B, j, none⟩ = W.frozen? ⟨B, j, none⟩ := fun j => World.frozen?_of_block (a := ⟨B, j, none⟩) hBW
  have cF := cell' wv wv ((cW 4).trans hqW.b.c4)
  have cN : ∀ j, j ≠ 4 → F.cell? ⟨B, j, none⟩ = W.cell? ⟨B, j, none⟩ := fun j hj => by rw [cF, if_neg hj, cW]
  obtain ⟨num, hnum⟩ : ∃ num, num = q.ans + 1 + q.wait.length := ⟨_, rfl⟩
  have hlb : ∀ k, cBlk v' = some k → k ≠ bv ∧ k ≠ be := fun k hk' => by
    have hc : ∃ x, F.cell? ⟨k, 0, none⟩ = some x ∨ W'.heap[k]? = W'.heap[k]? := ⟨v', .inr rfl⟩
    obtain ⟨g, off, c, hv, _, _, hR, hC⟩ := hrow.cells (by omega)
    have hgk : g = k := by rw [hv] at hk'; simpa [cBlk] using hk'
    have hx := (hR 0 (by omega)).1
    rw [hgk, Nat.add_zero] at hx
    have key : ∀ m, W.heap[m]? = some (.map #[] 0) → cBlk wv ≠ some m → k ≠ m := fun m hm hn e => by
      have hml : m < W.heap.size := (Array.getElem?_eq_some_iff.1 hm).1
      have : W'.heap[m]? = some (.map #[] 0) := (hg.block m hml (fun e => hn e.symm)).trans hm
      rw [e] at hx
      simp [World.cell?, this] at hx
    exact ⟨key bv hbv (fun e => by have := hrl bv e; omega), key be hbe (fun e => by have := hrl be e; omega)⟩
  have hwho : ∀ k, who k ≠ 0 → k ≠ bv ∧ k ≠ be := fun k hk => ⟨fun e => hk (by rw [e]; exact w0.1), fun e => hk (by rw [e]; exact w0.2)⟩
  have keep : ∀ k x, who k = x → x ≠ 0 → x ≠ 5 → appWho who num bv be v' k = x := fun k x hx h0 h5 => by
    have h := hwho k (by rw [hx]; exact h0)
    unfold appWho
    rw [if_neg h.1, if_neg h.2, if_neg (fun e => by rcases hv0 k e with q | q <;> omega)]
    exact hx
  have big : ∀ k x, who k = x → 10 ≤ x → F.heap[k]? = W.heap[k]? := fun k x hx h10 => st k (Nat.lt_of_lt_of_le (hq.r.here k (by omega)) hW.size) (fun e => by have := hq.r.wr k e; omega) (fun e => by rw [e, hq.wB] at hx; omega)
  have mid : ∀ k x, who k = x → 2 ≤ x → x ≠ 5 → F.heap[k]? = W.heap[k]? := fun k x hx h2 h5 => st k (Nat.lt_of_lt_of_le (hq.r.here k (by omega)) hW.size) (fun e => by have := hq.r.wr k e; omega) (fun e => by rw [e, hq.wB] at hx; omega)
  refine ⟨appWho who num bv be v', ⟨⟨fun t ht => ?_, ?_, ?_, h0.np, h0.grp, h0.pl, h0.sq⟩, ob, tb, tm, v', fun j => if j = num then bv else vb j, fun j => if j = num then be else eb j, ⟨⟨(cN 0 (by omega)).trans hqW.b.c0, (cN 1 (by omega)).trans hqW.b.c1, (cN 2 (by omega)).trans hqW.b.c2, (cN 3 (by omega)).trans hqW.b.c3, by rw [cF, if_pos rfl], (cN 5 (by omega)).trans hqW.b.c5, (cN 6 (by omega)).trans hqW.b.c6, (cN 7 (by omega)).trans hqW.b.c7, (cN 8 (by omega)).trans hqW.b.c8, (cN 9 (by omega)).trans hqW.b.c9, (cN 10 (by omega)).trans hqW.b.c10, (cN 11 (by omega)).trans hqW.b.c11, fun j => by rw [hF, World.frozen?_setCell, fW]; exact hqW.b.fz j⟩, ⟨?_, ?_, ?_, fun i t ht => ?_, keep ob 2 hq.r.wo (by omega) (by omega), keep tb 3 hq.r.wt (by omega) (by omega), keep tm 4 hq.r.wm (by omega) (by omega), fun k hk' => ?_, fun k hk' => ?_⟩, keep B 1 hq.wB (by omega) (by omega)⟩⟩, fun k hk' e => ?_, ?_⟩
  · rcases List.mem_append.1 ht with h | h
    · exact h0.tx t h
    · have := List.mem_singleton.1 h
      rw [this]
      exact hok
  · show (q.wait ++ [_]).length ≤ n + 1
    rw [List.length_append]
    have := h0.few
    simp
    omega
  · have := h0.ans
    show q.ans ≤ n + 1
    omega
  · exact hqW.r.sm.carry (by rw [hsF]; exact hg.size) (mid ob 2 hq.r.wo (by omega) (by omega))
  · exact hqW.r.tab.carry0 h0.np (mid tb 3 hq.r.wt (by omega) (by omega)) (mid tm 4 hq.r.wm (by omega) (by omega))
  · have e : txsC (fun j => if j = num then bv else vb j) (fun j => if j = num then be else eb j) (q.ans + 1) (q.wait ++ [Me.fresh a b o]) = txsC vb eb (q.ans + 1) q.wait ++ txC (Me.fresh a b o) bv be := by
      rw [txsC_append]
      congr 1
      · exact txsC_congr q.wait _ fun j h1 h2 => ⟨if_neg (by omega), if_neg (by omega)⟩
      · show txC _ (if q.ans + 1 + q.wait.length = num then bv else _) (if q.ans + 1 + q.wait.length = num then be else _) ++ [] = _
        rw [if_pos hnum.symm, if_pos hnum.symm, List.append_nil]
    show RowC F 14 v' (q.wait ++ [_]).length (txsC _ _ (q.ans + 1) (q.wait ++ [_]))
    rw [e, List.length_append]
    refine hrow.carry fun k hk' => ?_
    rw [hF, Below.heap_setCell _ _ _ _ (fun e => by
      have e : k = B := e
      rcases hk k hk' with q | q
      · exact hnB k q e
      · have := hW.size; omega)]
  · have ht' : (q.wait ++ [Me.fresh a b o])[i]? = some t := ht
    show (Mi F (if q.ans + 1 + i = num then bv else vb (q.ans + 1 + i)) _ ∧ _) ∧ Mi F (if q.ans + 1 + i = num then be else eb (q.ans + 1 + i)) _ ∧ _
    by_cases hi : i = q.wait.length
    · have e1 : q.ans + 1 + i = num := by rw [hi, hnum]
      rw [hi, List.getElem?_append_right (Nat.le_refl _), Nat.sub_self] at ht'
      injection ht' with ht'
      rw [if_pos e1, if_pos e1, ← ht']
      have kb : F.heap[bv]? = some (.map #[] 0) := (st bv hbl.1 (fun e => by have := hrl bv e; omega) (by omega)).trans hbv
      have ke : F.heap[be]? = some (.map #[] 0) := (st be hbl.2 (fun e => by have := hrl be e; omega) (by omega)).trans hbe
      show (Mi F bv [] ∧ appWho who num bv be v' (if q.ans + 1 + i = num then bv else vb (q.ans + 1 + i)) = 10 + 2 * (q.ans + 1 + i)) ∧ Mi F be [] ∧ appWho who num bv be v' (if q.ans + 1 + i = num then be else eb (q.ans + 1 + i)) = 11 + 2 * (q.ans + 1 + i)
      rw [if_pos e1, if_pos e1, e1]
      refine ⟨⟨Mi.nil kb, ?_⟩, Mi.nil ke, ?_⟩
      · unfold appWho; rw [if_pos rfl]
      · unfold appWho; rw [if_neg (fun e => hne e.symm), if_pos rfl]
    · have hil : i < q.wait.length := by
        have := (List.getElem?_eq_some_iff.1 ht').1
        rw [List.length_append] at this
        simp at this
        omega
      rw [List.getElem?_append_left hil] at ht'
      have e1 : ¬ q.ans + 1 + i = num := by omega
      show (Mi F (if q.ans + 1 + i = num then bv else vb (q.ans + 1 + i)) _ ∧ appWho who num bv be v' (if q.ans + 1 + i = num then bv else vb (q.ans + 1 + i)) = _) ∧ Mi F (if q.ans + 1 + i = num then be else eb (q.ans + 1 + i)) _ ∧ appWho who num bv be v' (if q.ans + 1 + i = num then be else eb (q.ans + 1 + i)) = _
      rw [if_neg e1, if_neg e1]
      obtain ⟨⟨m1, m2⟩, m3, m4⟩ := hqW.r.mv i t ht'
      exact ⟨⟨m1.carry (big _ _ m2 (by omega)), keep _ _ m2 (by omega) (by omega)⟩, m3.carry (big _ _ m4 (by omega)), keep _ _ m4 (by omega) (by omega)⟩
  · unfold appWho
    have := hlb k hk'
    rw [if_neg this.1, if_neg this.2, if_pos hk']
  · rw [hsF]
    unfold appWho at hk'
    split at hk'
    · rename_i e; rw [e]; exact Nat.lt_of_lt_of_le hbl.1 hg.size
    · split at hk'
      · rename_i e; rw [e]; exact Nat.lt_of_lt_of_le hbl.2 hg.size
      · split at hk'
        · rename_i e; exact hrow.lt (by decide) e
        · exact Nat.lt_of_lt_of_le (hqW.r.here k hk') hg.size
  · unfold appWho
    rw [if_neg (by omega), if_neg (by omega), if_neg (fun e2 => by
      rcases hk k e2 with x | x
      · have := hq.r.wr k x; omega
      · have := hW.size; omega)]
    exact e
  · refine ⟨by rw [hF]; exact hg.os.trans hW.os, by rw [hF]; exact hg.tape.trans hW.tape, by rw [hF]; exact hg.output.trans hW.output, by rw [hsF]; exact Nat.le_trans hW.size hg.size, fun k hk' hz => stu k hk' (fun e => by have := hq.r.wr k e; omega) (fun e => by rw [e, hq.wB] at hz; omega)⟩
end Go.Proofs.Ytepbmfjimppgcaa
