/-
  The ranges of a map.
-/
import Derived.Test.YtepbmfjimppgcaaSlNew
import Derived.Deep.MidRow
namespace Go.Proofs.Ytepbmfjimppgcaa
open Go.RowKit

/-- A map's cells. -/
def smCells (s : Sl.St) : List Value := [.int .i64 (s.O 0 : Int), .int .i64 (s.E 0 : Int), .int .i64 (s.O 1 : Int), .int .i64 (s.E 1 : Int), .int .i64 (s.O 2 : Int), .int .i64 (s.E 2 : Int), .int .i64 (s.O 3 : Int), .int .i64 (s.E 3 : Int), .int .i64 (s.O 4 : Int), .int .i64 (s.E 4 : Int), .int .i64 (s.O 5 : Int), .int .i64 (s.E 5 : Int), .int .i64 (s.O 6 : Int), .int .i64 (s.E 6 : Int), .int .i64 (s.O 7 : Int), .int .i64 (s.E 7 : Int), .int .i64 (s.O 8 : Int), .int .i64 (s.E 8 : Int), .int .i64 (s.O 9 : Int), .int .i64 (s.E 9 : Int), .int .i64 (s.O 10 : Int), .int .i64 (s.E 10 : Int), .int .i64 (s.O 11 : Int), .int .i64 (s.E 11 : Int), .int .i64 (s.O 12 : Int), .int .i64 (s.E 12 : Int), .int .i64 (s.O 13 : Int), .int .i64 (s.E 13 : Int), .int .i64 (s.O 14 : Int), .int .i64 (s.E 14 : Int), .int .i64 (s.O 15 : Int), .int .i64 (s.E 15 : Int)]

theorem Sm.range_at {w : World} {B : Nat} {s : Sl.St} (h : Sm w B s) : ∀ (j : Nat) (v : Value), (smCells s)[j]? = some v → w.cell? ⟨B, j, none⟩ = some v
  | 0, _, hv => by injection hv with hv; rw [← hv]; exact h.o 0 (by omega)
  | 1, _, hv => by injection hv with hv; rw [← hv]; exact h.e 0 (by omega)
  | 2, _, hv => by injection hv with hv; rw [← hv]; exact h.o 1 (by omega)
  | 3, _, hv => by injection hv with hv; rw [← hv]; exact h.e 1 (by omega)
  | 4, _, hv => by injection hv with hv; rw [← hv]; exact h.o 2 (by omega)
  | 5, _, hv => by injection hv with hv; rw [← hv]; exact h.e 2 (by omega)
  | 6, _, hv => by injection hv with hv; rw [← hv]; exact h.o 3 (by omega)
  | 7, _, hv => by injection hv with hv; rw [← hv]; exact h.e 3 (by omega)
  | 8, _, hv => by injection hv with hv; rw [← hv]; exact h.o 4 (by omega)
  | 9, _, hv => by injection hv with hv; rw [← hv]; exact h.e 4 (by omega)
  | 10, _, hv => by injection hv with hv; rw [← hv]; exact h.o 5 (by omega)
  | 11, _, hv => by injection hv with hv; rw [← hv]; exact h.e 5 (by omega)
  | 12, _, hv => by injection hv with hv; rw [← hv]; exact h.o 6 (by omega)
  | 13, _, hv => by injection hv with hv; rw [← hv]; exact h.e 6 (by omega)
  | 14, _, hv => by injection hv with hv; rw [← hv]; exact h.o 7 (by omega)
  | 15, _, hv => by injection hv with hv; rw [← hv]; exact h.e 7 (by omega)
  | 16, _, hv => by injection hv with hv; rw [← hv]; exact h.o 8 (by omega)
  | 17, _, hv => by injection hv with hv; rw [← hv]; exact h.e 8 (by omega)
  | 18, _, hv => by injection hv with hv; rw [← hv]; exact h.o 9 (by omega)
  | 19, _, hv => by injection hv with hv; rw [← hv]; exact h.e 9 (by omega)
  | 20, _, hv => by injection hv with hv; rw [← hv]; exact h.o 10 (by omega)
  | 21, _, hv => by injection hv with hv; rw [← hv]; exact h.e 10 (by omega)
  | 22, _, hv => by injection hv with hv; rw [← hv]; exact h.o 11 (by omega)
  | 23, _, hv => by injection hv with hv; rw [← hv]; exact h.e 11 (by omega)
  | 24, _, hv => by injection hv with hv; rw [← hv]; exact h.o 12 (by omega)
  | 25, _, hv => by injection hv with hv; rw [← hv]; exact h.e 12 (by omega)
  | 26, _, hv => by injection hv with hv; rw [← hv]; exact h.o 13 (by omega)
  | 27, _, hv => by injection hv with hv; rw [← hv]; exact h.e 13 (by omega)
  | 28, _, hv => by injection hv with hv; rw [← hv]; exact h.o 14 (by omega)
  | 29, _, hv => by injection hv with hv; rw [← hv]; exact h.e 14 (by omega)
  | 30, _, hv => by injection hv with hv; rw [← hv]; exact h.o 15 (by omega)
  | 31, _, hv => by injection hv with hv; rw [← hv]; exact h.e 15 (by omega)
  | j + 32, _, hv => by cases hv
theorem Sm.range {w : World} {B : Nat} {s : Sl.St} (h : Sm w B s) : w.rangeAt B 0 (smCells s) := fun j v hv => by rw [Nat.zero_add]; exact h.range_at j v hv

theorem run_index10 (s : Sl.St) (w : World) : ∀ i : Nat, i < 16 → (Instr.index 75 (.agg (smCells s).toArray) (.int .i64 (i : Int))).run Try.prog w = .ok (.agg #[.int .i64 (s.O i : Int), .int .i64 (s.E i : Int)]) w
  | 0, _ => by kernel_rfl
  | 1, _ => by kernel_rfl
  | 2, _ => by kernel_rfl
  | 3, _ => by kernel_rfl
  | 4, _ => by kernel_rfl
  | 5, _ => by kernel_rfl
  | 6, _ => by kernel_rfl
  | 7, _ => by kernel_rfl
  | 8, _ => by kernel_rfl
  | 9, _ => by kernel_rfl
  | 10, _ => by kernel_rfl
  | 11, _ => by kernel_rfl
  | 12, _ => by kernel_rfl
  | 13, _ => by kernel_rfl
  | 14, _ => by kernel_rfl
  | 15, _ => by kernel_rfl
  | i + 16, h => by omega

theorem wpList_load10 {w : World} {ops : Array Oper} {rest : List Oper} {o : Oper} {a : Act} {Q : Exit → Act → World → Prop} (hgd : o.guard = none) (x : Operand) (ho : o.op = .load 75 x) {B : Nat} {s : Sl.St} (h : Sm w B s)
    (hx : a.eval x = .pointer (some ⟨B, 0, none⟩)) (hn : wpList Try.prog ops Q rest (a.put o.dst (.agg (smCells s).toArray)) w) : wpList Try.prog ops Q (o :: rest) a w :=
  wpList_load_mid hgd 75 x ho B 0 hx (smCells s) _ h.range Try.underlying75 rfl (by kernel_rfl) hn
theorem wpList_index10 {w : World} {ops : Array Oper} {rest : List Oper} {o : Oper} {a : Act} {Q : Exit → Act → World → Prop} (hgd : o.guard = none) (x y : Operand) (ho : o.op = .index 75 x y) {s : Sl.St} {i : Nat} (hi : i < 16)
    (hx : a.eval x = .agg (smCells s).toArray) (hy : a.eval y = .int .i64 (i : Int)) (hn : wpList Try.prog ops Q rest (a.put o.dst (.agg #[.int .i64 (s.O i : Int), .int .i64 (s.E i : Int)])) w) : wpList Try.prog ops Q (o :: rest) a w := by
  refine wpList_plain hgd fun _ hK => ?_
  unfold Oper.wp execOp
  simp only [ho, hx, hy, Sem.run_bind, Sem.run_pure, Result.andThen_ok, run_index10 s w i hi]
  exact hK _ _ hn

/-- Ranges as cells. -/
def rgCells (l : List (Nat × Nat × Nat)) : List Value := l.flatMap fun r => [.int .i64 (r.1 : Int), .int .i64 (r.2.1 : Int), .int .i64 (r.2.2 : Int)]
theorem rgCells_len (l : List (Nat × Nat × Nat)) : (rgCells l).length = l.length * 3 := by
  unfold rgCells
  induction l with
  | nil => rfl
  | cons a l ih => simp only [List.flatMap_cons, List.length_append, ih, List.length_cons, List.length_nil]; omega
theorem rgCells_append (l l' : List (Nat × Nat × Nat)) : rgCells (l ++ l') = rgCells l ++ rgCells l' := by simp [rgCells]
theorem rgCells_at : ∀ (l : List (Nat × Nat × Nat)) (i : Nat) (a b c : Nat), l[i]? = some (a, b, c) → (rgCells l)[i * 3]? = some (.int .i64 (a : Int)) ∧ (rgCells l)[i * 3 + 1]? = some (.int .i64 (b : Int)) ∧ (rgCells l)[i * 3 + 2]? = some (.int .i64 (c : Int))
  | [], i, _, _, _, h => by simp at h
  | r :: l, 0, a, b, c, h => by
    simp at h
    subst h
    simp [rgCells]
  | r :: l, i + 1, a, b, c, h => by
    obtain ⟨h1, h2, h3⟩ := rgCells_at l i a b c (by simpa using h)
    have e : rgCells (r :: l) = [.int .i64 (r.1 : Int), .int .i64 (r.2.1 : Int), .int .i64 (r.2.2 : Int)] ++ rgCells l := by simp [rgCells]
    rw [e]
    refine ⟨?_, ?_, ?_⟩
    · rw [List.getElem?_append_right (by simp; omega)]; simpa [show (i + 1) * 3 - 3 = i * 3 by omega] using h1
    · rw [List.getElem?_append_right (by simp; omega)]; simpa [show (i + 1) * 3 + 1 - 3 = i * 3 + 1 by omega] using h2
    · rw [List.getElem?_append_right (by simp; omega)]; simpa [show (i + 1) * 3 + 2 - 3 = i * 3 + 2 by omega] using h3

/-- One cell of a row changes. -/
theorem RowC.setAt {w : World} {size n : Nat} {x : Value} {xs : List Value} {g off c : Nat} (h : RowC w size (.slice (some ⟨g, off, none⟩) n (c + 1)) n xs) (i : Nat) (hi : i < xs.length) : RowC (w.setCell ⟨g, off + i, none⟩ x) size (.slice (some ⟨g, off, none⟩) n (c + 1)) n (xs.set i x) := by
  obtain ⟨hl, p0, c0, hv, hn, hc, hd⟩ := h
  injection hv with e1 e2 e3
  subst e1 e3
  rcases hd with hd | ⟨g', off', hp, hR, hC⟩
  · omega
  · injection hp with hp
    injection hp with p1 p2 p3
    subst p1 p2
    have hx0 : w.cell? ⟨g, off + i, none⟩ = some (xs[i]'(by omega)) := hC i _ (List.getElem?_eq_getElem _)
    refine ⟨by rw [List.length_set]; exact hl, _, _, rfl, hn, hc, .inr ⟨g, off, rfl, fun j hj => ?_, fun j y hy => ?_⟩⟩
    · obtain ⟨r1, r2⟩ := hR j hj
      refine ⟨?_, by rw [World.frozen?_setCell]; exact r2⟩
      rw [sl_cell_set6 x hx0 (off + j)]
      split
      · rfl
      · exact r1
    · rw [sl_cell_set6 x hx0 (off + j)]
      by_cases e : j = i
      · subst e
        rw [List.getElem?_set_self (by omega)] at hy
        rw [if_pos rfl]
        exact hy
      · rw [List.getElem?_set_ne (fun q => e q.symm)] at hy
        rw [if_neg (by omega)]
        exact hC j y hy

/-- A list of ranges of the call's own. -/
structure Rg (w X : World) (v : Value) (l : List (Nat × Nat × Nat)) : Prop where
  row : RowC X 3 v l.length (rgCells l)
  old : Below w.heap.size w X
  new : ∀ k, cBlk v = some k → w.heap.size ≤ k

theorem Rg.nil (w : World) : Rg w w (.slice none 0 0) [] := ⟨RowC.nil _ _ _, Below.refl _ _, fun k h => by simp [cBlk] at h⟩
theorem Rg.below {w X Y : World} {v : Value} {l : List (Nat × Nat × Nat)} (h : Rg w X v l) (hb : Below X.heap.size X Y) : Rg w Y v l :=
  ⟨h.row.carry (fun k hk => hb.block k (h.row.lt (by decide) hk)), h.old.trans (hb.mono h.old.size), h.new⟩
theorem Rg.snoc {w X Y : World} {v v' : Value} {l : List (Nat × Nat × Nat)} (h : Rg w X v l) (a b c : Nat)
    (h1 : RowC Y 3 v' (l.length + 1) (rgCells l ++ [.int .i64 (a : Int), .int .i64 (b : Int), .int .i64 (c : Int)])) (h2 : X.grownBy Y (cBlk v)) (h3 : ∀ k, cBlk v' = some k → cBlk v = some k ∨ X.heap.size ≤ k) : Rg w Y v' (l ++ [(a, b, c)]) := by
  have hs := h.old.size
  refine ⟨?_, ?_, fun k hk => ?_⟩
  · rw [List.length_append, rgCells_append]
    exact h1
  · refine ⟨h2.os.trans h.old.os, h2.tape.trans h.old.tape, h2.output.trans h.old.output, Nat.le_trans hs h2.size, fun k hk => ?_⟩
    rw [h2.block k (by omega) (fun e => by have := h.new k e.symm; omega)]
    exact h.old.block k hk
  · rcases h3 k hk with e | e
    · exact h.new k e
    · omega
theorem Rg.last {w X : World} {v : Value} {pre : List (Nat × Nat × Nat)} {a b c : Nat} (h : Rg w X v (pre ++ [(a, b, c)])) : ∃ g off cc, v = .slice (some ⟨g, off, none⟩) (pre.length + 1) (cc + 1) ∧ X.cell? ⟨g, off + pre.length * 3 + 2, none⟩ = some (.int .i64 (c : Int)) ∧
    X.cell? ⟨g, off + pre.length * 3 + 1, none⟩ = some (.int .i64 (b : Int)) ∧ X.frozen? ⟨g, off + pre.length * 3 + 1, none⟩ = false ∧ w.heap.size ≤ g ∧ g < X.heap.size ∧
    ∀ (Y : World) (n : Nat), Rg w Y v (pre ++ [(a, b, c)]) → Rg w (Y.setCell ⟨g, off + pre.length * 3 + 1, none⟩ (.int .i64 (n : Int))) v (pre ++ [(a, n, c)]) := by
  have hl : (pre ++ [(a, b, c)]).length = pre.length + 1 := by simp
  obtain ⟨g, off, cc, hv, hn, hm, hR, hC⟩ := h.row.cells (by omega)
  rw [hl] at hv hn
  have hat : (pre ++ [(a, b, c)])[pre.length]? = some (a, b, c) := by simp
  obtain ⟨e0, e1, e2⟩ := rgCells_at _ _ _ _ _ hat
  have hlt := h.row.lt (by decide) (k := g) (by rw [hv]; rfl)
  refine ⟨g, off, cc, hv, by rw [Nat.add_assoc]; exact hC _ _ e2, by rw [Nat.add_assoc]; exact hC _ _ e1, by rw [Nat.add_assoc]; exact (hR _ (by omega)).2, h.new g (by rw [hv]; rfl), hlt, fun Y n hY => ?_⟩
  have hlen : (rgCells (pre ++ [(a, b, c)])).length = (pre.length + 1) * 3 := by rw [rgCells_len, hl]
  have hrow := hY.row
  rw [hl, hv] at hrow
  have := hrow.setAt (x := .int .i64 (n : Int)) (pre.length * 3 + 1) (by omega)
  have e : (rgCells (pre ++ [(a, b, c)])).set (pre.length * 3 + 1) (.int .i64 (n : Int)) = rgCells (pre ++ [(a, n, c)]) := by
    rw [rgCells_append, rgCells_append, List.set_append, if_neg (by rw [rgCells_len]; omega), rgCells_len, show pre.length * 3 + 1 - pre.length * 3 = 1 by omega]
    rfl
  rw [e] at this
  refine ⟨?_, hY.old.setCell (by show w.heap.size ≤ g; exact h.new g (by rw [hv]; rfl)) _, h.new⟩
  rw [show (pre ++ [(a, n, c)]).length = pre.length + 1 by simp, hv, Nat.add_assoc]
  exact this



end Go.Proofs.Ytepbmfjimppgcaa
