/-
  The document's map of slots: two lists of numbers; New and Give.
-/
import Derived.Test.YtepbmfjimppgcaaSlCt
namespace Go.Proofs.Ytepbmfjimppgcaa
open Go.RowKit

/-- n numbers that lie in a slice. -/
def IntsAt (w : World) (v : Value) (n : Nat) (f : Nat → Nat) : Prop := ∃ g off c, v = .slice (some ⟨g, off, none⟩) n c ∧ g < w.heap.size ∧ ∀ i, i < n → w.cell? ⟨g, off + i, none⟩ = some (.int .i64 (f i : Int))
theorem IntsAt.below {w w' : World} {v : Value} {n : Nat} {f : Nat → Nat} (h : IntsAt w v n f) (hb : Below w.heap.size w w') : IntsAt w' v n f := by
  obtain ⟨g, off, c, hv, hg, hc⟩ := h
  exact ⟨g, off, c, hv, Nat.lt_of_lt_of_le hg hb.size, fun i hi => (hb.cell (p := ⟨g, off + i, none⟩) hg).trans (hc i hi)⟩
/-- The document's map. -/
structure Rm (w : World) (vo ve : Value) (s : Sl.St) : Prop where
  o : IntsAt w vo 16 s.O
  e : IntsAt w ve 16 s.E
theorem Rm.below {w w' : World} {vo ve : Value} {s : Sl.St} (h : Rm w vo ve s) (hb : Below w.heap.size w w') : Rm w' vo ve s := ⟨h.o.below hb, h.e.below hb⟩

def intCells (f : Nat → Nat) (n : Nat) : List Value := (List.range n).map fun i => .int .i64 (f i : Int)
theorem intCells_len (f : Nat → Nat) (n : Nat) : (intCells f n).length = n := by simp [intCells]
theorem intCells_succ (f : Nat → Nat) (n : Nat) : intCells f (n + 1) = intCells f n ++ [.int .i64 (f n : Int)] := by simp [intCells, List.range_succ]
theorem intCells_at (f : Nat → Nat) (n i : Nat) (h : i < n) : (intCells f n)[i]? = some (.int .i64 (f i : Int)) := by simp [intCells, List.getElem?_range h]

/-- Two lists that are being made, in a map of the call's own. -/
structure Bd (u : World) (bm : Nat) (f g : Nat → Nat) (k j : Nat) (vo ve : Value) (X : World) : Prop where
  old : Below u.heap.size u X
  newm : u.heap.size ≤ bm
  ltm : bm < X.heap.size
  c0 : X.cell? ⟨bm, 0, none⟩ = some vo
  c1 : X.cell? ⟨bm, 1, none⟩ = some ve
  f0 : X.frozen? ⟨bm, 0, none⟩ = false
  f1 : X.frozen? ⟨bm, 1, none⟩ = false
  ro : RowC X 1 vo k (intCells f k)
  re : RowC X 1 ve j (intCells g j)
  no : ∀ q, cBlk vo = some q → u.heap.size ≤ q ∧ q ≠ bm
  ne : ∀ q, cBlk ve = some q → u.heap.size ≤ q ∧ q ≠ bm
  ap : ∀ q, cBlk vo = some q → cBlk ve = some q → False


theorem Bd.below {u X Y : World} {bm k j : Nat} {f g : Nat → Nat} {vo ve : Value} (h : Bd u bm f g k j vo ve X) (hb : Below X.heap.size X Y) : Bd u bm f g k j vo ve Y :=
  ⟨h.old.trans (hb.mono h.old.size), h.newm, Nat.lt_of_lt_of_le h.ltm hb.size, (hb.cell (p := ⟨bm, 0, none⟩) h.ltm).trans h.c0, (hb.cell (p := ⟨bm, 1, none⟩) h.ltm).trans h.c1, (hb.frozen (p := ⟨bm, 0, none⟩) h.ltm).trans h.f0, (hb.frozen (p := ⟨bm, 1, none⟩) h.ltm).trans h.f1,
    h.ro.carry (fun q hq => hb.block q (h.ro.lt (by decide) hq)), h.re.carry (fun q hq => hb.block q (h.re.lt (by decide) hq)), h.no, h.ne, h.ap⟩

theorem sl_grown_below {u X Y : World} {r : Option Nat} (h : Below u.heap.size u X) (hg : X.grownBy Y r) (hr : ∀ q, r = some q → u.heap.size ≤ q) : Below u.heap.size u Y :=
  ⟨hg.os.trans h.os, hg.tape.trans h.tape, hg.output.trans h.output, Nat.le_trans h.size hg.size, fun k hk => by
    rw [hg.block k (Nat.lt_of_lt_of_le hk h.size) (fun e => by have := hr k e.symm; omega)]
    exact h.block k hk⟩

/-- The first list has one number more. -/
theorem Bd.putO {u X Y : World} {bm k j : Nat} {f g : Nat → Nat} {vo ve v' : Value} (h : Bd u bm f g k j vo ve X) (h1 : RowC Y 1 v' (k + 1) (intCells f k ++ [.int .i64 (f k : Int)])) (h2 : X.grownBy Y (cBlk vo)) (h3 : ∀ q, cBlk v' = some q → cBlk vo = some q ∨ X.heap.size ≤ q) :
    Y.cell? ⟨bm, 0, none⟩ = some vo ∧ Y.cell? ⟨bm, 1, none⟩ = some ve ∧ Y.frozen? ⟨bm, 0, none⟩ = false ∧ Y.frozen? ⟨bm, 1, none⟩ = false ∧ Bd u bm f g (k + 1) j v' ve (Y.setCell ⟨bm, 0, none⟩ v') := by
  have hm : Y.heap[bm]? = X.heap[bm]? := h2.block bm h.ltm (fun e => (h.no bm e.symm).2 rfl)
  have y0 := (World.cell?_of_block (a := ⟨bm, 0, none⟩) hm).trans h.c0
  have y1 := (World.cell?_of_block (a := ⟨bm, 1, none⟩) hm).trans h.c1
  have z0 := (World.frozen?_of_block (a := ⟨bm, 0, none⟩) hm).trans h.f0
  have z1 := (World.frozen?_of_block (a := ⟨bm, 1, none⟩) hm).trans h.f1
  have hX := h.old.size
  have hltm := h.ltm
  have hn : ∀ q, cBlk v' = some q → u.heap.size ≤ q ∧ q ≠ bm := fun q hq => by
    rcases h3 q hq with e | e
    · exact h.no q e
    · omega
  refine ⟨y0, y1, z0, z1, ?_⟩
  refine ⟨(sl_grown_below h.old h2 (fun q e => (h.no q e).1)).setCell h.newm _, h.newm, by rw [sl_size_set6]; exact Nat.lt_of_lt_of_le h.ltm h2.size, by rw [sl_cell_set6 _ y0, if_pos rfl], by rw [sl_cell_set6 _ y0, if_neg (by omega)]; exact y1, by rw [World.frozen?_setCell]; exact z0, by rw [World.frozen?_setCell]; exact z1, ?_, ?_, hn, h.ne, fun q e1 e2 => ?_⟩
  · rw [intCells_succ]
    exact h1.carry (fun q hq => Below.heap_setCell _ _ _ _ (fun e => (hn q hq).2 e))
  · refine h.re.carry (fun q hq => ?_)
    rw [Below.heap_setCell _ _ _ _ (fun e => (h.ne q hq).2 e)]
    exact h2.block q (h.re.lt (by decide) hq) (fun e => h.ap q e.symm hq)
  · rcases h3 q e1 with e | e
    · exact h.ap q e e2
    · have := h.re.lt (by decide) e2
      omega

/-- The second list has one number more. -/
theorem Bd.putE {u X Y : World} {bm k j : Nat} {f g : Nat → Nat} {vo ve v' : Value} (h : Bd u bm f g k j vo ve X) (h1 : RowC Y 1 v' (j + 1) (intCells g j ++ [.int .i64 (g j : Int)])) (h2 : X.grownBy Y (cBlk ve)) (h3 : ∀ q, cBlk v' = some q → cBlk ve = some q ∨ X.heap.size ≤ q) :
    Y.cell? ⟨bm, 0, none⟩ = some vo ∧ Y.cell? ⟨bm, 1, none⟩ = some ve ∧ Y.frozen? ⟨bm, 0, none⟩ = false ∧ Y.frozen? ⟨bm, 1, none⟩ = false ∧ Bd u bm f g k (j + 1) vo v' (Y.setCell ⟨bm, 1, none⟩ v') := by
  have hm : Y.heap[bm]? = X.heap[bm]? := h2.block bm h.ltm (fun e => (h.ne bm e.symm).2 rfl)
  have y0 := (World.cell?_of_block (a := ⟨bm, 0, none⟩) hm).trans h.c0
  have y1 := (World.cell?_of_block (a := ⟨bm, 1, none⟩) hm).trans h.c1
  have z0 := (World.frozen?_of_block (a := ⟨bm, 0, none⟩) hm).trans h.f0
  have z1 := (World.frozen?_of_block (a := ⟨bm, 1, none⟩) hm).trans h.f1
  have hX := h.old.size
  have hltm := h.ltm
  have hn : ∀ q, cBlk v' = some q → u.heap.size ≤ q ∧ q ≠ bm := fun q hq => by
    rcases h3 q hq with e | e
    · exact h.ne q e
    · omega
  refine ⟨y0, y1, z0, z1, ?_⟩
  refine ⟨(sl_grown_below h.old h2 (fun q e => (h.ne q e).1)).setCell h.newm _, h.newm, by rw [sl_size_set6]; exact Nat.lt_of_lt_of_le h.ltm h2.size, by rw [sl_cell_set6 _ y1, if_neg (by omega)]; exact y0, by rw [sl_cell_set6 _ y1, if_pos rfl], by rw [World.frozen?_setCell]; exact z0, by rw [World.frozen?_setCell]; exact z1, ?_, ?_, h.no, hn, fun q e1 e2 => ?_⟩
  · refine h.ro.carry (fun q hq => ?_)
    rw [Below.heap_setCell _ _ _ _ (fun e => (h.no q hq).2 e)]
    exact h2.block q (h.ro.lt (by decide) hq) (fun e => h.ap q hq e.symm)
  · rw [intCells_succ]
    exact h1.carry (fun q hq => Below.heap_setCell _ _ _ _ (fun e => (hn q hq).2 e))
  · rcases h3 q e2 with e | e
    · exact h.ap q e1 e
    · have := h.ro.lt (by decide) e1
      omega

theorem RowC.ints {X : World} {v : Value} {n : Nat} {f : Nat → Nat} (h : RowC X 1 v n (intCells f n)) (hn : 0 < n) : IntsAt X v n f := by
  obtain ⟨g, off, c, hv, _, _, _, hC⟩ := h.cells hn
  exact ⟨g, off, c + 1, hv, h.lt (by decide) (by rw [hv]; rfl), fun i hi => hC i _ (intCells_at f n i hi)⟩
theorem Bd.rm {u X : World} {bm : Nat} {s : Sl.St} {vo ve : Value} (h : Bd u bm s.O s.E 16 16 vo ve X) : Rm X vo ve s := ⟨h.ro.ints (by omega), h.re.ints (by omega)⟩
theorem Bd.shapes {u X : World} {bm k j : Nat} {f g : Nat → Nat} {vo ve : Value} (h : Bd u bm f g k j vo ve X) : ∃ p c p' c', vo = .slice p k c ∧ ve = .slice p' j c' := by
  obtain ⟨p, c, h1, _⟩ := h.ro.form
  obtain ⟨p', c', h2, _⟩ := h.re.form
  exact ⟨p, c, p', c', h1, h2⟩

/-- What is appended. -/
theorem src_int (X : World) (n : Int) : Src Try.prog 1 50 (.slice (some ⟨X.heap.size, 0, none⟩) 1 1) 1 [.int .i64 n] (X.alloc (.cells #[.int .i64 n] 3)) := by
  refine Src.ofSlice _ Try.underlying50 _ _ _ _ rfl (fun j u hu => ?_) (fun u hu => by simp at hu; subst hu; rfl)
  rw [Addr.add_lit, Nat.zero_add, World.cell?_alloc_mark]
  simpa using hu

def sl_fin2 (X : World) (br : Nat) (a b : Value) : World := (X.setCell ⟨br, 0, none⟩ a).setCell ⟨br, 1, none⟩ b
theorem fin2_cells {X : World} {br : Nat} {x0 x1 : Value} (h0 : X.cell? ⟨br, 0, none⟩ = some x0) (h1 : X.cell? ⟨br, 1, none⟩ = some x1) (a b : Value) : (sl_fin2 X br a b).cell? ⟨br, 0, none⟩ = some a ∧ (sl_fin2 X br a b).cell? ⟨br, 1, none⟩ = some b := by
  unfold sl_fin2
  have k1 : (X.setCell ⟨br, 0, none⟩ a).cell? ⟨br, 1, none⟩ = some x1 := by rw [sl_cell_set6 _ h0, if_neg (by omega)]; exact h1
  exact ⟨by rw [sl_cell_set6 _ k1, if_neg (by omega), sl_cell_set6 _ h0, if_pos rfl], by rw [sl_cell_set6 _ k1, if_pos rfl]⟩
theorem sl_fin2_below {w X : World} {br : Nat} (hb : Below w.heap.size w X) (h1 : w.heap.size ≤ br) (a b : Value) : Below w.heap.size w (sl_fin2 X br a b) := (hb.setCell (p := ⟨br, 0, none⟩) h1 _).setCell (p := ⟨br, 1, none⟩) h1 _
theorem sl_fin2_other {X : World} {br k : Nat} (h1 : k ≠ br) (a b : Value) : (sl_fin2 X br a b).heap[k]? = X.heap[k]? := by
  unfold sl_fin2
  rw [Below.heap_setCell _ _ _ _ h1, Below.heap_setCell _ _ _ _ h1]
/-- Lists of the call's own, with the answer's two cells written. -/
theorem Rm.fin {u X : World} {bm br : Nat} {s : Sl.St} {vo ve : Value} (h : Bd u bm s.O s.E 16 16 vo ve X) (hb : br < u.heap.size) (a b : Value) : Rm (sl_fin2 X br a b) vo ve s := by
  have key : ∀ (v : Value) (f : Nat → Nat), RowC X 1 v 16 (intCells f 16) → (∀ q, cBlk v = some q → u.heap.size ≤ q ∧ q ≠ bm) → IntsAt (sl_fin2 X br a b) v 16 f := fun v f hr hn =>
    (hr.carry (fun q hq => sl_fin2_other (by have := (hn q hq).1; omega) a b)).ints (by omega)
  exact ⟨key vo s.O h.ro h.no, key ve s.E h.re h.ne⟩

/-- The block that a slice's elements lie in. -/
def aBlk : Value → Option Nat
  | .slice (some a) _ _ => some a.block
  | _ => none
theorem Bd.fresh {u X : World} {bm : Nat} {f g : Nat → Nat} {vo ve : Value} (h : Bd u bm f g 16 16 vo ve X) : (∀ q, aBlk vo = some q → u.heap.size ≤ q) ∧ ∀ q, aBlk ve = some q → u.heap.size ≤ q := by
  have key : ∀ (v : Value) (f : Nat → Nat), RowC X 1 v 16 (intCells f 16) → (∀ q, cBlk v = some q → u.heap.size ≤ q ∧ q ≠ bm) → ∀ q, aBlk v = some q → u.heap.size ≤ q := fun v f hr hn q hq => by
    obtain ⟨g, off, c, hv, _⟩ := hr.cells (by omega)
    refine (hn q ?_).1
    rw [hv] at hq ⊢
    exact hq
  exact ⟨key vo f h.ro h.no, key ve g h.re h.ne⟩



end Go.Proofs.Ytepbmfjimppgcaa
