/-
  A map beside the document's map, through gives.
-/
import Derived.Test.YtmdnegjpdedcnabSlTold
namespace Go.Proofs.Ytmdnegjpdedcnab
open Go.RowKit

theorem IntsAt.carry {w w' : World} {v : Value} {n : Nat} {f : Nat → Nat} (h : IntsAt w v n f) (hs : w.heap.size ≤ w'.heap.size) (hk : ∀ q, aBlk v = some q → w'.heap[q]? = w.heap[q]?) : IntsAt w' v n f := by
  obtain ⟨g, off, c, hv, hg, hc⟩ := h
  have hb := hk g (by rw [hv]; rfl)
  exact ⟨g, off, c, hv, Nat.lt_of_lt_of_le hg hs, fun i hi => (World.cell?_of_block (a := ⟨g, off + i, none⟩) hb).trans (hc i hi)⟩
theorem IntsAt.lt {w : World} {v : Value} {n : Nat} {f : Nat → Nat} (h : IntsAt w v n f) {q : Nat} (hq : aBlk v = some q) : q < w.heap.size := by
  obtain ⟨g, off, c, hv, hg, hc⟩ := h
  rw [hv] at hq
  injection hq with e
  rw [← e]
  exact hg
theorem Rm.carry {w w' : World} {vo ve : Value} {s : Sl.St} (h : Rm w vo ve s) (hs : w.heap.size ≤ w'.heap.size) (ho : ∀ q, aBlk vo = some q → w'.heap[q]? = w.heap[q]?) (he : ∀ q, aBlk ve = some q → w'.heap[q]? = w.heap[q]?) : Rm w' vo ve s := ⟨h.o.carry hs ho, h.e.carry hs he⟩

/-- A map (s), a variable bq, and in the variable bn the document's map (s'). -/
structure Pb (w : World) (B bq bn : Nat) (s s' : Sl.St) (vo ve : Value) (X : World) : Prop where
  sn : Sn w X B s
  qnew : w.heap.size ≤ bq
  qne : bq ≠ B
  q0 : ∃ x, X.cell? ⟨bq, 0, none⟩ = some x
  q1 : ∃ x, X.cell? ⟨bq, 1, none⟩ = some x
  qf : ∀ j, X.frozen? ⟨bq, j, none⟩ = false
  nne : bn ≠ B
  nlt : bn < X.heap.size
  c0 : X.cell? ⟨bn, 0, none⟩ = some vo
  c1 : X.cell? ⟨bn, 1, none⟩ = some ve
  rm : Rm X vo ve s'
  so : ∀ q, aBlk vo = some q → q ≠ B ∧ q ≠ bq
  se : ∀ q, aBlk ve = some q → q ≠ B ∧ q ≠ bq

theorem Pb.qlt {w X : World} {B bq bn : Nat} {s s' : Sl.St} {vo ve : Value} (h : Pb w B bq bn s s' vo ve X) : bq < X.heap.size := by
  obtain ⟨x, hx⟩ := h.q0
  exact World.block_lt_of_cell? _ _ hx
theorem Pb.carry {w X Y : World} {B bq bn : Nat} {s s' s2 : Sl.St} {vo ve : Value} (h : Pb w B bq bn s s' vo ve X) (hn : Sn w Y B s2) (hk : KeptB B (fun _ => False) X Y) : Pb w B bq bn s2 s' vo ve Y := by
  have kq := hk.block bq h.qlt h.qne (fun e => e)
  have kn := hk.block bn h.nlt h.nne (fun e => e)
  obtain ⟨x, hx⟩ := h.q0
  obtain ⟨y, hy⟩ := h.q1
  exact ⟨hn, h.qnew, h.qne, ⟨x, (World.cell?_of_block (a := ⟨bq, 0, none⟩) kq).trans hx⟩, ⟨y, (World.cell?_of_block (a := ⟨bq, 1, none⟩) kq).trans hy⟩, fun j => (World.frozen?_of_block (a := ⟨bq, j, none⟩) kq).trans (h.qf j), h.nne, Nat.lt_of_lt_of_le h.nlt hk.size, (World.cell?_of_block (a := ⟨bn, 0, none⟩) kn).trans h.c0, (World.cell?_of_block (a := ⟨bn, 1, none⟩) kn).trans h.c1,
    h.rm.carry hk.size (fun q hq => hk.block q (h.rm.o.lt hq) (h.so q hq).1 (fun e => e)) (fun q hq => hk.block q (h.rm.e.lt hq) (h.se q hq).1 (fun e => e)), h.so, h.se⟩
theorem Pb.below {w X Y : World} {B bq bn : Nat} {s s' : Sl.St} {vo ve : Value} (h : Pb w B bq bn s s' vo ve X) (hb : Below X.heap.size X Y) : Pb w B bq bn s s' vo ve Y := h.carry (h.sn.below hb) (KeptB.ofBelow hb)
theorem Pb.aft {w X Y : World} {B bq bn : Nat} {s s' s2 : Sl.St} {vo ve : Value} (h : Pb w B bq bn s s' vo ve X) (ha : AftS X Y B s2) : Pb w B bq bn s2 s' vo ve Y := h.carry (h.sn.aft ha) ha.2

/-- Both maps are one; the document's lies in the variable bq. -/
def Pl (w : World) (B bq : Nat) (s : Sl.St) (vo ve : Value) (X : World) : Prop := Pb w B bq bq s s vo ve X

theorem Pb.done {w X : World} {B bq bn : Nat} {s : Sl.St} {vo ve : Value} (h : Pb w B bq bn s s vo ve X) : Pl w B bq s vo ve (fin2 X bq vo ve) := by
  obtain ⟨x, hx⟩ := h.q0
  obtain ⟨y, hy⟩ := h.q1
  obtain ⟨e0, e1⟩ := fin2_cells hx hy vo ve
  have hs : X.heap.size ≤ (fin2 X bq vo ve).heap.size := by unfold fin2; rw [size_set6, size_set6]; exact Nat.le_refl _
  refine ⟨⟨h.sn.sm.carry hs (fin2_other (fun e => h.qne e.symm) _ _), fin2_below h.sn.old h.qnew _ _, h.sn.new⟩, h.qnew, h.qne, ⟨_, e0⟩, ⟨_, e1⟩, fun j => by unfold fin2; rw [World.frozen?_setCell, World.frozen?_setCell]; exact h.qf j, h.qne, Nat.lt_of_lt_of_le h.qlt hs, e0, e1, ?_, h.so, h.se⟩
  exact h.rm.carry hs (fun q hq => fin2_other (h.so q hq).2 _ _) (fun q hq => fin2_other (h.se q hq).2 _ _)

theorem Pl.start {w X Y : World} {B : Nat} {s : Sl.St} {vo ve : Value} (hn : Sn w X B s) (hb : Below X.heap.size X Y) (hr : Rm Y vo ve s) (ho : ∀ q, aBlk vo = some q → X.heap.size ≤ q) (he : ∀ q, aBlk ve = some q → X.heap.size ≤ q) : Pl w B Y.heap.size s vo ve (Y.alloc (.cells #[vo, ve] 29)) := by
  have hB := hn.sm.lt
  have hsz := hb.size
  have hY := hn.below hb
  have hW := hn.old.size
  refine ⟨hY.below (below_alloc Y _), by omega, by omega, ⟨_, World.cell?_alloc_mark Y _ _ _ 0⟩, ⟨_, World.cell?_alloc_mark Y _ _ _ 1⟩, fun j => by rw [World.frozen?_alloc_mark]; simp, by omega, by simp, World.cell?_alloc_mark Y _ _ _ 0, World.cell?_alloc_mark Y _ _ _ 1, hr.below (below_alloc Y _), fun q hq => ?_, fun q hq => ?_⟩
  · have := ho q hq
    have := hr.o.lt hq
    omega
  · have := he q hq
    have := hr.e.lt hq
    omega

/-- A give on the document's side: its answer lies in a new variable, laid behind the call .. -/
theorem Pl.behind {w X Y : World} {B bq : Nat} {s s' : Sl.St} {vo ve vo' ve' : Value} (h : Pl w B bq s vo ve X) (hr : Rm Y vo' ve' s') (hb : Below X.heap.size X Y) (ho : ∀ q, aBlk vo' = some q → aBlk vo = some q ∨ X.heap.size ≤ q) (he : ∀ q, aBlk ve' = some q → aBlk ve = some q ∨ X.heap.size ≤ q) : Pb w B bq Y.heap.size s s' vo' ve' (Y.alloc (.cells #[vo', ve'] 29)) := by
  have hB := h.sn.sm.lt
  have hq := Pb.qlt h
  have hsz := hb.size
  have hY := Pb.below (Pb.below h hb) (below_alloc Y (.cells #[vo', ve'] 29))
  refine ⟨hY.sn, hY.qnew, hY.qne, hY.q0, hY.q1, hY.qf, by omega, by simp, World.cell?_alloc_mark Y _ _ _ 0, World.cell?_alloc_mark Y _ _ _ 1, hr.below (below_alloc Y _), fun q hq' => ?_, fun q hq' => ?_⟩
  · rcases ho q hq' with e | e
    · exact h.so q e
    · omega
  · rcases he q hq' with e | e
    · exact h.se q e
    · omega
/-- .. or ahead of it. -/
theorem Pl.ahead {w X W Y : World} {B bq : Nat} {s s' : Sl.St} {vo ve vo' ve' : Value} {o : Obj} (h : Pl w B bq s vo ve X) (hW : W = (X.alloc o).drew) (hr : Rm Y vo' ve' s') (hb : Below W.heap.size W Y) (ho : ∀ q, aBlk vo' = some q → aBlk vo = some q ∨ W.heap.size ≤ q) (he : ∀ q, aBlk ve' = some q → aBlk ve = some q ∨ W.heap.size ≤ q)
    {x0 x1 : Value} (y0 : Y.cell? ⟨X.heap.size, 0, none⟩ = some x0) (y1 : Y.cell? ⟨X.heap.size, 1, none⟩ = some x1) : Pb w B bq X.heap.size s s' vo' ve' (fin2 Y X.heap.size vo' ve') := by
  have hWs : W.heap.size = X.heap.size + 1 := by rw [hW]; simp
  have hB := h.sn.sm.lt
  have hq := Pb.qlt h
  have hsz := hb.size
  have hXW : Below X.heap.size X W := by rw [hW]; exact (below_alloc X o).drew
  have hY := Pb.below (Pb.below h hXW) hb
  obtain ⟨e0, e1⟩ := fin2_cells y0 y1 vo' ve'
  have hs : Y.heap.size ≤ (fin2 Y X.heap.size vo' ve').heap.size := by unfold fin2; rw [size_set6, size_set6]; exact Nat.le_refl _
  have kq : (fin2 Y X.heap.size vo' ve').heap[bq]? = Y.heap[bq]? := fin2_other (by omega) _ _
  have no : ∀ q, aBlk vo' = some q → q ≠ X.heap.size := fun q hq' => by
    rcases ho q hq' with e | e
    · have := h.rm.o.lt e; omega
    · omega
  have ne : ∀ q, aBlk ve' = some q → q ≠ X.heap.size := fun q hq' => by
    rcases he q hq' with e | e
    · have := h.rm.e.lt e; omega
    · omega
  obtain ⟨x, hx⟩ := hY.q0
  obtain ⟨y, hy⟩ := hY.q1
  refine ⟨⟨hY.sn.sm.carry hs (fin2_other (by omega) _ _), fin2_below hY.sn.old h.sn.old.size _ _, hY.sn.new⟩, hY.qnew, hY.qne, ⟨x, (World.cell?_of_block (a := ⟨bq, 0, none⟩) kq).trans hx⟩, ⟨y, (World.cell?_of_block (a := ⟨bq, 1, none⟩) kq).trans hy⟩, fun j => (World.frozen?_of_block (a := ⟨bq, j, none⟩) kq).trans (hY.qf j), by omega, by omega, e0, e1, hr.carry hs (fun q hq' => fin2_other (no q hq') _ _) (fun q hq' => fin2_other (ne q hq') _ _), fun q hq' => ?_, fun q hq' => ?_⟩
  · rcases ho q hq' with e | e
    · exact h.so q e
    · omega
  · rcases he q hq' with e | e
    · exact h.se q e
    · omega

theorem Rm.shapes {w : World} {vo ve : Value} {s : Sl.St} (h : Rm w vo ve s) : ∃ a1 b1 d1 a2 b2 d2, vo = .slice (some ⟨a1, b1, none⟩) 16 d1 ∧ ve = .slice (some ⟨a2, b2, none⟩) 16 d2 := by
  obtain ⟨g1, o1, c1, hv1, _⟩ := h.o
  obtain ⟨g2, o2, c2, hv2, _⟩ := h.e
  exact ⟨g1, o1, c1, g2, o2, c2, hv1, hv2⟩

/-- The document's Give, its box laid behind. -/
theorem rGive_behind {w X : World} {B bq : Nat} {s : Sl.St} {vo ve : Value} (h : Pl w B bq s vo ve X) (x y : Int) : Calls Try.prog 11 #[.agg #[vo, ve], .int .i64 x, .int .i64 y] X.drew fun e Y => ∃ a1 b1 d1 a2 b2 d2, e = .returned (.tuple #[.agg #[.slice (some ⟨a1, b1, none⟩) 16 d1, .slice (some ⟨a2, b2, none⟩) 16 d2], .int .i64 (Sl.giveE s x y : Int)]) ∧ Below X.heap.size X Y ∧
    Hid (Pb w B bq Y.heap.size s (Sl.give s x y) (.slice (some ⟨a1, b1, none⟩) 16 d1) (.slice (some ⟨a2, b2, none⟩) 16 d2) (Y.alloc (.cells #[.slice (some ⟨a1, b1, none⟩) 16 d1, .slice (some ⟨a2, b2, none⟩) 16 d2] 29))) := by
  have hd : Pl w B bq s vo ve X.drew := Pb.below h (below_drew X)
  refine (rGiveS_c hd.rm hd.sn.sm.ok x y).mono ?_
  rintro e Y ⟨vo', ve', rfl, h1, h2, h3, h4⟩
  obtain ⟨a1, b1, d1, a2, b2, d2, e1, e2⟩ := h1.shapes
  have hp := hd.behind h1 h2 h3 h4
  rw [e1, e2] at hp ⊢
  exact ⟨a1, b1, d1, a2, b2, d2, rfl, (below_drew X).trans h2, hp⟩
/-- Its box laid ahead. -/
theorem rGive_ahead {w X : World} {B bq : Nat} {s : Sl.St} {vo ve : Value} (h : Pl w B bq s vo ve X) (x y : Int) : Calls Try.prog 11 #[.agg #[vo, ve], .int .i64 x, .int .i64 y] (X.alloc (.cells #[.slice none 0 0, .slice none 0 0] 29)).drew fun e Y => ∃ a1 b1 d1 a2 b2 d2, e = .returned (.tuple #[.agg #[.slice (some ⟨a1, b1, none⟩) 16 d1, .slice (some ⟨a2, b2, none⟩) 16 d2], .int .i64 (Sl.giveE s x y : Int)]) ∧ Below X.heap.size X Y ∧ Y.cell? ⟨X.heap.size, 0, none⟩ = some (.slice none 0 0) ∧ Y.cell? ⟨X.heap.size, 1, none⟩ = some (.slice none 0 0) ∧ Y.frozen? ⟨X.heap.size, 0, none⟩ = false ∧ Y.frozen? ⟨X.heap.size, 1, none⟩ = false ∧
    Hid (Pb w B bq X.heap.size s (Sl.give s x y) (.slice (some ⟨a1, b1, none⟩) 16 d1) (.slice (some ⟨a2, b2, none⟩) 16 d2) ((Y.setCell ⟨X.heap.size, 0, none⟩ (.slice (some ⟨a1, b1, none⟩) 16 d1)).setCell ⟨X.heap.size, 1, none⟩ (.slice (some ⟨a2, b2, none⟩) 16 d2))) := by
  obtain ⟨W, hW⟩ : ∃ W, W = (X.alloc (.cells #[.slice none 0 0, .slice none 0 0] 29)).drew := ⟨_, rfl⟩
  have hXW : Below X.heap.size X W := by rw [hW]; exact (below_alloc X _).drew
  have hd : Pl w B bq s vo ve W := Pb.below h hXW
  have hlt : X.heap.size < W.heap.size := by rw [hW]; simp
  have k0 : W.cell? ⟨X.heap.size, 0, none⟩ = some (.slice none 0 0) := by rw [hW]; exact World.cell?_alloc_mark X _ _ _ 0
  have k1 : W.cell? ⟨X.heap.size, 1, none⟩ = some (.slice none 0 0) := by rw [hW]; exact World.cell?_alloc_mark X _ _ _ 1
  have f0 : ∀ j, W.frozen? ⟨X.heap.size, j, none⟩ = false := fun j => by
    rw [hW]
    show (X.alloc _).frozen? _ = false
    rw [World.frozen?_alloc_mark]
    simp
  rw [← hW]
  refine (rGiveS_c hd.rm hd.sn.sm.ok x y).mono ?_
  rintro e Y ⟨vo', ve', rfl, h1, h2, h3, h4⟩
  obtain ⟨a1, b1, d1, a2, b2, d2, e1, e2⟩ := h1.shapes
  have y0 := (h2.cell (p := ⟨X.heap.size, 0, none⟩) hlt).trans k0
  have y1 := (h2.cell (p := ⟨X.heap.size, 1, none⟩) hlt).trans k1
  have hp := Pl.ahead h hW h1 h2 h3 h4 y0 y1
  unfold fin2 at hp
  rw [e1, e2] at hp ⊢
  exact ⟨a1, b1, d1, a2, b2, d2, rfl, hXW.trans (h2.mono (Nat.le_of_lt hlt)), y0, y1, (h2.frozen (p := ⟨X.heap.size, 0, none⟩) hlt).trans (f0 0), (h2.frozen (p := ⟨X.heap.size, 1, none⟩) hlt).trans (f0 1), hp⟩

end Go.Proofs.Ytmdnegjpdedcnab
