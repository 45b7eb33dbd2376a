/-
  The document's map of slots: two lists of numbers; New and Give.
-/
import Derived.Test.YtmdnegjpdedcnaaSlCt
namespace Go.Proofs.Ytmdnegjpdedcnaa
open Go.RowKit

/-- n numbers that lie in a slice. -/
def IntsAt (w : World) (v : Value) (n : Nat) (f : Nat → Nat) : Prop := ∃ g off c, v = .slice (some ⟨g, off, none⟩) n c ∧ g < w.heap.size ∧ ∀ i, i < n → w.cell? ⟨g, off + i, none⟩ = some (.int .i64 (f i : Int))
theorem IntsAt.below {w w' : World} {v : Value} {n : Nat} {f : Nat → Nat} (h : IntsAt w v n f) (hb : Below w.heap.size w w') : IntsAt w' v n f := by
  obtain ⟨g, off, c, hv, hg, hc⟩ := h
  exact ⟨g, off, c, hv, Nat.lt_of_lt_of_le hg hb.size, fun i hi => (hb.cell (p := ⟨g, off + i, none⟩) hg).trans (hc i hi)⟩
/-- The document's map. -/
structure Rm (w : World) (vo ve : Value) (s : Sl.St) : Prop where
  o : IntsAt w vo 16 s.O
  e : IntsAt w ve 16 s.E
theorem Rm.below {w w' : World} {vo ve : Value} {s : Sl.St} (h : Rm w vo ve s) (hb : Below w.heap.size w w') : Rm w' vo ve s := ⟨h.o.below hb, h.e.below hb⟩

def intCells (f : Nat → Nat) (n : Nat) : List Value := (List.range n).map fun i => .int .i64 (f i : Int)
theorem intCells_len (f : Nat → Nat) (n : Nat) : (intCells f n).length = n := by simp [intCells]
theorem intCells_succ (f : Nat → Nat) (n : Nat) : intCells f (n + 1) = intCells f n ++ [.int .i64 (f n : Int)] := by simp [intCells, List.range_succ]
theorem intCells_at (f : Nat → Nat) (n i : Nat) (h : i < n) : (intCells f n)[i]? = some (.int .i64 (f i : Int)) := by simp [intCells, List.getElem?_range h]

/-- Two lists that are being made, in a map of the call's own. -/
structure Bd (u : World) (bm : Nat) (f g : Nat → Nat) (k j : Nat) (vo ve : Value) (X : World) : Prop where
  old : Below u.heap.size u X
  newm : u.heap.size ≤ bm
  ltm : bm < X.heap.size
  c0 : X.cell? ⟨bm, 0, none⟩ = some vo
  c1 : X.cell? ⟨bm, 1, none⟩ = some ve
  f0 : X.frozen? ⟨bm, 0, none⟩ = false
  f1 : X.frozen? ⟨bm, 1, none⟩ = false
  ro : RowC X 1 vo k (intCells f k)
  re : RowC X 1 ve j (intCells g j)
  no : ∀ q, cBlk vo = some q → u.heap.size ≤ q ∧ q ≠ bm
  ne : ∀ q, cBlk ve = some q → u.heap.size ≤ q ∧ q ≠ bm
  ap : ∀ q, cBlk vo = some q → cBlk ve = some q → False

theorem Bd.begin (u : World) (f g : Nat → Nat) : Bd u u.heap.size f g 0 0 (.slice none 0 0) (.slice none 0 0) (u.alloc (.cells #[.slice none 0 0, .slice none 0 0] 36)) := by
  refine ⟨below_alloc u _, Nat.le_refl _, by simp, ?_, ?_, ?_, ?_, RowC.nil _ _ _, RowC.nil _ _ _, fun q h => by simp [cBlk] at h, fun q h => by simp [cBlk] at h, fun q h => by simp [cBlk] at h⟩
  · exact World.cell?_alloc_mark u _ _ _ 0
  · exact World.cell?_alloc_mark u _ _ _ 1
  · rw [World.frozen?_alloc_mark]; simp
  · rw [World.frozen?_alloc_mark]; simp

theorem Bd.below {u X Y : World} {bm k j : Nat} {f g : Nat → Nat} {vo ve : Value} (h : Bd u bm f g k j vo ve X) (hb : Below X.heap.size X Y) : Bd u bm f g k j vo ve Y :=
  ⟨h.old.trans (hb.mono h.old.size), h.newm, Nat.lt_of_lt_of_le h.ltm hb.size, (hb.cell (p := ⟨bm, 0, none⟩) h.ltm).trans h.c0, (hb.cell (p := ⟨bm, 1, none⟩) h.ltm).trans h.c1, (hb.frozen (p := ⟨bm, 0, none⟩) h.ltm).trans h.f0, (hb.frozen (p := ⟨bm, 1, none⟩) h.ltm).trans h.f1,
    h.ro.carry (fun q hq => hb.block q (h.ro.lt (by decide) hq)), h.re.carry (fun q hq => hb.block q (h.re.lt (by decide) hq)), h.no, h.ne, h.ap⟩

theorem grown_below {u X Y : World} {r : Option Nat} (h : Below u.heap.size u X) (hg : X.grownBy Y r) (hr : ∀ q, r = some q → u.heap.size ≤ q) : Below u.heap.size u Y :=
  ⟨hg.os.trans h.os, hg.tape.trans h.tape, hg.output.trans h.output, Nat.le_trans h.size hg.size, fun k hk => by
    rw [hg.block k (Nat.lt_of_lt_of_le hk h.size) (fun e => by have := hr k e.symm; omega)]
    exact h.block k hk⟩

/-- The first list has one number more. -/
theorem Bd.putO {u X Y : World} {bm k j : Nat} {f g : Nat → Nat} {vo ve v' : Value} (h : Bd u bm f g k j vo ve X) (h1 : RowC Y 1 v' (k + 1) (intCells f k ++ [.int .i64 (f k : Int)])) (h2 : X.grownBy Y (cBlk vo)) (h3 : ∀ q, cBlk v' = some q → cBlk vo = some q ∨ X.heap.size ≤ q) :
    Y.cell? ⟨bm, 0, none⟩ = some vo ∧ Y.cell? ⟨bm, 1, none⟩ = some ve ∧ Y.frozen? ⟨bm, 0, none⟩ = false ∧ Y.frozen? ⟨bm, 1, none⟩ = false ∧ Bd u bm f g (k + 1) j v' ve (Y.setCell ⟨bm, 0, none⟩ v') := by
  have hm : Y.heap[bm]? = X.heap[bm]? := h2.block bm h.ltm (fun e => (h.no bm e.symm).2 rfl)
  have y0 := (World.cell?_of_block (a := ⟨bm, 0, none⟩) hm).trans h.c0
  have y1 := (World.cell?_of_block (a := ⟨bm, 1, none⟩) hm).trans h.c1
  have z0 := (World.frozen?_of_block (a := ⟨bm, 0, none⟩) hm).trans h.f0
  have z1 := (World.frozen?_of_block (a := ⟨bm, 1, none⟩) hm).trans h.f1
  have hX := h.old.size
  have hltm := h.ltm
  have hn : ∀ q, cBlk v' = some q → u.heap.size ≤ q ∧ q ≠ bm := fun q hq => by
    rcases h3 q hq with e | e
    · exact h.no q e
    · omega
  refine ⟨y0, y1, z0, z1, ?_⟩
  refine ⟨(grown_below h.old h2 (fun q e => (h.no q e).1)).setCell h.newm _, h.newm, by rw [size_set6]; exact Nat.lt_of_lt_of_le h.ltm h2.size, by rw [cell_set6 _ y0, if_pos rfl], by rw [cell_set6 _ y0, if_neg (by omega)]; exact y1, by rw [World.frozen?_setCell]; exact z0, by rw [World.frozen?_setCell]; exact z1, ?_, ?_, hn, h.ne, fun q e1 e2 => ?_⟩
  · rw [intCells_succ]
    exact h1.carry (fun q hq => Below.heap_setCell _ _ _ _ (fun e => (hn q hq).2 e))
  · refine h.re.carry (fun q hq => ?_)
    rw [Below.heap_setCell _ _ _ _ (fun e => (h.ne q hq).2 e)]
    exact h2.block q (h.re.lt (by decide) hq) (fun e => h.ap q e.symm hq)
  · rcases h3 q e1 with e | e
    · exact h.ap q e e2
    · have := h.re.lt (by decide) e2
      omega

/-- The second list has one number more. -/
theorem Bd.putE {u X Y : World} {bm k j : Nat} {f g : Nat → Nat} {vo ve v' : Value} (h : Bd u bm f g k j vo ve X) (h1 : RowC Y 1 v' (j + 1) (intCells g j ++ [.int .i64 (g j : Int)])) (h2 : X.grownBy Y (cBlk ve)) (h3 : ∀ q, cBlk v' = some q → cBlk ve = some q ∨ X.heap.size ≤ q) :
    Y.cell? ⟨bm, 0, none⟩ = some vo ∧ Y.cell? ⟨bm, 1, none⟩ = some ve ∧ Y.frozen? ⟨bm, 0, none⟩ = false ∧ Y.frozen? ⟨bm, 1, none⟩ = false ∧ Bd u bm f g k (j + 1) vo v' (Y.setCell ⟨bm, 1, none⟩ v') := by
  have hm : Y.heap[bm]? = X.heap[bm]? := h2.block bm h.ltm (fun e => (h.ne bm e.symm).2 rfl)
  have y0 := (World.cell?_of_block (a := ⟨bm, 0, none⟩) hm).trans h.c0
  have y1 := (World.cell?_of_block (a := ⟨bm, 1, none⟩) hm).trans h.c1
  have z0 := (World.frozen?_of_block (a := ⟨bm, 0, none⟩) hm).trans h.f0
  have z1 := (World.frozen?_of_block (a := ⟨bm, 1, none⟩) hm).trans h.f1
  have hX := h.old.size
  have hltm := h.ltm
  have hn : ∀ q, cBlk v' = some q → u.heap.size ≤ q ∧ q ≠ bm := fun q hq => by
    rcases h3 q hq with e | e
    · exact h.ne q e
    · omega
  refine ⟨y0, y1, z0, z1, ?_⟩
  refine ⟨(grown_below h.old h2 (fun q e => (h.ne q e).1)).setCell h.newm _, h.newm, by rw [size_set6]; exact Nat.lt_of_lt_of_le h.ltm h2.size, by rw [cell_set6 _ y1, if_neg (by omega)]; exact y0, by rw [cell_set6 _ y1, if_pos rfl], by rw [World.frozen?_setCell]; exact z0, by rw [World.frozen?_setCell]; exact z1, ?_, ?_, h.no, hn, fun q e1 e2 => ?_⟩
  · refine h.ro.carry (fun q hq => ?_)
    rw [Below.heap_setCell _ _ _ _ (fun e => (h.no q hq).2 e)]
    exact h2.block q (h.ro.lt (by decide) hq) (fun e => h.ap q hq e.symm)
  · rw [intCells_succ]
    exact h1.carry (fun q hq => Below.heap_setCell _ _ _ _ (fun e => (hn q hq).2 e))
  · rcases h3 q e2 with e | e
    · exact h.ap q e1 e
    · have := h.ro.lt (by decide) e1
      omega

theorem RowC.ints {X : World} {v : Value} {n : Nat} {f : Nat → Nat} (h : RowC X 1 v n (intCells f n)) (hn : 0 < n) : IntsAt X v n f := by
  obtain ⟨g, off, c, hv, _, _, _, hC⟩ := h.cells hn
  exact ⟨g, off, c + 1, hv, h.lt (by decide) (by rw [hv]; rfl), fun i hi => hC i _ (intCells_at f n i hi)⟩
theorem Bd.rm {u X : World} {bm : Nat} {s : Sl.St} {vo ve : Value} (h : Bd u bm s.O s.E 16 16 vo ve X) : Rm X vo ve s := ⟨h.ro.ints (by omega), h.re.ints (by omega)⟩
theorem Bd.shapes {u X : World} {bm k j : Nat} {f g : Nat → Nat} {vo ve : Value} (h : Bd u bm f g k j vo ve X) : ∃ p c p' c', vo = .slice p k c ∧ ve = .slice p' j c' := by
  obtain ⟨p, c, h1, _⟩ := h.ro.form
  obtain ⟨p', c', h2, _⟩ := h.re.form
  exact ⟨p, c, p', c', h1, h2⟩

/-- What is appended. -/
theorem src_int (X : World) (n : Int) : Src Try.prog 1 27 (.slice (some ⟨X.heap.size, 0, none⟩) 1 1) 1 [.int .i64 n] (X.alloc (.cells #[.int .i64 n] 3)) := by
  refine Src.ofSlice _ Try.underlying27 _ _ _ _ rfl (fun j u hu => ?_) (fun u hu => by simp at hu; subst hu; rfl)
  rw [Addr.add_lit, Nat.zero_add, World.cell?_alloc_mark]
  simpa using hu

def fin2 (X : World) (br : Nat) (a b : Value) : World := (X.setCell ⟨br, 0, none⟩ a).setCell ⟨br, 1, none⟩ b
theorem fin2_cells {X : World} {br : Nat} {x0 x1 : Value} (h0 : X.cell? ⟨br, 0, none⟩ = some x0) (h1 : X.cell? ⟨br, 1, none⟩ = some x1) (a b : Value) : (fin2 X br a b).cell? ⟨br, 0, none⟩ = some a ∧ (fin2 X br a b).cell? ⟨br, 1, none⟩ = some b := by
  unfold fin2
  have k1 : (X.setCell ⟨br, 0, none⟩ a).cell? ⟨br, 1, none⟩ = some x1 := by rw [cell_set6 _ h0, if_neg (by omega)]; exact h1
  exact ⟨by rw [cell_set6 _ k1, if_neg (by omega), cell_set6 _ h0, if_pos rfl], by rw [cell_set6 _ k1, if_pos rfl]⟩
theorem fin2_below {w X : World} {br : Nat} (hb : Below w.heap.size w X) (h1 : w.heap.size ≤ br) (a b : Value) : Below w.heap.size w (fin2 X br a b) := (hb.setCell (p := ⟨br, 0, none⟩) h1 _).setCell (p := ⟨br, 1, none⟩) h1 _
theorem fin2_other {X : World} {br k : Nat} (h1 : k ≠ br) (a b : Value) : (fin2 X br a b).heap[k]? = X.heap[k]? := by
  unfold fin2
  rw [Below.heap_setCell _ _ _ _ h1, Below.heap_setCell _ _ _ _ h1]
/-- Lists of the call's own, with the answer's two cells written. -/
theorem Rm.fin {u X : World} {bm br : Nat} {s : Sl.St} {vo ve : Value} (h : Bd u bm s.O s.E 16 16 vo ve X) (hb : br < u.heap.size) (a b : Value) : Rm (fin2 X br a b) vo ve s := by
  have key : ∀ (v : Value) (f : Nat → Nat), RowC X 1 v 16 (intCells f 16) → (∀ q, cBlk v = some q → u.heap.size ≤ q ∧ q ≠ bm) → IntsAt (fin2 X br a b) v 16 f := fun v f hr hn =>
    (hr.carry (fun q hq => fin2_other (by have := (hn q hq).1; omega) a b)).ints (by omega)
  exact ⟨key vo s.O h.ro h.no, key ve s.E h.re h.ne⟩

/-- The block that a slice's elements lie in. -/
def aBlk : Value → Option Nat
  | .slice (some a) _ _ => some a.block
  | _ => none
theorem Bd.fresh {u X : World} {bm : Nat} {f g : Nat → Nat} {vo ve : Value} (h : Bd u bm f g 16 16 vo ve X) : (∀ q, aBlk vo = some q → u.heap.size ≤ q) ∧ ∀ q, aBlk ve = some q → u.heap.size ≤ q := by
  have key : ∀ (v : Value) (f : Nat → Nat), RowC X 1 v 16 (intCells f 16) → (∀ q, cBlk v = some q → u.heap.size ≤ q ∧ q ≠ bm) → ∀ q, aBlk v = some q → u.heap.size ≤ q := fun v f hr hn q hq => by
    obtain ⟨g, off, c, hv, _⟩ := hr.cells (by omega)
    refine (hn q ?_).1
    rw [hv] at hq ⊢
    exact hq
  exact ⟨key vo f h.ro h.no, key ve g h.re h.ne⟩

theorem rNewS_bad (k : Int) (h : ¬ (1 ≤ k ∧ k ≤ 8)) (w : World) : Calls Try.prog 15 #[.int .i64 k] w fun e w' => e = .returned (.tuple #[.agg #[.slice none 0 0, .slice none 0 0], .int .i64 1]) ∧ Below w.heap.size w w' := by
  have HB : Hid (∀ o, Below w.heap.size w (w.alloc o)) := fun o => below_alloc w o
  by_cases h1 : k < 1
  · clear h
    go_enter Try.func15, Try.ntmps15
    go_wp2
    exact bodyPost_ret (v := .tuple #[.agg #[.slice none 0 0, .slice none 0 0], .int .i64 1]) (by simp [results, Try.results15, go_sem]) rfl ⟨rfl, HB.out _⟩
  · have h2 : k > 8 := by omega
    clear h
    go_enter Try.func15, Try.ntmps15
    go_wp2
    exact bodyPost_ret (v := .tuple #[.agg #[.slice none 0 0, .slice none 0 0], .int .i64 1]) (by simp [results, Try.results15, go_sem]) rfl ⟨rfl, HB.out _⟩

set_option maxHeartbeats 1600000 in
set_option maxRecDepth 20000 in
theorem rNewS_yes (k : Nat) (h : 1 ≤ k ∧ k ≤ 8) (w : World) : Calls Try.prog 15 #[.int .i64 (k : Int)] w fun e w' => ∃ vo ve, e = .returned (.tuple #[.agg #[vo, ve], .int .i64 0]) ∧ Rm w' vo ve (Sl.new k) ∧ Below w.heap.size w w' ∧ (∀ q, aBlk vo = some q → w.heap.size ≤ q) ∧ ∀ q, aBlk ve = some q → w.heap.size ≤ q := by
  obtain ⟨u, hu⟩ : ∃ u, u = w.alloc (.cells #[.slice none 0 0, .slice none 0 0] 36) := ⟨_, rfl⟩
  obtain ⟨br, hbr⟩ : ∃ br, br = w.heap.size := ⟨_, rfl⟩
  obtain ⟨bm, hbm⟩ : ∃ bm, bm = w.heap.size + 1 := ⟨_, rfl⟩
  obtain ⟨X0, hX0⟩ : ∃ X0, X0 = u.alloc (.cells #[.slice none 0 0, .slice none 0 0] 36) := ⟨_, rfl⟩
  have HBd : Hid (Bd u bm (Sl.new k).O (Sl.new k).E 0 0 (.slice none 0 0) (.slice none 0 0) X0) := by
    have := Bd.begin u (Sl.new k).O (Sl.new k).E
    rw [show u.heap.size = bm by rw [hu, hbm]; simp, ← hX0] at this
    exact this
  have HBu : Hid (Below w.heap.size w u ∧ br < u.heap.size ∧ w.heap.size ≤ br) := ⟨by rw [hu]; exact below_alloc w _, by rw [hu, hbr]; simp, by omega⟩
  have HRc : Hid (∀ X, Below u.heap.size u X → X.cell? ⟨br, 0, none⟩ = some (.slice none 0 0) ∧ X.cell? ⟨br, 1, none⟩ = some (.slice none 0 0) ∧ X.frozen? ⟨br, 0, none⟩ = false ∧ X.frozen? ⟨br, 1, none⟩ = false) := fun X hX => by
    have hlt := HBu.out.2.1
    rw [hX.cell (p := ⟨br, 0, none⟩) hlt, hX.cell (p := ⟨br, 1, none⟩) hlt, hX.frozen (p := ⟨br, 0, none⟩) hlt, hX.frozen (p := ⟨br, 1, none⟩) hlt, hu, hbr]
    refine ⟨World.cell?_alloc_mark w _ _ _ 0, World.cell?_alloc_mark w _ _ _ 1, ?_, ?_⟩ <;> (rw [World.frozen?_alloc_mark]; simp)
  have h1 : ¬ (k : Int) < 1 := by omega
  have h2 : ¬ (k : Int) > 8 := by omega
  have HK : Hid (1 ≤ k ∧ k ≤ 8) := h
  have hX0' : X0 = (w.alloc (.cells #[.slice none 0 0, .slice none 0 0] 36)).alloc (.cells #[.slice none 0 0, .slice none 0 0] 36) := by rw [hX0, hu]
  clear h hX0 hu
  go_enter Try.func15, Try.ntmps15
  go_wp2
  rw [← hX0', ← hbm, ← hbr]
  clear hX0' hbr hbm h1 h2
  go_loopw [5] (fun x wr => ∃ (n : Nat) (vo ve : Value), x = .int .i64 (n : Int) ∧ n ≤ 16 ∧ Hid (Bd u bm (Sl.new k).O (Sl.new k).E n n vo ve wr)) (fun x _ => 16 - (intOf x).toNat)
  case atStart => exact ⟨0, _, _, rfl, by omega, HBd⟩
  case round =>
    clear HBd
    obtain ⟨n, vo, ve, rfl, hn, HB⟩ := hrel
    obtain ⟨po, co, pe, ce, hvo, hve⟩ := HB.out.shapes
    subst hvo hve
    by_cases hlt : n < 16
    · have hk1 := HK.out.1
      have hk8 := HK.out.2
      have hmb := mul_b n k hlt hk8
      obtain ⟨m, hm⟩ : ∃ m : Nat, m = n * k := ⟨_, rfl⟩
      have hmI : (n : Int) * (k : Int) = (m : Int) := by rw [hm]; rfl
      have HE : Hid ((((Sl.new k).O n : Nat) : Int) = 1 + (m : Int) / 16) := by
        show (((1 + n * k / 16 : Nat)) : Int) = _
        rw [← hm]
        omega
      have hmb : m ≤ 120 := by rw [hm]; exact hmb
      have b0 := HB.out.c0
      obtain ⟨Z, hZ⟩ : ∃ Z, Z = wr.alloc (.cells #[.int .i64 (1 + (m : Int) / 16)] 3) := ⟨_, rfl⟩
      have hBZ : Bd u bm (Sl.new k).O (Sl.new k).E n n (.slice po n co) (.slice pe n ce) Z := HB.out.below (by rw [hZ]; exact below_alloc _ _)
      have HBZ : Hid _ := hBZ
      have HRow : Hid _ := hBZ.ro
      have z0 := hBZ.c0
      have zf := hBZ.f0
      have HSrc : Hid _ := src_int wr (1 + (m : Int) / 16)
      rw [← hZ] at HSrc
      have hL : Hid ((n + 1) * 8 ≤ 140737488355328 ∧ n + 1 ≤ maxLen) := by unfold maxLen; exact ⟨by omega, by omega⟩
      have HZs : Hid (Z.heap.size = wr.heap.size + 1) := by rw [hZ]; show _ = _; simp
      clear hm hk1 hk8 hBZ
      go_wp2_with (at_builtin; rw [← hZ]; refine wpList_append_rowC rfl (.tmp 19) (.tmp 25) 27 27 3 rfl Try.underlying27 _ 1 8 infoInt10 rfl (.slice po n co) n (intCells (Sl.new k).O n) rfl HRow.out _ 1 _ rfl HSrc.out hL.out.1 hL.out.2 ?qnext)
      case qnext =>
        intro v' Y a1 a2 a3
        obtain ⟨p1, c1, hv', _⟩ := a1.form
        subst hv'
        try rw [← hZ] at a2
        rw [← HE.out] at a1
        obtain ⟨y0, y1, yf0, yf1, hB2⟩ := HBZ.out.putO a1 a2 (fun q hq => Or.elim (a3 q hq) (fun e => .inl e) (fun e => .inr (by have := HZs.out; first | omega | (simp at e; omega))))
        obtain ⟨Z2, hZ2⟩ : ∃ Z2, Z2 = (Y.setCell ⟨bm, 0, none⟩ (.slice p1 (n + 1) c1)).alloc (.cells #[.int .i64 1] 3) := ⟨_, rfl⟩
        have hBZ2 : Bd u bm (Sl.new k).O (Sl.new k).E (n + 1) n (.slice p1 (n + 1) c1) (.slice pe n ce) Z2 := hB2.below (by rw [hZ2]; exact below_alloc _ _)
        have HBZ2 : Hid _ := hBZ2
        have HRow2 : Hid _ := hBZ2.re
        have x1 := hBZ2.c1
        have xf1 := hBZ2.f1
        have HSrc2 : Hid _ := src_int (Y.setCell ⟨bm, 0, none⟩ (.slice p1 (n + 1) c1)) 1
        rw [← hZ2] at HSrc2
        have HZs2 : Hid (Z2.heap.size = Y.heap.size + 1) := by rw [hZ2]; show _ = _; simp
        have HSz : Hid ((Y.setCell ⟨bm, 0, none⟩ (.slice p1 (n + 1) c1)).heap.size = Y.heap.size) := size_set6 _ _ _
        rw [HSz.out] at HSrc2
        clear a1 a2 a3 hB2 hBZ2 hZ HBZ z0 zf HRow b0
        go_wp2_with (at_builtin; rw [← hZ2]; refine wpList_append_rowC rfl (.tmp 29) (.tmp 30) 27 27 3 rfl Try.underlying27 _ 1 8 infoInt10 rfl (.slice pe n ce) n (intCells (Sl.new k).E n) rfl HRow2.out _ 1 _ rfl HSrc2.out hL.out.1 hL.out.2 ?qnext2)
        case qnext2 =>
          intro v2 Y2 a1 a2 a3
          obtain ⟨p2, c2, hv2, _⟩ := a1.form
          subst hv2
          try rw [← hZ2] at a2
          have a1' : RowC Y2 1 (.slice p2 (n + 1) c2) (n + 1) (intCells (Sl.new k).E n ++ [.int .i64 (((Sl.new k).E n : Nat) : Int)]) := a1
          obtain ⟨q0, q1, qf0, qf1, hB3⟩ := HBZ2.out.putE a1' a2 (fun q hq => Or.elim (a3 q hq) (fun e => .inl e) (fun e => .inr (by have := HZs2.out; first | omega | (simp at e; omega))))
          have HB3 : Hid _ := hB3
          clear a1 a2 a3 a1' hB3 hZ2 y0 y1 yf0 yf1 x1 xf1
          go_wp2
          go_roundw
          case rel => exact ⟨n + 1, _, _, by go_num, by omega, HB3⟩
          case measure => simp [intOf]; omega
    · obtain rfl : n = 16 := by omega
      obtain ⟨r0, r1, rf0, rf1⟩ := HRc.out wr HB.out.old
      have b0 := HB.out.c0
      have b1 := HB.out.c1
      obtain ⟨F, hF⟩ : ∃ F, F = fin2 wr br (.slice po 16 co) (.slice pe 16 ce) := ⟨_, rfl⟩
      obtain ⟨x0, x1⟩ := fin2_cells r0 r1 (.slice po 16 co) (.slice pe 16 ce)
      have HRm : Hid (Rm F (.slice po 16 co) (.slice pe 16 ce) (Sl.new k)) := by rw [hF]; exact Rm.fin HB.out HBu.out.2.1 _ _
      have HBF : Hid (Below w.heap.size w F) := by rw [hF]; exact fin2_below (HBu.out.1.trans (HB.out.old.mono HBu.out.1.size)) HBu.out.2.2 _ _
      rw [← hF] at x0 x1
      unfold fin2 at hF
      have hne : br ≠ bm := by have := HB.out.newm; have := HBu.out.2.1; omega
      go_wp2
      rw [← hF]
      clear hF
      refine bodyPost_ret (v := .tuple #[.agg #[.slice po 16 co, .slice pe 16 ce], .int .i64 0]) ?qres rfl ?qpost
      case qres => simp [results, Try.results15, go_sem, x0, x1]
      case qpost => exact ⟨_, _, rfl, HRm.out, HBF.out, fun q hq => Nat.le_trans HBu.out.1.size (HB.out.fresh.1 q hq), fun q hq => Nat.le_trans HBu.out.1.size (HB.out.fresh.2 q hq)⟩

end Go.Proofs.Ytmdnegjpdedcnaa
