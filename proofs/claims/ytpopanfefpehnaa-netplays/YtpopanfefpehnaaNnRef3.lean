/-
  The document's net: Take.
-/
import Derived.Test.YtpopanfefpehnaaNnRef2
namespace Go.Proofs.Ytpopanfefpehnaa
open Go.RowKit

theorem run_rcutLow (p : Option Addr) (n c l : Nat) (h1 : l ≤ n) (W : World) :
    (Instr.slice 27 (.slice p n c) (some (.int .i64 (l : Int))) none none).run Try.prog W = .ok (.slice (cutP p l c 3) (n - l) (c - l)) W := by
  simp [Instr.slice, run_underlying Try.underlying27, Instr.sliceBounds, Instr.sliceBound, asIntOf, h1, cutP]
theorem run_rcutHigh (p : Option Addr) (n c h : Nat) (h1 : h ≤ c) (W : World) :
    (Instr.slice 27 (.slice p n c) none (some (.int .i64 (h : Int))) none).run Try.prog W = .ok (.slice (cutP p 0 c 3) (h - 0) (c - 0)) W := by
  simp [Instr.slice, run_underlying Try.underlying27, Instr.sliceBounds, Instr.sliceBound, asIntOf, h1, cutP]

/-- The boxes of Take: the net, what is answered. -/
structure B4 (bn br bz : Nat) (most : Int) (v : Value) (X : World) : Prop where
  n0 : X.cell? ⟨bn, 0, none⟩ = some (.int .i64 most)
  n1 : X.cell? ⟨bn, 1, none⟩ = some v
  r0 : X.cell? ⟨br, 0, none⟩ = some (.int .i64 0)
  r1 : X.cell? ⟨br, 1, none⟩ = some (.slice none 0 0)
  z0 : X.cell? ⟨bz, 0, none⟩ = some (.int .i64 0)
  z1 : X.cell? ⟨bz, 1, none⟩ = some (.int .i64 0)
  z2 : X.cell? ⟨bz, 2, none⟩ = some (.string ⟨#[]⟩)
  fn : X.frozen? ⟨bn, 1, none⟩ = false
  fr : ∀ j, X.frozen? ⟨br, j, none⟩ = false
  fz : ∀ j, X.frozen? ⟨bz, j, none⟩ = false

theorem B4.keep {X Y : World} {bn br bz : Nat} {most : Int} {v : Value} (h : B4 bn br bz most v X) (hn : Y.heap[bn]? = X.heap[bn]?) (hr : Y.heap[br]? = X.heap[br]?) (hz : Y.heap[bz]? = X.heap[bz]?) : B4 bn br bz most v Y :=
  ⟨(World.cell?_of_block (a := ⟨bn, 0, none⟩) hn).trans h.n0, (World.cell?_of_block (a := ⟨bn, 1, none⟩) hn).trans h.n1, (World.cell?_of_block (a := ⟨br, 0, none⟩) hr).trans h.r0, (World.cell?_of_block (a := ⟨br, 1, none⟩) hr).trans h.r1, (World.cell?_of_block (a := ⟨bz, 0, none⟩) hz).trans h.z0, (World.cell?_of_block (a := ⟨bz, 1, none⟩) hz).trans h.z1, (World.cell?_of_block (a := ⟨bz, 2, none⟩) hz).trans h.z2,
    (World.frozen?_of_block (a := ⟨bn, 1, none⟩) hn).trans h.fn, fun j => (World.frozen?_of_block (a := ⟨br, j, none⟩) hr).trans (h.fr j), fun j => (World.frozen?_of_block (a := ⟨bz, j, none⟩) hz).trans (h.fz j)⟩
theorem B4.below {X Y : World} {bn br bz : Nat} {most : Int} {v : Value} (h : B4 bn br bz most v X) (hb : Below X.heap.size X Y) : B4 bn br bz most v Y :=
  h.keep (hb.block bn (World.block_lt_of_cell? _ _ h.n0)) (hb.block br (World.block_lt_of_cell? _ _ h.r0)) (hb.block bz (World.block_lt_of_cell? _ _ h.z0))

theorem B4.start (w : World) (most : Int) (v : Value) : B4 w.heap.size (w.heap.size + 1) (w.heap.size + 1 + 1) most v (((w.alloc (.cells #[.int .i64 most, v] 29)).alloc (.cells #[.int .i64 0, .slice none 0 0] 29)).alloc (.cells #[.int .i64 0, .int .i64 0, .string ⟨#[]⟩] 82)) := by
  obtain ⟨A, hA⟩ : ∃ A, A = w.alloc (.cells #[.int .i64 most, v] 29) := ⟨_, rfl⟩
  obtain ⟨C, hC⟩ : ∃ C, C = A.alloc (.cells #[.int .i64 0, .slice none 0 0] 29) := ⟨_, rfl⟩
  have sA : A.heap.size = w.heap.size + 1 := by rw [hA]; simp
  have sC : C.heap.size = w.heap.size + 1 + 1 := by rw [hC]; simp [sA]
  have en : ∀ j, A.cell? ⟨w.heap.size, j, none⟩ = (#[.int .i64 most, v] : Array Value)[j]? := fun j => by rw [hA]; exact World.cell?_alloc_mark w _ _ _ j
  have fn : ∀ j, A.frozen? ⟨w.heap.size, j, none⟩ = false := fun j => by rw [hA, World.frozen?_alloc_mark]; simp
  have er : ∀ j, C.cell? ⟨w.heap.size + 1, j, none⟩ = (#[.int .i64 0, .slice none 0 0] : Array Value)[j]? := fun j => by
    have e := World.cell?_alloc_mark A #[.int .i64 0, .slice none 0 0] 29 (0, 0) j
    rw [sA] at e
    rw [hC]
    exact e
  have fr : ∀ j, C.frozen? ⟨w.heap.size + 1, j, none⟩ = false := fun j => by
    have e := World.frozen?_alloc_mark A #[.int .i64 0, .slice none 0 0] 29 0 0 j
    rw [sA] at e
    rw [hC, e]
    simp
  rw [← hA, ← hC]
  have bA : Below A.heap.size A (C.alloc (.cells #[.int .i64 0, .int .i64 0, .string ⟨#[]⟩] 82)) := by rw [hC]; exact (below_alloc _ _).trans ((below_alloc _ _).mono (by simp))
  have bC := below_alloc C (.cells #[.int .i64 0, .int .i64 0, .string ⟨#[]⟩] 82)
  have ez : ∀ j, (C.alloc (.cells #[.int .i64 0, .int .i64 0, .string ⟨#[]⟩] 82)).cell? ⟨w.heap.size + 1 + 1, j, none⟩ = (#[.int .i64 0, .int .i64 0, .string ⟨#[]⟩] : Array Value)[j]? := fun j => by
    have e := World.cell?_alloc_mark C #[.int .i64 0, .int .i64 0, .string ⟨#[]⟩] 82 (0, 0) j
    rw [sC] at e
    exact e
  have fz : ∀ j, (C.alloc (.cells #[.int .i64 0, .int .i64 0, .string ⟨#[]⟩] 82)).frozen? ⟨w.heap.size + 1 + 1, j, none⟩ = false := fun j => by
    have e := World.frozen?_alloc_mark C #[.int .i64 0, .int .i64 0, .string ⟨#[]⟩] 82 0 0 j
    rw [sC] at e
    rw [e]
    simp
  exact ⟨(bA.cell (p := ⟨w.heap.size, 0, none⟩) (by show w.heap.size < _; omega)).trans (en 0), (bA.cell (p := ⟨w.heap.size, 1, none⟩) (by show w.heap.size < _; omega)).trans (en 1), (bC.cell (p := ⟨w.heap.size + 1, 0, none⟩) (by show w.heap.size + 1 < _; omega)).trans (er 0), (bC.cell (p := ⟨w.heap.size + 1, 1, none⟩) (by show w.heap.size + 1 < _; omega)).trans (er 1), ez 0, ez 1, ez 2,
    (bA.frozen (p := ⟨w.heap.size, 1, none⟩) (by show w.heap.size < _; omega)).trans (fn 1), fun j => (bC.frozen (p := ⟨w.heap.size + 1, j, none⟩) (by show w.heap.size + 1 < _; omega)).trans (fr j), fz⟩

theorem cell_drew (W : World) (a : Addr) : W.drew.cell? a = W.cell? a := rfl
theorem heap_drew (W : World) : W.drew.heap = W.heap := rfl

/-- Both answers stored. -/
def fin5 (X : World) (br bz : Nat) (a b d0 d1 d2 : Value) : World := ((((X.setCell ⟨br, 0, none⟩ a).setCell ⟨br, 1, none⟩ b).setCell ⟨bz, 0, none⟩ d0).setCell ⟨bz, 1, none⟩ d1).setCell ⟨bz, 2, none⟩ d2

theorem fin5_cells {X : World} {br bz : Nat} {x0 x1 y0 y1 y2 : Value} (hne : br ≠ bz) (h0 : X.cell? ⟨br, 0, none⟩ = some x0) (h1 : X.cell? ⟨br, 1, none⟩ = some x1) (g0 : X.cell? ⟨bz, 0, none⟩ = some y0) (g1 : X.cell? ⟨bz, 1, none⟩ = some y1) (g2 : X.cell? ⟨bz, 2, none⟩ = some y2) (a b d0 d1 d2 : Value) :
    ((fin5 X br bz a b d0 d1 d2).cell? ⟨br, 0, none⟩ = some a ∧ (fin5 X br bz a b d0 d1 d2).cell? ⟨br, 1, none⟩ = some b) ∧ (fin5 X br bz a b d0 d1 d2).cell? ⟨bz, 0, none⟩ = some d0 ∧ (fin5 X br bz a b d0 d1 d2).cell? ⟨bz, 1, none⟩ = some d1 ∧ (fin5 X br bz a b d0 d1 d2).cell? ⟨bz, 2, none⟩ = some d2 := by
  unfold fin5
  have k1 : (X.setCell ⟨br, 0, none⟩ a).cell? ⟨br, 1, none⟩ = some x1 := by rw [cell_set6 _ h0, if_neg (by omega)]; exact h1
  have r : ∀ q, ((X.setCell ⟨br, 0, none⟩ a).setCell ⟨br, 1, none⟩ b).cell? ⟨br, q, none⟩ = if q = 1 then some b else if q = 0 then some a else X.cell? ⟨br, q, none⟩ := fun q => by rw [cell_set6 _ k1, cell_set6 _ h0]
  have zz : ∀ q, ((X.setCell ⟨br, 0, none⟩ a).setCell ⟨br, 1, none⟩ b).cell? ⟨bz, q, none⟩ = X.cell? ⟨bz, q, none⟩ := fun q => by rw [World.cell?_of_block (a := ⟨bz, q, none⟩) (Below.heap_setCell _ _ _ _ hne.symm), World.cell?_of_block (a := ⟨bz, q, none⟩) (Below.heap_setCell _ _ _ _ hne.symm)]
  have z0 := (zz 0).trans g0
  have z1 : (((X.setCell ⟨br, 0, none⟩ a).setCell ⟨br, 1, none⟩ b).setCell ⟨bz, 0, none⟩ d0).cell? ⟨bz, 1, none⟩ = some y1 := by rw [cell_set6 _ z0, if_neg (by omega), zz]; exact g1
  have z2 : ((((X.setCell ⟨br, 0, none⟩ a).setCell ⟨br, 1, none⟩ b).setCell ⟨bz, 0, none⟩ d0).setCell ⟨bz, 1, none⟩ d1).cell? ⟨bz, 2, none⟩ = some y2 := by rw [cell_set6 _ z1, if_neg (by omega), cell_set6 _ z0, if_neg (by omega), zz]; exact g2
  have rr : ∀ q, (((((X.setCell ⟨br, 0, none⟩ a).setCell ⟨br, 1, none⟩ b).setCell ⟨bz, 0, none⟩ d0).setCell ⟨bz, 1, none⟩ d1).setCell ⟨bz, 2, none⟩ d2).cell? ⟨br, q, none⟩ = ((X.setCell ⟨br, 0, none⟩ a).setCell ⟨br, 1, none⟩ b).cell? ⟨br, q, none⟩ := fun q => by rw [World.cell?_of_block (a := ⟨br, q, none⟩) (Below.heap_setCell _ _ _ _ hne), World.cell?_of_block (a := ⟨br, q, none⟩) (Below.heap_setCell _ _ _ _ hne), World.cell?_of_block (a := ⟨br, q, none⟩) (Below.heap_setCell _ _ _ _ hne)]
  refine ⟨⟨by rw [rr, r]; rfl, by rw [rr, r]; rfl⟩, by rw [cell_set6 _ z2, if_neg (by omega), cell_set6 _ z1, if_neg (by omega), cell_set6 _ z0, if_pos rfl], by rw [cell_set6 _ z2, if_neg (by omega), cell_set6 _ z1, if_pos rfl], by rw [cell_set6 _ z2, if_pos rfl]⟩

theorem fin5_below {w X : World} {br bz : Nat} (hb : Below w.heap.size w X) (h1 : w.heap.size ≤ br) (h2 : w.heap.size ≤ bz) (a b d0 d1 d2 : Value) : Below w.heap.size w (fin5 X br bz a b d0 d1 d2) :=
  ((((hb.setCell (p := ⟨br, 0, none⟩) h1 _).setCell (p := ⟨br, 1, none⟩) h1 _).setCell (p := ⟨bz, 0, none⟩) h2 _).setCell (p := ⟨bz, 1, none⟩) h2 _).setCell (p := ⟨bz, 2, none⟩) h2 _
theorem fin5_other {X : World} {br bz k : Nat} (h1 : k ≠ br) (h2 : k ≠ bz) (a b d0 d1 d2 : Value) : (fin5 X br bz a b d0 d1 d2).heap[k]? = X.heap[k]? := by
  unfold fin5
  rw [Below.heap_setCell _ _ _ _ h2, Below.heap_setCell _ _ _ _ h2, Below.heap_setCell _ _ _ _ h2, Below.heap_setCell _ _ _ _ h1, Below.heap_setCell _ _ _ _ h1]

section
variable {w : World} {v : Value} {ls : List Q.Lt}

set_option maxHeartbeats 800000 in
theorem rTake_none (h : Ls w v ls) (h0 : ls = []) (most k : Int) : Calls Try.prog 32 #[.agg #[.int .i64 most, v], .int .i64 k] w fun e w' => e = .returned (.tuple #[.agg #[.int .i64 most, v], .agg #[.int .i64 0, .int .i64 0, .string ⟨#[]⟩], .bool false]) ∧ ROut w v w' v ls := by
  obtain ⟨u, hu⟩ : ∃ u, u = ((w.alloc (.cells #[.int .i64 most, v] 29)).alloc (.cells #[.int .i64 0, .slice none 0 0] 29)).alloc (.cells #[.int .i64 0, .int .i64 0, .string ⟨#[]⟩] 82) := ⟨_, rfl⟩
  have hbu : Below w.heap.size w u := by rw [hu]; exact ((below_alloc _ _).trans ((below_alloc _ _).mono (by simp))).trans ((below_alloc _ _).mono (by simp; omega))
  have hB4 : B4 w.heap.size (w.heap.size + 1) (w.heap.size + 1 + 1) most v u := by rw [hu]; exact B4.start w most v
  obtain ⟨bn, hbn⟩ : ∃ bn, bn = w.heap.size := ⟨_, rfl⟩
  obtain ⟨br, hbr⟩ : ∃ br, br = w.heap.size + 1 := ⟨_, rfl⟩
  obtain ⟨bz, hbz⟩ : ∃ bz, bz = w.heap.size + 1 + 1 := ⟨_, rfl⟩
  rw [← hbz, ← hbr, ← hbn] at hB4
  have HP : Hid _ := rplace_c (h.below hbu) (by rw [h0]; simp) most k
  rw [if_pos (by rw [h0]; rfl)] at HP
  have HX : Hid (∀ X, Below u.heap.size u X → B4 bn br bz most v X ∧ Below w.heap.size w X) := fun X hX => ⟨hB4.below hX, hbu.trans (hX.mono hbu.size)⟩
  have HEq : Hid (bn = w.heap.size ∧ br = w.heap.size + 1 ∧ bz = w.heap.size + 1 + 1 ∧ u = ((w.alloc (.cells #[.int .i64 most, v] 29)).alloc (.cells #[.int .i64 0, .slice none 0 0] 29)).alloc (.cells #[.int .i64 0, .int .i64 0, .string ⟨#[]⟩] 82)) := ⟨hbn, hbr, hbz, hu⟩
  have HLs : Hid (Ls w v ls) := h
  obtain ⟨p, c, hv, _⟩ := RowC.form h
  generalize ls.length = m at hv
  subst hv
  clear h h0 hu hbu hB4 hbn hbr hbz
  go_enter Try.func32, Try.ntmps32
  go_wp2_with fail
  rw [← HEq.out.2.2.2, ← HEq.out.2.2.1, ← HEq.out.2.1, ← HEq.out.1]
  refine Calls.mono HP.out ?_
  rintro e X ⟨rfl, hb⟩
  obtain ⟨hx, hbX⟩ := HX.out X hb
  have HBX : Hid (Below w.heap.size w X) := hbX
  obtain ⟨n0, n1, r0, r1, z0, z1, z2, fn, fr, fz⟩ := hx
  have fr0 := fr 0
  have fr1 := fr 1
  have fz0 := fz 0
  have fz1 := fz 1
  have fz2 := fz 2
  have HNe : Hid (br ≠ bz ∧ w.heap.size ≤ br ∧ w.heap.size ≤ bz) := by have := HEq.out; exact ⟨by omega, by omega, by omega⟩
  have q0 : ∀ a b, ((X.setCell ⟨br, 0, none⟩ a).setCell ⟨br, 1, none⟩ b).cell? ⟨bz, 0, none⟩ = some (.int .i64 0) := fun a b => by rw [World.cell?_of_block (a := ⟨bz, 0, none⟩) (Below.heap_setCell _ _ _ _ HNe.out.1.symm), World.cell?_of_block (a := ⟨bz, 0, none⟩) (Below.heap_setCell _ _ _ _ HNe.out.1.symm)]; exact z0
  have q1 : ∀ a b, ((X.setCell ⟨br, 0, none⟩ a).setCell ⟨br, 1, none⟩ b).cell? ⟨bz, 1, none⟩ = some (.int .i64 0) := fun a b => by rw [World.cell?_of_block (a := ⟨bz, 1, none⟩) (Below.heap_setCell _ _ _ _ HNe.out.1.symm), World.cell?_of_block (a := ⟨bz, 1, none⟩) (Below.heap_setCell _ _ _ _ HNe.out.1.symm)]; exact z1
  have q2 : ∀ a b, ((X.setCell ⟨br, 0, none⟩ a).setCell ⟨br, 1, none⟩ b).cell? ⟨bz, 2, none⟩ = some (.string ⟨#[]⟩) := fun a b => by rw [World.cell?_of_block (a := ⟨bz, 2, none⟩) (Below.heap_setCell _ _ _ _ HNe.out.1.symm), World.cell?_of_block (a := ⟨bz, 2, none⟩) (Below.heap_setCell _ _ _ _ HNe.out.1.symm)]; exact z2
  clear hb hbX fr fz
  go_wp2
  obtain ⟨⟨w0, w1⟩, w2, w3, w4⟩ := fin5_cells HNe.out.1 r0 r1 z0 z1 z2 (.int .i64 most) (.slice p m c) (.int .i64 0) (.int .i64 0) (.string ⟨#[]⟩)
  have HF : Hid (Below w.heap.size w (fin5 X br bz (.int .i64 most) (.slice p m c) (.int .i64 0) (.int .i64 0) (.string ⟨#[]⟩))) := fin5_below HBX.out HNe.out.2.1 HNe.out.2.2 _ _ _ _ _
  obtain ⟨F, hF⟩ : ∃ F, F = fin5 X br bz (.int .i64 most) (.slice p m c) (.int .i64 0) (.int .i64 0) (.string ⟨#[]⟩) := ⟨_, rfl⟩
  rw [← hF] at w0 w1 w2 w3 w4 HF
  unfold fin5 at hF
  rw [← hF]
  clear hF
  refine bodyPost_ret (v := .tuple #[.agg #[.int .i64 most, .slice p m c], .agg #[.int .i64 0, .int .i64 0, .string ⟨#[]⟩], .bool false]) ?qres rfl ?qpost
  case qres => simp [results, Try.results32, go_sem, w0, w1, w2, w3, w4]
  case qpost => exact ⟨rfl, ROut.same HLs.out HF.out⟩

set_option maxHeartbeats 1600000 in
theorem rTake_some (h : Ls w v ls) (hn : ls.length ≤ 1099511627775) (most k : Int) {l : Q.Lt} (hl : ls[Q.place k ls.length]? = some l) : Calls Try.prog 32 #[.agg #[.int .i64 most, v], .int .i64 k] w fun e w' => ∃ v', e = .returned (.tuple #[.agg #[.int .i64 most, v'], .agg #[.int .i64 l.fr, .int .i64 l.tt, .string l.tx], .bool true]) ∧ ROut w v w' v' (ls.eraseIdx (Q.place k ls.length)) := by
  obtain ⟨u, hu⟩ : ∃ u, u = ((w.alloc (.cells #[.int .i64 most, v] 29)).alloc (.cells #[.int .i64 0, .slice none 0 0] 29)).alloc (.cells #[.int .i64 0, .int .i64 0, .string ⟨#[]⟩] 82) := ⟨_, rfl⟩
  have hbu : Below w.heap.size w u := by rw [hu]; exact ((below_alloc _ _).trans ((below_alloc _ _).mono (by simp))).trans ((below_alloc _ _).mono (by simp; omega))
  have hB4 : B4 w.heap.size (w.heap.size + 1) (w.heap.size + 1 + 1) most v u := by rw [hu]; exact B4.start w most v
  obtain ⟨bn, hbn⟩ : ∃ bn, bn = w.heap.size := ⟨_, rfl⟩
  obtain ⟨br, hbr⟩ : ∃ br, br = w.heap.size + 1 := ⟨_, rfl⟩
  obtain ⟨bz, hbz⟩ : ∃ bz, bz = w.heap.size + 1 + 1 := ⟨_, rfl⟩
  rw [← hbz, ← hbr, ← hbn] at hB4
  have hat := (List.getElem?_eq_some_iff.1 hl).1
  have hPl := rplace_c (h.below hbu) (by omega) most k
  rw [if_neg (by omega)] at hPl
  obtain ⟨p, c, hv, hc1, hc2⟩ := RowC.form h
  obtain ⟨m, hm⟩ : ∃ m, m = ls.length := ⟨_, rfl⟩
  obtain ⟨at_, hat_⟩ : ∃ a, a = Q.place k ls.length := ⟨_, rfl⟩
  rw [← hat_] at hPl hl hat ⊢
  rw [← hm] at hv hc1 hat hn
  rw [hv] at hPl
  have HP : Hid (Calls Try.prog 69 #[.agg #[.int .i64 most, .slice p m c], .int .i64 k] u fun e w' => e = .returned (.int .i64 (at_ : Int)) ∧ Below u.heap.size u w') := hPl
  clear hPl
  have HX : Hid (∀ X, Below u.heap.size u X → B4 bn br bz most (.slice p m c) X ∧ Below w.heap.size w X ∧ RowC X 3 (.slice p m c) m (ltCells ls)) := fun X hX => by
    have q := h.below (hbu.trans (hX.mono hbu.size))
    unfold Ls at q
    rw [hv, ← hm] at q
    rw [hv] at hB4
    exact ⟨hB4.below hX, hbu.trans (hX.mono hbu.size), q⟩
  have HEq : Hid (bn = w.heap.size ∧ br = w.heap.size + 1 ∧ bz = w.heap.size + 1 + 1 ∧ u = ((w.alloc (.cells #[.int .i64 most, .slice p m c] 29)).alloc (.cells #[.int .i64 0, .slice none 0 0] 29)).alloc (.cells #[.int .i64 0, .int .i64 0, .string ⟨#[]⟩] 82)) := ⟨hbn, hbr, hbz, by rw [← hv]; exact hu⟩
  have HM : Hid (m = ls.length) := hm
  have HL : Hid (ls[at_]? = some l) := hl
  have ha0 : (0 : Int) ≤ (at_ : Int) := Int.natCast_nonneg _
  have ha1 : ¬ (at_ : Int) < 0 := by omega
  have ham : (at_ : Int) < (m : Int) := by omega
  have haw : IntKind.i64.wrap ((at_ : Int) + 1) = (at_ : Int) + 1 := numW (by omega)
  have p1 := run_rcutHigh p m c at_ (by omega)
  rw [cutP_zero, Nat.sub_zero, Nat.sub_zero] at p1
  have p2 := run_rcutLow p m c (at_ + 1) (by omega)
  have p2' : ∀ W : World, (Instr.slice 27 (.slice p m c) (some (.int .i64 ((at_ : Int) + 1))) none none).run Try.prog W = .ok (.slice (cutP p (at_ + 1) c 3) (m - (at_ + 1)) (c - (at_ + 1))) W := by simpa using p2
  have HSz : Hid (at_ < m ∧ m ≤ c ∧ m ≤ 1099511627775) := ⟨hat, hc1, hn⟩
  obtain ⟨pc, hpc⟩ : ∃ pc, pc = cutP p (at_ + 1) c 3 := ⟨_, rfl⟩
  obtain ⟨d1, hd1⟩ : ∃ d1, d1 = m - (at_ + 1) := ⟨_, rfl⟩
  obtain ⟨d2, hd2⟩ : ∃ d2, d2 = c - (at_ + 1) := ⟨_, rfl⟩
  have HS1 : Hid (∀ X, RowC X 3 (.slice p m c) m (ltCells ls) → Src Try.prog 3 27 (.slice p at_ c) at_ ((ltCells ls).take (at_ * 3)) X) := fun X hX => by
    have q := (hX.cut 0 at_ c (by omega) (by omega) (Nat.le_refl _) (by omega)).1
    rw [cutP_zero, Nat.sub_zero, Nat.sub_zero, Nat.zero_mul, List.drop_zero] at q
    exact RowC.src q _ _ Try.underlying27 (fun u hu => ltCells_one ls u (List.mem_of_mem_take hu))
  have HS2 : Hid (∀ X, RowC X 3 (.slice p m c) m (ltCells ls) → Src Try.prog 3 27 (.slice pc d1 d2) d1 ((ltCells ls).drop ((at_ + 1) * 3)) X) := fun X hX => by
    have q := (hX.cut (at_ + 1) m c (by omega) (by omega) (Nat.le_refl _) (Nat.le_refl _)).1
    rw [← hpc, ← hd1, ← hd2] at q
    have e : ((ltCells ls).drop ((at_ + 1) * 3)).take (d1 * 3) = (ltCells ls).drop ((at_ + 1) * 3) := List.take_of_length_le (by rw [List.length_drop, ltCells_len, ← hm]; omega)
    rw [e] at q
    exact RowC.src q _ _ Try.underlying27 (fun u hu => ltCells_one ls u (List.mem_of_mem_drop hu))
  rw [← hpc, ← hd1, ← hd2] at p2'
  have HLe : Hid (d1 = m - (at_ + 1)) := hd1
  have hL : Hid ((0 + at_) * 32 ≤ 140737488355328 ∧ 0 + at_ ≤ maxLen ∧ (at_ + d1) * 32 ≤ 140737488355328 ∧ at_ + d1 ≤ maxLen) := by unfold maxLen; exact ⟨by omega, by omega, by omega, by omega⟩
  rw [hv]
  clear h hu hbu hB4 hbn hbr hbz hl hat hat_ hm hv hn hc1 hc2 p2 hpc hd1 hd2
  go_enter Try.func32, Try.ntmps32
  go_wp2_with fail
  rw [← HEq.out.2.2.2, ← HEq.out.2.2.1, ← HEq.out.2.1, ← HEq.out.1]
  refine Calls.mono HP.out ?_
  rintro e X ⟨rfl, hb⟩
  obtain ⟨hx, hbX, hrX⟩ := HX.out X hb
  have HB4 : Hid (B4 bn br bz most (.slice p m c) X) := hx
  have HBX : Hid (Below w.heap.size w X) := hbX
  have HRX : Hid (RowC X 3 (.slice p m c) m (ltCells ls)) := hrX
  obtain ⟨n0, n1, r0, r1, z0, z1, z2, fn, fr, fz⟩ := hx
  obtain ⟨g, off, c', hv', y0, y1, y2⟩ := Ls.at (w := X) (v := .slice p m c) (ls := ls) (by unfold Ls; rw [← HM.out]; exact hrX) HL.out
  injection hv' with e1 e2 e3
  subst e1
  have hatn := HSz.out.1
  clear hb hbX hrX fr fz e2 e3 r0 r1 z0 z1 z2
  obtain ⟨lf, lt, lx⟩ := l
  dsimp only at y0 y1 y2
  obtain ⟨Z, hZ⟩ : ∃ Z, Z = X.alloc (.cells #[.int .i64 lf, .int .i64 lt, .string lx] 82) := ⟨_, rfl⟩
  obtain ⟨bl, hbl⟩ : ∃ bl, bl = X.heap.size := ⟨_, rfl⟩
  have hbZ : Below X.heap.size X Z := by rw [hZ]; exact below_alloc X _
  have HBl : Hid (∀ j, Z.cell? ⟨bl, j, none⟩ = (#[.int .i64 lf, .int .i64 lt, .string lx] : Array Value)[j]?) := fun j => by rw [hZ, hbl]; exact World.cell?_alloc_mark X _ _ _ j
  have HZ : Hid (Below X.heap.size X Z ∧ bl < Z.heap.size ∧ bl = X.heap.size) := ⟨hbZ, by rw [hZ, hbl]; simp, hbl⟩
  have HB4Z : Hid (B4 bn br bz most (.slice (some ⟨g, off, none⟩) m c) Z) := HB4.out.below hbZ
  have HRZ : Hid (RowC Z 3 (.slice (some ⟨g, off, none⟩) m c) m (ltCells ls)) := HRX.out.carry (fun q hq => hbZ.block q (HRX.out.lt (by omega) hq))
  have n1Z := HB4Z.out.n1
  have HSrc1 : Hid _ := HS1.out Z HRZ.out
  clear hbZ
  subst hZ
  go_wp2_with (at_builtin; refine wpList_append_rowC rfl (.tmp 22) (.tmp 26) 27 27 82 rfl Try.underlying27 _ 3 32 infoRL rfl (.slice none 0 0) 0 [] rfl (RowC.nil _ _ _) (.slice (some ⟨g, off, none⟩) at_ c) at_ ((ltCells ls).take (at_ * 3)) rfl HSrc1.out hL.out.1 hL.out.2.1 ?qnext)
  case qnext =>
    intro v1 w1 ho hg hloc
    obtain ⟨A, hA⟩ : ∃ A, A = X.alloc (.cells #[.int .i64 lf, .int .i64 lt, .string lx] 82) := ⟨_, rfl⟩
    rw [← hA] at hg HBl HZ HB4Z HRZ
    have sA : A.heap.size = X.heap.size + 1 := by rw [hA]; simp
    have hb1 : Below A.heap.size A w1 := (Below.refl _ A).grown hg (Nat.le_refl _) (fun k hk => by simp [cBlk] at hk)
    have hR1 : RowC w1 3 v1 at_ ((ltCells ls).take (at_ * 3)) := by simpa using ho
    have hk1 : ∀ k, cBlk v1 = some k → A.heap.size ≤ k := fun k hk => by
      rcases hloc k hk with q | q
      · simp [cBlk] at q
      · rw [sA]; exact q
    have HB41 : Hid (B4 bn br bz most (.slice (some ⟨g, off, none⟩) m c) w1) := HB4Z.out.below hb1
    have HR1 : Hid (RowC w1 3 (.slice (some ⟨g, off, none⟩) m c) m (ltCells ls)) := HRZ.out.carry (fun q hq => hb1.block q (HRZ.out.lt (by omega) hq))
    have HBl1 : Hid (∀ j, w1.cell? ⟨bl, j, none⟩ = (#[.int .i64 lf, .int .i64 lt, .string lx] : Array Value)[j]?) := fun j => (hb1.cell (p := ⟨bl, j, none⟩) HZ.out.2.1).trans (HBl.out j)
    have HSrc2 : Hid _ := HS2.out w1 HR1.out
    obtain ⟨p1', c1', hv1, _, _⟩ := hR1.form
    subst hv1
    have HRow1 : Hid (RowC w1 3 (.slice p1' at_ c1') at_ ((ltCells ls).take (at_ * 3))) := hR1
    have HK1 : Hid (∀ k, cBlk (.slice p1' at_ c1') = some k → A.heap.size ≤ k) := hk1
    have HSz1 : Hid (X.heap.size ≤ A.heap.size ∧ A.heap.size ≤ w1.heap.size ∧ bl < A.heap.size) := ⟨HZ.out.1.size, hb1.size, HZ.out.2.1⟩
    have HBw1 : Hid (Below w.heap.size w w1) := (HBX.out.trans (HZ.out.1.mono HBX.out.size)).trans (hb1.mono (Nat.le_trans HBX.out.size HZ.out.1.size))
    have m1 := HB41.out.n1
    have mf := HB41.out.fn
    clear ho hg hloc hb1 hR1 hk1 n1 fn n1Z y0 y1 y2 hA sA
    go_wp2_with (at_builtin; refine wpList_append_rowC rfl (.tmp 28) (.tmp 33) 27 27 82 rfl Try.underlying27 _ 3 32 infoRL rfl (.slice p1' at_ c1') at_ ((ltCells ls).take (at_ * 3)) rfl HRow1.out (.slice pc d1 d2) d1 ((ltCells ls).drop ((at_ + 1) * 3)) rfl HSrc2.out hL.out.2.2.1 hL.out.2.2.2 ?qnext2)
    case qnext2 =>
      intro v2 w2 ho hg hloc
      obtain ⟨p2, c2, hv2, _, _⟩ := ho.form
      subst hv2
      have hXl : bn < X.heap.size ∧ br < X.heap.size ∧ bz < X.heap.size := ⟨World.block_lt_of_cell? _ _ HB4.out.n0, World.block_lt_of_cell? _ _ HB4.out.r0, World.block_lt_of_cell? _ _ HB4.out.z0⟩
      have hsame : ∀ k, k < A.heap.size → w2.heap[k]? = w1.heap[k]? := fun k hk => hg.block k (Nat.lt_of_lt_of_le hk HSz1.out.2.1) (fun e => by have := HK1.out k e.symm; omega)
      have hB42 : B4 bn br bz most (.slice (some ⟨g, off, none⟩) m c) w2 := HB41.out.keep (hsame bn (Nat.lt_of_lt_of_le hXl.1 HSz1.out.1)) (hsame br (Nat.lt_of_lt_of_le hXl.2.1 HSz1.out.1)) (hsame bz (Nat.lt_of_lt_of_le hXl.2.2 HSz1.out.1))
      have hbl2 : ∀ j, w2.cell? ⟨bl, j, none⟩ = (#[.int .i64 lf, .int .i64 lt, .string lx] : Array Value)[j]? := fun j => (World.cell?_of_block (a := ⟨bl, j, none⟩) (hsame bl HSz1.out.2.2)).trans (HBl1.out j)
      have hv2k : ∀ k, cBlk (.slice p2 (at_ + d1) c2) = some k → A.heap.size ≤ k := fun k hk => by
        rcases hloc k hk with q | q
        · exact HK1.out k q
        · have := HSz1.out.2.1; omega
      have hbw2 : Below w.heap.size w w2 := HBw1.out.grown hg HBw1.out.size (fun k hk => by have := HK1.out k hk; have := HSz1.out; have := HBX.out.size; omega)
      obtain ⟨w3, hw3⟩ : ∃ w3, w3 = w2.setCell ⟨bn, 1, none⟩ (.slice p2 (at_ + d1) c2) := ⟨_, rfl⟩
      have hq := HEq.out
      have hne : br ≠ bz ∧ br ≠ bn ∧ bz ≠ bn ∧ bl ≠ bn ∧ bl ≠ br ∧ bl ≠ bz := by have := HZ.out.2.2; omega
      have c0 : w3.cell? ⟨bn, 0, none⟩ = some (.int .i64 most) := by rw [hw3, cell_set6 _ hB42.n1, if_neg (by omega)]; exact hB42.n0
      have c1 : w3.cell? ⟨bn, 1, none⟩ = some (.slice p2 (at_ + d1) c2) := by rw [hw3, cell_set6 _ hB42.n1, if_pos rfl]
      have hoth : ∀ k, k ≠ bn → w3.heap[k]? = w2.heap[k]? := fun k hk => by rw [hw3]; exact Below.heap_setCell _ _ _ _ hk
      have e0 : w3.cell? ⟨bl, 0, none⟩ = some (.int .i64 lf) := (World.cell?_of_block (a := ⟨bl, 0, none⟩) (hoth bl hne.2.2.2.1)).trans (hbl2 0)
      have e1 : w3.cell? ⟨bl, 1, none⟩ = some (.int .i64 lt) := (World.cell?_of_block (a := ⟨bl, 1, none⟩) (hoth bl hne.2.2.2.1)).trans (hbl2 1)
      have e2 : w3.cell? ⟨bl, 2, none⟩ = some (.string lx) := (World.cell?_of_block (a := ⟨bl, 2, none⟩) (hoth bl hne.2.2.2.1)).trans (hbl2 2)
      have i0 : w3.cell? ⟨br, 0, none⟩ = some (.int .i64 0) := (World.cell?_of_block (a := ⟨br, 0, none⟩) (hoth br hne.2.1)).trans hB42.r0
      have i1 : w3.cell? ⟨br, 1, none⟩ = some (.slice none 0 0) := (World.cell?_of_block (a := ⟨br, 1, none⟩) (hoth br hne.2.1)).trans hB42.r1
      have j0 : w3.cell? ⟨bz, 0, none⟩ = some (.int .i64 0) := (World.cell?_of_block (a := ⟨bz, 0, none⟩) (hoth bz hne.2.2.1)).trans hB42.z0
      have j1 : w3.cell? ⟨bz, 1, none⟩ = some (.int .i64 0) := (World.cell?_of_block (a := ⟨bz, 1, none⟩) (hoth bz hne.2.2.1)).trans hB42.z1
      have j2 : w3.cell? ⟨bz, 2, none⟩ = some (.string ⟨#[]⟩) := (World.cell?_of_block (a := ⟨bz, 2, none⟩) (hoth bz hne.2.2.1)).trans hB42.z2
      have fi : ∀ j, w3.frozen? ⟨br, j, none⟩ = false := fun j => (World.frozen?_of_block (a := ⟨br, j, none⟩) (hoth br hne.2.1)).trans (hB42.fr j)
      have fj : ∀ j, w3.frozen? ⟨bz, j, none⟩ = false := fun j => (World.frozen?_of_block (a := ⟨bz, j, none⟩) (hoth bz hne.2.2.1)).trans (hB42.fz j)
      obtain ⟨⟨x0', x1'⟩, x2', x3', x4'⟩ := fin5_cells (X := w3) hne.1 i0 i1 j0 j1 j2 (.int .i64 most) (.slice p2 (at_ + d1) c2) (.int .i64 lf) (.int .i64 lt) (.string lx)
      obtain ⟨F, hF⟩ : ∃ F, F = (fin5 w3 br bz (.int .i64 most) (.slice p2 (at_ + d1) c2) (.int .i64 lf) (.int .i64 lt) (.string lx)).drew := ⟨_, rfl⟩
      have HOut : Hid (ROut w (.slice (some ⟨g, off, none⟩) m c) F (.slice p2 (at_ + d1) c2) (ls.eraseIdx at_)) := by
        have hwx := HBX.out.size
        refine ⟨?_, by rw [hF]; exact (fin5_below (by rw [hw3]; exact hbw2.setCell (p := ⟨bn, 1, none⟩) (by show _ ≤ bn; omega) _) (by omega) (by omega) _ _ _ _ _).drew, fun k hk => .inr (by have := hv2k k hk; have := HSz1.out.1; omega)⟩
        unfold Ls
        have ea : (ls.eraseIdx at_).length = at_ + d1 := by rw [List.length_eraseIdx_of_lt (by rw [← HM.out]; exact hatn), ← HM.out, HLe.out]; omega
        rw [ltCells_erase, ea]
        refine ho.carry (fun k hk => ?_)
        have hk' := hv2k k hk
        have := HSz1.out.1
        rw [hF, heap_drew, fin5_other (by omega) (by omega)]
        exact hoth k (by omega)
      have x0 : F.cell? ⟨br, 0, none⟩ = some (.int .i64 most) := by rw [hF, cell_drew]; exact x0'
      have x1 : F.cell? ⟨br, 1, none⟩ = some (.slice p2 (at_ + d1) c2) := by rw [hF, cell_drew]; exact x1'
      have x2 : F.cell? ⟨bz, 0, none⟩ = some (.int .i64 lf) := by rw [hF, cell_drew]; exact x2'
      have x3 : F.cell? ⟨bz, 1, none⟩ = some (.int .i64 lt) := by rw [hF, cell_drew]; exact x3'
      have x4 : F.cell? ⟨bz, 2, none⟩ = some (.string lx) := by rw [hF, cell_drew]; exact x4'
      clear x0' x1' x2' x3' x4'
      have hN1 : Hid (w2.cell? ⟨bn, 1, none⟩ = some (.slice (some ⟨g, off, none⟩) m c) ∧ w2.frozen? ⟨bn, 1, none⟩ = false) := ⟨hB42.n1, hB42.fn⟩
      have HS3 : Hid (∀ a b, ((w3.drew.setCell ⟨br, 0, none⟩ a).setCell ⟨br, 1, none⟩ b).cell? ⟨bn, 0, none⟩ = some (.int .i64 most) ∧ ((w3.drew.setCell ⟨br, 0, none⟩ a).setCell ⟨br, 1, none⟩ b).cell? ⟨bn, 1, none⟩ = some (.slice p2 (at_ + d1) c2) ∧ ((w3.drew.setCell ⟨br, 0, none⟩ a).setCell ⟨br, 1, none⟩ b).cell? ⟨bl, 0, none⟩ = some (.int .i64 lf) ∧ ((w3.drew.setCell ⟨br, 0, none⟩ a).setCell ⟨br, 1, none⟩ b).cell? ⟨bl, 1, none⟩ = some (.int .i64 lt) ∧ ((w3.drew.setCell ⟨br, 0, none⟩ a).setCell ⟨br, 1, none⟩ b).cell? ⟨bl, 2, none⟩ = some (.string lx)) := fun a b => by
        have hh : ∀ k, k ≠ br → ((w3.drew.setCell ⟨br, 0, none⟩ a).setCell ⟨br, 1, none⟩ b).heap[k]? = w3.heap[k]? := fun k hk => by rw [Below.heap_setCell _ _ _ _ hk, Below.heap_setCell _ _ _ _ hk]; rfl
        exact ⟨(World.cell?_of_block (a := ⟨bn, 0, none⟩) (hh bn hne.2.1.symm)).trans c0, (World.cell?_of_block (a := ⟨bn, 1, none⟩) (hh bn hne.2.1.symm)).trans c1, (World.cell?_of_block (a := ⟨bl, 0, none⟩) (hh bl hne.2.2.2.2.1)).trans e0, (World.cell?_of_block (a := ⟨bl, 1, none⟩) (hh bl hne.2.2.2.2.1)).trans e1, (World.cell?_of_block (a := ⟨bl, 2, none⟩) (hh bl hne.2.2.2.2.1)).trans e2⟩
      have HS5 : Hid (F.cell? ⟨bn, 0, none⟩ = some (.int .i64 most) ∧ F.cell? ⟨bn, 1, none⟩ = some (.slice p2 (at_ + d1) c2) ∧ F.cell? ⟨bl, 0, none⟩ = some (.int .i64 lf) ∧ F.cell? ⟨bl, 1, none⟩ = some (.int .i64 lt) ∧ F.cell? ⟨bl, 2, none⟩ = some (.string lx)) := by
        have hn' : F.heap[bn]? = w3.heap[bn]? := by rw [hF, heap_drew]; exact fin5_other (X := w3) hne.2.1.symm hne.2.2.1.symm _ _ _ _ _
        have hl' : F.heap[bl]? = w3.heap[bl]? := by rw [hF, heap_drew]; exact fin5_other (X := w3) hne.2.2.2.2.1 hne.2.2.2.2.2 _ _ _ _ _
        exact ⟨(World.cell?_of_block (a := ⟨bn, 0, none⟩) hn').trans c0, (World.cell?_of_block (a := ⟨bn, 1, none⟩) hn').trans c1, (World.cell?_of_block (a := ⟨bl, 0, none⟩) hl').trans e0, (World.cell?_of_block (a := ⟨bl, 1, none⟩) hl').trans e1, (World.cell?_of_block (a := ⟨bl, 2, none⟩) hl').trans e2⟩
      have n1 := hB42.n1
      have fn := hB42.fn
      clear ho hg hloc hsame hB42 hbl2 hv2k hbw2 hXl hoth hq m1 mf
      unfold fin5 at hF
      go_wp2
      rw [← hw3]
      have fi0 := fi 0
      have fi1 := fi 1
      have fj0 := fj 0
      have fj1 := fj 1
      have fj2 := fj 2
      have q0 : ∀ a b, ((w3.drew.setCell ⟨br, 0, none⟩ a).setCell ⟨br, 1, none⟩ b).cell? ⟨bz, 0, none⟩ = some (.int .i64 0) := fun a b => by rw [World.cell?_of_block (a := ⟨bz, 0, none⟩) (Below.heap_setCell _ _ _ _ hne.1.symm), World.cell?_of_block (a := ⟨bz, 0, none⟩) (Below.heap_setCell _ _ _ _ hne.1.symm)]; exact j0
      have q1 : ∀ a b, ((w3.drew.setCell ⟨br, 0, none⟩ a).setCell ⟨br, 1, none⟩ b).cell? ⟨bz, 1, none⟩ = some (.int .i64 0) := fun a b => by rw [World.cell?_of_block (a := ⟨bz, 1, none⟩) (Below.heap_setCell _ _ _ _ hne.1.symm), World.cell?_of_block (a := ⟨bz, 1, none⟩) (Below.heap_setCell _ _ _ _ hne.1.symm)]; exact j1
      have q2 : ∀ a b, ((w3.drew.setCell ⟨br, 0, none⟩ a).setCell ⟨br, 1, none⟩ b).cell? ⟨bz, 2, none⟩ = some (.string ⟨#[]⟩) := fun a b => by rw [World.cell?_of_block (a := ⟨bz, 2, none⟩) (Below.heap_setCell _ _ _ _ hne.1.symm), World.cell?_of_block (a := ⟨bz, 2, none⟩) (Below.heap_setCell _ _ _ _ hne.1.symm)]; exact j2
      have HFF : Hid _ := hF
      rw [← hbl]
      clear hw3 n1 fn fi fj hF hbl
      refine wp_region_held_drew (S := fun Y => Y.cell? ⟨bn, 0, none⟩ = some (.int .i64 most) ∧ Y.cell? ⟨bn, 1, none⟩ = some (.slice p2 (at_ + d1) c2) ∧ Y.cell? ⟨bl, 0, none⟩ = some (.int .i64 lf) ∧ Y.cell? ⟨bl, 1, none⟩ = some (.int .i64 lt) ∧ Y.cell? ⟨bl, 2, none⟩ = some (.string lx)) (by kernel_rfl) ⟨c0, c1, e0, e1, e2⟩ (fun hHeld => ?_)
      refine take7 (i := 0) (d := 36) (v := .agg #[.int .i64 most, .slice p2 (at_ + d1) c2]) rfl rfl (by kernel_rfl) (by kernel_rfl) (by kernel_rfl) (fun _ _ _ h => h) (Or.inl ⟨by rfl, ?_⟩) (by assumption) ?_
      · intro X hSw
        go_simp
      simp only [Act.put, List.setIfInBounds_toArray, List.set_cons_zero, List.set_cons_succ]
      refine take7 (i := 1) (d := 37) (v := .agg #[.int .i64 lf, .int .i64 lt, .string lx]) rfl rfl (by kernel_rfl) (by kernel_rfl) (by kernel_rfl) (fun _ _ _ h => h) (Or.inl ⟨by rfl, ?_⟩) (by assumption) ?_
      · intro X hSw
        go_simp
      simp only [Act.put, List.setIfInBounds_toArray, List.set_cons_zero, List.set_cons_succ]
      refine wpAnyH_ready (rs := [2]) (by kernel_rfl) (by simp) ?_
      refine AllReadyH.cons rfl (fun K hK => ?_) AllReadyH.nil
      go_simp
      refine hK.out _ _ (HS3.out _ _) (fun hHeld2 => ?_)
      clear hK K hHeld
      refine wpAnyH_ready (rs := [3]) (by kernel_rfl) (by simp) ?_
      refine AllReadyH.cons rfl (fun K hK => ?_) AllReadyH.nil
      go_simp
      rw [← HFF.out]
      refine hK.out _ _ HS5.out (fun hHeld3 => ?_)
      clear hK K hHeld2
      refine wpAnyH_ready (rs := [4]) (by kernel_rfl) (by simp) ?_
      refine AllReadyH.cons rfl (fun K hK => ?_) AllReadyH.nil
      go_simp
      refine hK.out _ _ HS5.out (fun hHeld4 => ?_)
      clear hK K hHeld3
      refine wpAnyH_done (by kernel_rfl) ?_ _
      clear hHeld4
      go_wp2
      refine bodyPost_ret (v := .tuple #[.agg #[.int .i64 most, .slice p2 (at_ + d1) c2], .agg #[.int .i64 lf, .int .i64 lt, .string lx], .bool true]) ?qres rfl ?qpost
      case qres => simp [results, Try.results32, go_sem, x0, x1, x2, x3, x4]
      case qpost => exact ⟨_, rfl, HOut.out⟩

end
end Go.Proofs.Ytpopanfefpehnaa
