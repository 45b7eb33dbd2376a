/-
  Beginning: which kinds, an op as it is kept, why none may begin.
-/
import Derived.Test.YtepbmfjimppgcaaMeTx
namespace Go.Proofs.Ytepbmfjimppgcaa
open Go.RowKit

theorem isOfMany_c (o : Mo.Op) (w : World) : Calls Try.prog 34 #[.agg (opC o).toArray] w fun e w' => e = .returned (.bool (Me.many o)) ∧ Below w.heap.size w w' := by
  obtain ⟨u, hu⟩ : ∃ u, u = w.alloc (.cells (opC o).toArray 37) := ⟨_, rfl⟩
  obtain ⟨bx, hbx⟩ : ∃ bx, bx = w.heap.size := ⟨_, rfl⟩
  have HO : Hid (Below w.heap.size w u) := by rw [hu]; exact below_alloc _ _
  have y0 : u.cell? ⟨bx, 0, none⟩ = some (.int .i64 o.kind) := by rw [hu, hbx, World.cell?_alloc_mark]; rfl
  have HM : Hid (Me.many o = ((o.kind == 5) || (o.kind == 6) || (o.kind == 7))) := rfl
  rw [HM.out]
  generalize o.kind = k at *
  go_enter Try.func34, Try.ntmps34
  go_upto_region 1 with fail
  rw [← hu]
  try rw [← hbx]
  clear hu hbx HM
  cases h5 : (k == 5) with
  | true =>
    go_wp2
    go_ret
    exact ⟨ret_bool (by rw [h5]; rfl), HO.out⟩
  | false =>
    cases h6 : (k == 6) with
    | true =>
      go_wp2
      go_ret
      exact ⟨ret_bool (by rw [h5, h6]; rfl), HO.out⟩
    | false =>
      go_wp2
      go_ret
      exact ⟨ret_bool (by rw [h5, h6]; rfl), HO.out⟩
theorem earlier_c (a b : Int) (w : World) : Calls Try.prog 56 #[.int .i64 a, .int .i64 b] w fun e w' => e = .returned (.int .i64 (if a > b then 110 else 120)) ∧ w' = w := by
  by_cases h : a > b
  · rw [if_pos h]
    go_enter Try.func56, Try.ntmps56
    go_wp2
    go_ret
    exact ⟨rfl, rfl⟩
  · rw [if_neg h]
    go_enter Try.func56, Try.ntmps56
    go_wp2
    go_ret
    exact ⟨rfl, rfl⟩

/-- A row that is stored into a variable that was made last. -/
theorem setRowN (w : World) (zs cs : Array Value) (t : TypeId) : (w.alloc (.cells zs t)).setRow w.heap.size cs = w.alloc (.cells cs t) := by
  have e : ((w.alloc (.cells zs t)).setRow w.heap.size cs).heap = (w.alloc (.cells cs t)).heap := by
    apply Array.ext_getElem?
    intro i
    by_cases hi : i = w.heap.size
    · subst hi
      rw [setRow_heap _ _ zs cs t (0, 0) (heap_alloc_new w _), heap_alloc_new]
    · rw [setRow_other _ _ _ _ hi]
      rcases Nat.lt_or_ge i w.heap.size with x | x
      · rw [Below.heap_alloc _ _ _ x, Below.heap_alloc _ _ _ x]
      · rw [Array.getElem?_eq_none (by simp; omega), Array.getElem?_eq_none (by simp; omega)]
  have e2 : (w.alloc (.cells zs t)).setRow w.heap.size cs = { w.alloc (.cells cs t) with heap := ((w.alloc (.cells zs t)).setRow w.heap.size cs).heap } := rfl
  rw [e2, e]

/-- An op in its box while its texts are copied. -/
structure KpO (w : World) (br bx : Nat) (os : List Value) (X : World) : Prop where
  old : Below w.heap.size w X
  lo : w.heap.size ≤ bx ∧ bx < X.heap.size
  c : ∀ j x, os[j]? = some x → X.cell? ⟨bx, j, none⟩ = some x
  f : ∀ j, X.frozen? ⟨bx, j, none⟩ = false
  r : br < X.heap.size ∧ br ≠ bx ∧ w.heap.size ≤ br ∧ (∀ j, j < 9 → (X.cell? ⟨br, j, none⟩).isSome = true) ∧ ∀ j, X.frozen? ⟨br, j, none⟩ = false
theorem KpO.below {w X Y : World} {br bx : Nat} {os : List Value} (h : KpO w br bx os X) (hb : Below X.heap.size X Y) : KpO w br bx os Y :=
  ⟨h.old.trans (hb.mono h.old.size), ⟨h.lo.1, Nat.lt_of_lt_of_le h.lo.2 hb.size⟩, fun j x hx => (hb.cell (p := ⟨bx, j, none⟩) h.lo.2).trans (h.c j x hx), fun j => (hb.frozen (p := ⟨bx, j, none⟩) h.lo.2).trans (h.f j),
    Nat.lt_of_lt_of_le h.r.1 hb.size, h.r.2.1, h.r.2.2.1, fun j hj => by rw [hb.cell (p := ⟨br, j, none⟩) h.r.1]; exact h.r.2.2.2.1 j hj, fun j => (hb.frozen (p := ⟨br, j, none⟩) h.r.1).trans (h.r.2.2.2.2 j)⟩
theorem KpO.put {w X : World} {br bx : Nat} {os : List Value} (h : KpO w br bx os X) (j : Nat) {x : Value} (hx : os[j]? = some x) : KpO w br bx os (X.setCell ⟨bx, j, none⟩ x) := by
  have hy := h.c j x hx
  refine ⟨h.old.setCell (p := ⟨bx, j, none⟩) h.lo.1 _, ⟨h.lo.1, by simpa using h.lo.2⟩, fun i z hz => ?_, fun i => by rw [World.frozen?_setCell]; exact h.f i, by simpa using h.r.1, h.r.2.1, h.r.2.2.1, fun i hi => by rw [World.cell?_of_block (a := ⟨br, i, none⟩) (Below.heap_setCell _ _ _ _ h.r.2.1)]; exact h.r.2.2.2.1 i hi, fun i => by rw [World.frozen?_setCell]; exact h.r.2.2.2.2 i⟩
  rw [sl_cell_set6 _ hy]
  split
  · rename_i e
    subst e
    rw [hx] at hz
    exact hz
  · exact h.c i z hz
theorem KpO.s {w X : World} {br bx : Nat} {k0 k7 k8 : Int} {o1 o2 o3 o4 o5 o6 : ByteArray} (h : KpO w br bx [.int .i64 k0, .string o1, .string o2, .string o3, .string o4, .string o5, .string o6, .int .i64 k7, .int .i64 k8] X) : X.cell? ⟨bx, 1, none⟩ = some (.string o1) ∧ X.cell? ⟨bx, 2, none⟩ = some (.string o2) ∧ X.cell? ⟨bx, 3, none⟩ = some (.string o3) ∧ X.cell? ⟨bx, 5, none⟩ = some (.string o5) ∧ X.cell? ⟨bx, 6, none⟩ = some (.string o6) := ⟨h.c 1 _ rfl, h.c 2 _ rfl, h.c 3 _ rfl, h.c 5 _ rfl, h.c 6 _ rfl⟩
set_option maxHeartbeats 1600000 in
set_option maxRecDepth 20000 in
theorem keptOp_c (o : Mo.Op) (hs : ∀ x : ByteArray, x = o.space ∨ x = o.channel ∨ x = o.user ∨ x = o.toSpace ∨ x = o.to → x.size ≤ 140737488351232) (w : World) : Calls Try.prog 37 #[.agg (opC o).toArray] w fun e w' => e = .returned (.agg (opC o).toArray) ∧ Below w.heap.size w w' := by
  have HC5 : Hid (∀ X (x : ByteArray), (x = o.space ∨ x = o.channel ∨ x = o.user ∨ x = o.toSpace ∨ x = o.to) → Calls Try.prog 39 #[.string x] X fun e w' => e = .returned (.string x) ∧ Below X.heap.size X w') := fun X x hx => Clone_any x X (hs x hx)
  clear hs
  obtain ⟨u, hu⟩ : ∃ u, u = (w.alloc (.cells (opC o).toArray 37)).alloc (.cells #[.int .i64 0, .string ⟨#[]⟩, .string ⟨#[]⟩, .string ⟨#[]⟩, .string ⟨#[]⟩, .string ⟨#[]⟩, .string ⟨#[]⟩, .int .i64 0, .int .i64 0] 37) := ⟨_, rfl⟩
  obtain ⟨bx, hbx⟩ : ∃ bx, bx = w.heap.size := ⟨_, rfl⟩
  obtain ⟨br, hbr⟩ : ∃ br, br = w.heap.size + 1 := ⟨_, rfl⟩
  have b0 : Below w.heap.size w (w.alloc (.cells (opC o).toArray 37)) := below_alloc _ _
  have s0 : (w.alloc (.cells (opC o).toArray 37)).heap.size = w.heap.size + 1 := by simp
  have b1 : Below (w.alloc (.cells (opC o).toArray 37)).heap.size (w.alloc (.cells (opC o).toArray 37)) u := by rw [hu]; exact below_alloc _ _
  have hl : bx < (w.alloc (.cells (opC o).toArray 37)).heap.size := by rw [s0, hbx]; omega
  have HRb : Hid (br < u.heap.size ∧ w.heap.size ≤ br ∧ (∀ j, j < 9 → (u.cell? ⟨br, j, none⟩).isSome = true) ∧ ∀ j, u.frozen? ⟨br, j, none⟩ = false) := by
    have e1 : u.heap.size = w.heap.size + 2 := by rw [hu]; simp
    refine ⟨by omega, by omega, fun j hj => ?_, fun j => ?_⟩
    · rw [hu, hbr, ← s0, World.cell?_alloc_mark, Array.getElem?_eq_getElem (by show j < 9; omega)]; rfl
    · rw [hu, hbr, ← s0, World.frozen?_alloc_mark]; simp
  have HU : Hid (KpO w br bx (opC o) u) := by
    refine ⟨b0.trans (b1.mono b0.size), ⟨by omega, Nat.lt_of_lt_of_le hl b1.size⟩, fun j x hx => ?_, fun j => ?_, HRb.out.1, by omega, HRb.out.2.1, HRb.out.2.2⟩
    · rw [b1.cell (p := ⟨bx, j, none⟩) hl, hbx, World.cell?_alloc_mark]; simpa using hx
    · rw [b1.frozen (p := ⟨bx, j, none⟩) hl, hbx, World.frozen?_alloc_mark]; simp
  obtain ⟨k0, o1, o2, o3, o4, o5, o6, k7, k8⟩ := o
  have HCl : Hid (∀ X (x : ByteArray), (x = o1 ∨ x = o2 ∨ x = o3 ∨ x = o5 ∨ x = o6) → Calls Try.prog 39 #[.string x] X fun e w' => e = .returned (.string x) ∧ Below X.heap.size X w') := HC5.out
  unfold opC at *
  dsimp only at *
  clear b0 b1 s0 hl HC5
  go_enter Try.func37, Try.ntmps37
  go_upto_region 1 with fail
  rw [← hu]
  try rw [← hbr]
  try rw [← hbx]
  clear hu hbx hbr
  clear HRb
  have HBw0 : Hid (KpO w br bx [.int .i64 k0, .string o1, .string o2, .string o3, .string o4, .string o5, .string o6, .int .i64 k7, .int .i64 k8] u.drew) := KpO.below HU.out (below_drew u)
  refine wp_region_held_drew (S := fun X => X.cell? ⟨bx, 1, none⟩ = some (.string o1) ∧ X.cell? ⟨bx, 2, none⟩ = some (.string o2) ∧ X.cell? ⟨bx, 3, none⟩ = some (.string o3) ∧ X.cell? ⟨bx, 5, none⟩ = some (.string o5) ∧ X.cell? ⟨bx, 6, none⟩ = some (.string o6)) (by kernel_rfl) (KpO.s HBw0.out) (fun hHeld => ?_)
  refine takeM (i := 0) (d := 3) (v := .pointer (some ⟨bx, 1, none⟩)) rfl rfl (by kernel_rfl) (by kernel_rfl) (by kernel_rfl) (fun _ _ _ h => h) (Or.inl ⟨by rfl, ?_⟩) (by assumption) ?_
  · intro X hSw
    go_simp
  simp only [Act.put, List.setIfInBounds_toArray, List.set_cons_zero, List.set_cons_succ]
  refine takeM (i := 1) (d := 4) (v := .string o1) rfl rfl (by kernel_rfl) (by kernel_rfl) (by kernel_rfl) (fun _ _ _ h => h) (Or.inl ⟨by rfl, ?_⟩) (by assumption) ?_
  · intro X hSw
    go_simp
  simp only [Act.put, List.setIfInBounds_toArray, List.set_cons_zero, List.set_cons_succ]
  refine takeM (i := 3) (d := 6) (v := .pointer (some ⟨bx, 2, none⟩)) rfl rfl (by kernel_rfl) (by kernel_rfl) (by kernel_rfl) (fun _ _ _ h => h) (Or.inl ⟨by rfl, ?_⟩) (by assumption) ?_
  · intro X hSw
    go_simp
  simp only [Act.put, List.setIfInBounds_toArray, List.set_cons_zero, List.set_cons_succ]
  refine takeM (i := 4) (d := 7) (v := .string o2) rfl rfl (by kernel_rfl) (by kernel_rfl) (by kernel_rfl) (fun _ _ _ h => h) (Or.inl ⟨by rfl, ?_⟩) (by assumption) ?_
  · intro X hSw
    go_simp
  simp only [Act.put, List.setIfInBounds_toArray, List.set_cons_zero, List.set_cons_succ]
  refine takeM (i := 6) (d := 9) (v := .pointer (some ⟨bx, 3, none⟩)) rfl rfl (by kernel_rfl) (by kernel_rfl) (by kernel_rfl) (fun _ _ _ h => h) (Or.inl ⟨by rfl, ?_⟩) (by assumption) ?_
  · intro X hSw
    go_simp
  simp only [Act.put, List.setIfInBounds_toArray, List.set_cons_zero, List.set_cons_succ]
  refine takeM (i := 7) (d := 10) (v := .string o3) rfl rfl (by kernel_rfl) (by kernel_rfl) (by kernel_rfl) (fun _ _ _ h => h) (Or.inl ⟨by rfl, ?_⟩) (by assumption) ?_
  · intro X hSw
    go_simp
  simp only [Act.put, List.setIfInBounds_toArray, List.set_cons_zero, List.set_cons_succ]
  refine wpAnyH_ready (rs := [2]) (by kernel_rfl) (by simp) ?_
  refine AllReadyH.cons rfl (fun K hK => ?_) AllReadyH.nil
  go_simp
  go_wp2_with fail
  refine Calls.mono (HCl.out _ o1 (.inl rfl)) ?_
  rintro e w1 ⟨rfl, hb⟩
  have HBw1 : Hid (KpO w br bx [.int .i64 k0, .string o1, .string o2, .string o3, .string o4, .string o5, .string o6, .int .i64 k7, .int .i64 k8] w1) := KpO.below HBw0.out hb
  clear hb
  go_wp2
  refine hK.out _ _ (KpO.s HBw1.out) (fun hHeld2 => ?_)
  clear hK K hHeld
  have hHeld := hHeld2
  clear hHeld2
  refine takeM (i := 9) (d := 12) (v := .pointer (some ⟨bx, 1, none⟩)) rfl rfl (by kernel_rfl) (by kernel_rfl) (by kernel_rfl) (fun _ _ _ h => h) (Or.inl ⟨by rfl, ?_⟩) (by assumption) ?_
  · intro X hSw
    go_simp
  simp only [Act.put, List.setIfInBounds_toArray, List.set_cons_zero, List.set_cons_succ]
  refine wpAnyH_ready (rs := [5]) (by kernel_rfl) (by simp) ?_
  refine AllReadyH.cons rfl (fun K hK => ?_) AllReadyH.nil
  go_simp
  go_wp2_with fail
  refine Calls.mono (HCl.out _ o2 (.inr (.inl rfl))) ?_
  rintro e w2 ⟨rfl, hb⟩
  have HBw2 : Hid (KpO w br bx [.int .i64 k0, .string o1, .string o2, .string o3, .string o4, .string o5, .string o6, .int .i64 k7, .int .i64 k8] w2) := KpO.below HBw1.out hb
  clear hb
  go_wp2
  refine hK.out _ _ (KpO.s HBw2.out) (fun hHeld2 => ?_)
  clear hK K hHeld
  have hHeld := hHeld2
  clear hHeld2
  refine wpAnyH_ready (rs := [8]) (by kernel_rfl) (by simp) ?_
  refine AllReadyH.cons rfl (fun K hK => ?_) AllReadyH.nil
  go_simp
  go_wp2_with fail
  refine Calls.mono (HCl.out _ o3 (.inr (.inr (.inl rfl)))) ?_
  rintro e w3 ⟨rfl, hb⟩
  have HBw3 : Hid (KpO w br bx [.int .i64 k0, .string o1, .string o2, .string o3, .string o4, .string o5, .string o6, .int .i64 k7, .int .i64 k8] w3) := KpO.below HBw2.out hb
  clear hb
  go_wp2
  refine hK.out _ _ (KpO.s HBw3.out) (fun hHeld2 => ?_)
  clear hK K hHeld
  have hHeld := hHeld2
  clear hHeld2
  obtain ⟨y1, y2, y3, y5, y6⟩ := KpO.s HBw3.out
  have hf := HBw3.out.f 1
  refine wpAnyH_ready (rs := [10]) (by kernel_rfl) (by simp) ?_
  refine AllReadyH.cons rfl (fun K hK => ?_) AllReadyH.nil
  go_simp
  obtain ⟨w4, hw4⟩ : ∃ w4, w4 = World.setCell w3 ⟨bx, 1, none⟩ (.string o1) := ⟨_, rfl⟩
  have HBw4 : Hid (KpO w br bx [.int .i64 k0, .string o1, .string o2, .string o3, .string o4, .string o5, .string o6, .int .i64 k7, .int .i64 k8] w4) := by rw [hw4]; exact KpO.put HBw3.out 1 rfl
  rw [← hw4]
  clear hw4 y1 y2 y3 y5 y6 hf
  refine hK.out _ _ (KpO.s HBw4.out) (fun hHeld2 => ?_)
  clear hK K hHeld
  have hHeld := hHeld2
  clear hHeld2
  refine takeM (i := 11) (d := 13) (v := .pointer (some ⟨bx, 2, none⟩)) rfl rfl (by kernel_rfl) (by kernel_rfl) (by kernel_rfl) (fun _ _ _ h => h) (Or.inl ⟨by rfl, ?_⟩) (by assumption) ?_
  · intro X hSw
    go_simp
  simp only [Act.put, List.setIfInBounds_toArray, List.set_cons_zero, List.set_cons_succ]
  obtain ⟨y1, y2, y3, y5, y6⟩ := KpO.s HBw4.out
  have hf := HBw4.out.f 2
  refine wpAnyH_ready (rs := [12]) (by kernel_rfl) (by simp) ?_
  refine AllReadyH.cons rfl (fun K hK => ?_) AllReadyH.nil
  go_simp
  obtain ⟨w5, hw5⟩ : ∃ w5, w5 = World.setCell w4 ⟨bx, 2, none⟩ (.string o2) := ⟨_, rfl⟩
  have HBw5 : Hid (KpO w br bx [.int .i64 k0, .string o1, .string o2, .string o3, .string o4, .string o5, .string o6, .int .i64 k7, .int .i64 k8] w5) := by rw [hw5]; exact KpO.put HBw4.out 2 rfl
  rw [← hw5]
  clear hw5 y1 y2 y3 y5 y6 hf
  refine hK.out _ _ (KpO.s HBw5.out) (fun hHeld2 => ?_)
  clear hK K hHeld
  have hHeld := hHeld2
  clear hHeld2
  refine takeM (i := 13) (d := 14) (v := .pointer (some ⟨bx, 3, none⟩)) rfl rfl (by kernel_rfl) (by kernel_rfl) (by kernel_rfl) (fun _ _ _ h => h) (Or.inl ⟨by rfl, ?_⟩) (by assumption) ?_
  · intro X hSw
    go_simp
  simp only [Act.put, List.setIfInBounds_toArray, List.set_cons_zero, List.set_cons_succ]
  obtain ⟨y1, y2, y3, y5, y6⟩ := KpO.s HBw5.out
  have hf := HBw5.out.f 3
  refine wpAnyH_ready (rs := [14]) (by kernel_rfl) (by simp) ?_
  refine AllReadyH.cons rfl (fun K hK => ?_) AllReadyH.nil
  go_simp
  obtain ⟨w6, hw6⟩ : ∃ w6, w6 = World.setCell w5 ⟨bx, 3, none⟩ (.string o3) := ⟨_, rfl⟩
  have HBw6 : Hid (KpO w br bx [.int .i64 k0, .string o1, .string o2, .string o3, .string o4, .string o5, .string o6, .int .i64 k7, .int .i64 k8] w6) := by rw [hw6]; exact KpO.put HBw5.out 3 rfl
  rw [← hw6]
  clear hw6 y1 y2 y3 y5 y6 hf
  refine hK.out _ _ (KpO.s HBw6.out) (fun hHeld2 => ?_)
  clear hK K hHeld
  have hHeld := hHeld2
  clear hHeld2
  refine wpAnyH_done (by kernel_rfl) ?_ _
  clear hHeld
  go_upto_region 2 with fail
  go_simp
  have HBv0 : Hid (KpO w br bx [.int .i64 k0, .string o1, .string o2, .string o3, .string o4, .string o5, .string o6, .int .i64 k7, .int .i64 k8] w6.drew) := KpO.below HBw6.out (below_drew w6)
  refine wp_region_held_drew (S := fun X => X.cell? ⟨bx, 1, none⟩ = some (.string o1) ∧ X.cell? ⟨bx, 2, none⟩ = some (.string o2) ∧ X.cell? ⟨bx, 3, none⟩ = some (.string o3) ∧ X.cell? ⟨bx, 5, none⟩ = some (.string o5) ∧ X.cell? ⟨bx, 6, none⟩ = some (.string o6)) (by kernel_rfl) (KpO.s HBv0.out) (fun hHeld => ?_)
  refine takeM (i := 0) (d := 15) (v := .pointer (some ⟨bx, 5, none⟩)) rfl rfl (by kernel_rfl) (by kernel_rfl) (by kernel_rfl) (fun _ _ _ h => h) (Or.inl ⟨by rfl, ?_⟩) (by assumption) ?_
  · intro X hSw
    go_simp
  simp only [Act.put, List.setIfInBounds_toArray, List.set_cons_zero, List.set_cons_succ]
  refine takeM (i := 1) (d := 16) (v := .string o5) rfl rfl (by kernel_rfl) (by kernel_rfl) (by kernel_rfl) (fun _ _ _ h => h) (Or.inl ⟨by rfl, ?_⟩) (by assumption) ?_
  · intro X hSw
    go_simp
  simp only [Act.put, List.setIfInBounds_toArray, List.set_cons_zero, List.set_cons_succ]
  refine takeM (i := 3) (d := 18) (v := .pointer (some ⟨bx, 6, none⟩)) rfl rfl (by kernel_rfl) (by kernel_rfl) (by kernel_rfl) (fun _ _ _ h => h) (Or.inl ⟨by rfl, ?_⟩) (by assumption) ?_
  · intro X hSw
    go_simp
  simp only [Act.put, List.setIfInBounds_toArray, List.set_cons_zero, List.set_cons_succ]
  refine takeM (i := 4) (d := 19) (v := .string o6) rfl rfl (by kernel_rfl) (by kernel_rfl) (by kernel_rfl) (fun _ _ _ h => h) (Or.inl ⟨by rfl, ?_⟩) (by assumption) ?_
  · intro X hSw
    go_simp
  simp only [Act.put, List.setIfInBounds_toArray, List.set_cons_zero, List.set_cons_succ]
  refine wpAnyH_ready (rs := [2]) (by kernel_rfl) (by simp) ?_
  refine AllReadyH.cons rfl (fun K hK => ?_) AllReadyH.nil
  go_simp
  go_wp2_with fail
  refine Calls.mono (HCl.out _ o5 (.inr (.inr (.inr (.inl rfl))))) ?_
  rintro e v1 ⟨rfl, hb⟩
  have HBv1 : Hid (KpO w br bx [.int .i64 k0, .string o1, .string o2, .string o3, .string o4, .string o5, .string o6, .int .i64 k7, .int .i64 k8] v1) := KpO.below HBv0.out hb
  clear hb
  go_wp2
  refine hK.out _ _ (KpO.s HBv1.out) (fun hHeld2 => ?_)
  clear hK K hHeld
  have hHeld := hHeld2
  clear hHeld2
  refine takeM (i := 6) (d := 21) (v := .pointer (some ⟨bx, 5, none⟩)) rfl rfl (by kernel_rfl) (by kernel_rfl) (by kernel_rfl) (fun _ _ _ h => h) (Or.inl ⟨by rfl, ?_⟩) (by assumption) ?_
  · intro X hSw
    go_simp
  simp only [Act.put, List.setIfInBounds_toArray, List.set_cons_zero, List.set_cons_succ]
  refine wpAnyH_ready (rs := [5]) (by kernel_rfl) (by simp) ?_
  refine AllReadyH.cons rfl (fun K hK => ?_) AllReadyH.nil
  go_simp
  go_wp2_with fail
  refine Calls.mono (HCl.out _ o6 (.inr (.inr (.inr (.inr rfl))))) ?_
  rintro e v2 ⟨rfl, hb⟩
  have HBv2 : Hid (KpO w br bx [.int .i64 k0, .string o1, .string o2, .string o3, .string o4, .string o5, .string o6, .int .i64 k7, .int .i64 k8] v2) := KpO.below HBv1.out hb
  clear hb
  go_wp2
  refine hK.out _ _ (KpO.s HBv2.out) (fun hHeld2 => ?_)
  clear hK K hHeld
  have hHeld := hHeld2
  clear hHeld2
  obtain ⟨y1, y2, y3, y5, y6⟩ := KpO.s HBv2.out
  have hf := HBv2.out.f 5
  refine wpAnyH_ready (rs := [7]) (by kernel_rfl) (by simp) ?_
  refine AllReadyH.cons rfl (fun K hK => ?_) AllReadyH.nil
  go_simp
  obtain ⟨v3, hv3⟩ : ∃ v3, v3 = World.setCell v2 ⟨bx, 5, none⟩ (.string o5) := ⟨_, rfl⟩
  have HBv3 : Hid (KpO w br bx [.int .i64 k0, .string o1, .string o2, .string o3, .string o4, .string o5, .string o6, .int .i64 k7, .int .i64 k8] v3) := by rw [hv3]; exact KpO.put HBv2.out 5 rfl
  rw [← hv3]
  clear hv3 y1 y2 y3 y5 y6 hf
  refine hK.out _ _ (KpO.s HBv3.out) (fun hHeld2 => ?_)
  clear hK K hHeld
  have hHeld := hHeld2
  clear hHeld2
  refine takeM (i := 8) (d := 22) (v := .pointer (some ⟨bx, 6, none⟩)) rfl rfl (by kernel_rfl) (by kernel_rfl) (by kernel_rfl) (fun _ _ _ h => h) (Or.inl ⟨by rfl, ?_⟩) (by assumption) ?_
  · intro X hSw
    go_simp
  simp only [Act.put, List.setIfInBounds_toArray, List.set_cons_zero, List.set_cons_succ]
  obtain ⟨y1, y2, y3, y5, y6⟩ := KpO.s HBv3.out
  have hf := HBv3.out.f 6
  refine wpAnyH_ready (rs := [9]) (by kernel_rfl) (by simp) ?_
  refine AllReadyH.cons rfl (fun K hK => ?_) AllReadyH.nil
  go_simp
  obtain ⟨v4, hv4⟩ : ∃ v4, v4 = World.setCell v3 ⟨bx, 6, none⟩ (.string o6) := ⟨_, rfl⟩
  have HBv4 : Hid (KpO w br bx [.int .i64 k0, .string o1, .string o2, .string o3, .string o4, .string o5, .string o6, .int .i64 k7, .int .i64 k8] v4) := by rw [hv4]; exact KpO.put HBv3.out 6 rfl
  rw [← hv4]
  clear hv4 y1 y2 y3 y5 y6 hf
  refine hK.out _ _ (KpO.s HBv4.out) (fun hHeld2 => ?_)
  clear hK K hHeld
  have hHeld := hHeld2
  clear hHeld2
  refine wpAnyH_done (by kernel_rfl) ?_ _
  clear hHeld
  have hR := HBv4.out.r
  have hC := HBv4.out.c
  have q0 := hC 0 _ rfl
  have q1 := hC 1 _ rfl
  have q2 := hC 2 _ rfl
  have q3 := hC 3 _ rfl
  have q4 := hC 4 _ rfl
  have q5 := hC 5 _ rfl
  have q6 := hC 6 _ rfl
  have q7 := hC 7 _ rfl
  have q8 := hC 8 _ rfl
  have hx : ∀ j, j < 9 → ∃ y, v4.cell? ⟨br, j, none⟩ = some y := fun j hj => Option.isSome_iff_exists.1 (hR.2.2.2.1 j hj)
  obtain ⟨x0, z0⟩ := hx 0 (by omega)
  obtain ⟨x1, z1⟩ := hx 1 (by omega)
  obtain ⟨x2, z2⟩ := hx 2 (by omega)
  obtain ⟨x3, z3⟩ := hx 3 (by omega)
  obtain ⟨x4, z4⟩ := hx 4 (by omega)
  obtain ⟨x5, z5⟩ := hx 5 (by omega)
  obtain ⟨x6, z6⟩ := hx 6 (by omega)
  obtain ⟨x7, z7⟩ := hx 7 (by omega)
  obtain ⟨x8, z8⟩ := hx 8 (by omega)
  have g0 := hR.2.2.2.2 0
  have g1 := hR.2.2.2.2 1
  have g2 := hR.2.2.2.2 2
  have g3 := hR.2.2.2.2 3
  have g4 := hR.2.2.2.2 4
  have g5 := hR.2.2.2.2 5
  have g6 := hR.2.2.2.2 6
  have g7 := hR.2.2.2.2 7
  have g8 := hR.2.2.2.2 8
  obtain ⟨F, hF⟩ : ∃ F, F = putS v4 br [.int .i64 k0, .string o1, .string o2, .string o3, .string o4, .string o5, .string o6, .int .i64 k7, .int .i64 k8] := ⟨_, rfl⟩
  have hat := fun (j : Nat) (v : Value) (hv : ([.int .i64 k0, .string o1, .string o2, .string o3, .string o4, .string o5, .string o6, .int .i64 k7, .int .i64 k8] : List Value)[j]? = some v) => putS_at (X := v4) (b := br) (fun j hj => ⟨hR.2.2.2.1 j (by simpa using hj), hR.2.2.2.2 j⟩) hv
  rw [← hF] at hat
  have HR : Hid (Below w.heap.size w F) := by rw [hF]; exact putS_below HBv4.out.old hR.2.2.1 _
  have p0 := hat 0 _ rfl
  have p1 := hat 1 _ rfl
  have p2 := hat 2 _ rfl
  have p3 := hat 3 _ rfl
  have p4 := hat 4 _ rfl
  have p5 := hat 5 _ rfl
  have p6 := hat 6 _ rfl
  have p7 := hat 7 _ rfl
  have p8 := hat 8 _ rfl
  have hFe : F = ((((((((v4.setCell ⟨br, 0, none⟩ (.int .i64 k0)).setCell ⟨br, 1, none⟩ (.string o1)).setCell ⟨br, 2, none⟩ (.string o2)).setCell ⟨br, 3, none⟩ (.string o3)).setCell ⟨br, 4, none⟩ (.string o4)).setCell ⟨br, 5, none⟩ (.string o5)).setCell ⟨br, 6, none⟩ (.string o6)).setCell ⟨br, 7, none⟩ (.int .i64 k7)).setCell ⟨br, 8, none⟩ (.int .i64 k8) := hF
  have HFe : Hid _ := hFe
  clear hF hFe hat hx hC hR
  go_wp2
  rw [← HFe.out]
  refine bodyPost_ret (v := .agg #[.int .i64 k0, .string o1, .string o2, .string o3, .string o4, .string o5, .string o6, .int .i64 k7, .int .i64 k8]) ?qres rfl ?qpost
  case qres => simp [results, Try.results37, go_sem, p0, p1, p2, p3, p4, p5, p6, p7, p8]
  case qpost => exact ⟨rfl, HR.out⟩
end Go.Proofs.Ytepbmfjimppgcaa
