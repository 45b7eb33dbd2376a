/-
  What a raft node saves.
-/
import Derived.Test.YteaopnhjndnpnaaNdSaved
namespace Go.Proofs.Yteaopnhjndnpnaa
open Go.RowKit

section
variable {w : World} {B : Nat} {s : N.St} {own : Nat → Prop}

theorem slice_all (l : G.L) : G.slice l (l.base + 1) (G.last l - l.base) = l.ents := by
  have hE : G.sliceE l (l.base + 1) (G.last l - l.base) = 0 := by
    unfold G.sliceE
    rw [if_neg (by unfold G.last; omega), G.within_zero]
    unfold G.last
    omega
  unfold G.slice
  rw [if_pos hE]
  unfold G.last
  have e1 : (l.base + 1 - l.base - 1).toNat = 0 := by omega
  have e2 : (l.base + (l.ents.length : Int) - l.base).toNat = l.ents.length := by omega
  rw [e1, e2, List.drop_zero, List.take_length]

theorem EntP.carry' {P : Nat → Prop} {X Y : World} {v : Value} {l : List (Int × ByteArray)} (h : EntP X P v l) (hb : Below X.heap.size X Y) : EntP Y P v l :=
  ⟨h.1.carry (fun k hk => hb.block k (h.1.lt (by decide) hk)), h.2⟩

/-- While what is saved is put together: the node, the result's block, the entries. -/
structure Sd (w : World) (own : Nat → Prop) (B : Nat) (s : N.St) (ev : Value) (X : World) : Prop where
  nd : Nd X B s own
  old : Below w.heap.size w X
  ent : EntP X (fun k => w.heap.size < k) ev s.log.ents
  lt : w.heap.size < X.heap.size
  res : ∀ j, j < 6 → (X.cell? ⟨w.heap.size, j, none⟩).isSome = true ∧ X.frozen? ⟨w.heap.size, j, none⟩ = false

theorem Sd.below {ev : Value} {X Y : World} (h : Sd w own B s ev X) (hb : Below X.heap.size X Y) : Sd w own B s ev Y :=
  ⟨h.nd.below hb, h.old.trans (hb.mono h.old.size), h.ent.carry' hb, Nat.lt_of_lt_of_le h.lt hb.size, fun j hj => by
    rw [hb.cell (p := ⟨w.heap.size, j, none⟩) h.lt, hb.frozen (p := ⟨w.heap.size, j, none⟩) h.lt]; exact h.res j hj⟩

/-- What Saved answers. -/
def SavedOut (w : World) (s : N.St) (e : Ending) (w' : World) : Prop :=
  ∃ p n c, e = .returned (svV (N.saved s) (.slice p n c)) ∧ Below w.heap.size w w' ∧ EntP w' (fun k => w.heap.size < k) (.slice p n c) s.log.ents

set_option maxHeartbeats 1600000 in
set_option maxRecDepth 20000 in
theorem Saved_c (h : Nd w B s own) : Calls Try.prog 15 #[.pointer (some ⟨B, 0, none⟩)] w (SavedOut w s) := by
  obtain ⟨u, hu⟩ : ∃ u, u = w.alloc (.cells #[.int .i64 0, .int .i64 0, .int .i64 0, .int .i64 0, .string ⟨#[]⟩, .slice none 0 0] 44) := ⟨_, rfl⟩
  have hbu : Below w.heap.size w u := by rw [hu]; exact below_alloc _ _
  have hNu := h.below hbu
  have HM : Hid _ := made_c hNu
  obtain ⟨br, hbr⟩ : ∃ br, br = w.heap.size := ⟨_, rfl⟩
  obtain ⟨LB, MB, ol, rv, hv⟩ := id hNu
  have k4 := hv.at 4 _ rfl
  have hok := hv.log.ok
  have HBa : Hid (∀ n, Calls Try.prog 29 #[.pointer (some ⟨LB, 0, none⟩)] (u.drewN n) fun e w' => e = .returned (.int .i64 s.log.base) ∧ w' = u.drewN n) := fun n => Base_c (hv.log.drewN n)
  have HLa : Hid (∀ n, Calls Try.prog 32 #[.pointer (some ⟨LB, 0, none⟩)] (u.drewN n) fun e w' => e = .returned (.int .i64 (G.last s.log)) ∧ ∃ m, w' = (u.drewN n).drewN m) := fun n => (Last_c (hv.log.drewN n)).mono (by rintro e w' ⟨rfl, hw⟩; exact ⟨rfl, 1, hw⟩)
  have hw1 : IntKind.i64.wrap (s.log.base + 1) = s.log.base + 1 := by
    have := hok.base; have := hok.last; unfold G.last at this; rw [IntKind.wrap_i64]; omega
  have hw2 : IntKind.i64.wrap (G.last s.log - s.log.base) = G.last s.log - s.log.base := by
    have := hok.base; have := hok.last; unfold G.last at this ⊢; rw [IntKind.wrap_i64]; omega
  have HSl : Hid (∀ X, Below u.heap.size u X → Calls Try.prog 33 #[.pointer (some ⟨LB, 0, none⟩), .int .i64 (s.log.base + 1), .int .i64 (G.last s.log - s.log.base)] X fun e w' => ∃ p n c y, e = .returned (.tuple #[.slice p n c, y]) ∧ Sd w own B s (.slice p n c) w') := by
    intro X hX
    have hsX := hX.size
    have hsu : u.heap.size = w.heap.size + 1 := by rw [hu]; simp
    refine (Slice_f (hv.log.below hX) (s.log.base + 1) (G.last s.log - s.log.base)).mono ?_
    rintro e w' ⟨v, rfl, b1, b2, b3⟩
    rw [slice_all] at b2
    obtain ⟨p, c, hv', _, _⟩ := b2.form
    have hbw := b1.size
    have hbX' : Below u.heap.size u w' := hX.trans (b1.mono hX.size)
    refine ⟨p, _, c, _, by rw [hv'], (hNu.below hX).below b1, hbu.trans (hbX'.mono (by omega)), ⟨by rw [← hv']; exact b2, fun k hk => by have := b3 k (by rw [hv']; exact hk); omega⟩, by omega, fun j hj => ?_⟩
    rw [hbX'.cell (p := ⟨w.heap.size, j, none⟩) (by show w.heap.size < _; omega), hbX'.frozen (p := ⟨w.heap.size, j, none⟩) (by show w.heap.size < _; omega), hu, World.cell?_alloc_mark, World.frozen?_alloc_mark]
    have : j = 0 ∨ j = 1 ∨ j = 2 ∨ j = 3 ∨ j = 4 ∨ j = 5 := by omega
    rcases this with rfl | rfl | rfl | rfl | rfl | rfl <;> simp
  have HCells : Hid (∀ X ev, Sd w own B s ev X → X.cell? ⟨B, 4, none⟩ = X.cell? ⟨B, 4, none⟩ ∧ X.cell? ⟨B, 5, none⟩ = some (.string s.data) ∧ X.cell? ⟨B, 6, none⟩ = some (.int .i64 s.term) ∧ X.cell? ⟨B, 7, none⟩ = some (.int .i64 s.vote)) := fun X ev hX => by
    obtain ⟨_, _, _, _, hn⟩ := hX.nd
    exact ⟨rfl, hn.at 5 _ rfl, hn.at 6 _ rfl, hn.at 7 _ rfl⟩
  have HTm : Hid (∀ X ev, Sd w own B s ev X → Calls Try.prog 31 #[.pointer (some ⟨B, 0, none⟩), .int .i64 s.log.base] X fun e w' => e = .returned (.int .i64 (G.termA s.log s.log.base)) ∧ Sd w own B s ev w') := fun X ev hX => (termAtN_c hX.nd _).mono (by rintro e w' ⟨rfl, m, hw⟩; exact ⟨rfl, hX.below (by rw [hw]; exact below_drewN X m)⟩)
  obtain ⟨ba, hba⟩ : ∃ ba, ba = s.log.base := ⟨_, rfl⟩
  obtain ⟨la, hla⟩ : ∃ la, la = G.last s.log := ⟨_, rfl⟩
  obtain ⟨ta, hta⟩ : ∃ ta, ta = G.termA s.log s.log.base := ⟨_, rfl⟩
  rw [← hta] at HTm
  rw [← hba] at HBa HSl hw1 hw2 HTm
  rw [← hla] at HLa HSl hw2
  have HSv : Hid (N.saved s = ⟨s.term, s.vote, ba, ta, s.data, s.log.ents⟩) := by unfold N.saved; rw [hba, hta]; rfl
  have HBr : Hid (br = w.heap.size) := hbr
  have HBB : Hid (B ≠ br) := by have := h.lt; show B ≠ br; omega
  generalize hQ : SavedOut w s = Q
  have HQ : Hid (SavedOut w s = Q) := hQ
  clear h hNu hv hok hba hla hta hbu hQ
  go_enter Try.func15, Try.ntmps15
  go_wp2_with fail
  rw [← hu]
  refine Calls.mono HM.out ?_
  rintro e w1 ⟨rfl, hw⟩
  subst hw
  rw [← hbr]
  clear hu hbr
  go_wp2
  go_quiet (first | (go_at_call 29; exact Calls.quiet_of_same (HBa.out _)) | (go_at_call 32; exact Calls.quiet_of (HLa.out _)))
  go_wp2_with fail
  refine Calls.mono (HSl.out _ (below_drewN _ _)) ?_
  rintro e w3 ⟨p, n, c, y, rfl, hS⟩
  have HS3 : Hid _ := hS
  obtain ⟨_, x5, x6, x7⟩ := HCells.out _ _ hS
  have hSd : Sd w own B s (.slice p n c) w3.drew := hS.below (Below.refl _ _).drew
  have HK3 : Hid (∀ X, Sd w own B s (.slice p n c) X → X.cell? ⟨B, 5, none⟩ = some (.string s.data) ∧ X.cell? ⟨B, 6, none⟩ = some (.int .i64 s.term) ∧ X.cell? ⟨B, 7, none⟩ = some (.int .i64 s.vote)) := fun X hX => (HCells.out X _ hX).2
  have HFin : Hid (∀ X, Sd w own B s (.slice p n c) X → ∀ v0 v1 v2 v3 v4 v5, ∃ o0 o1 o2 o3 o4 o5, X.cell? ⟨br, 0, none⟩ = some o0 ∧ X.cell? ⟨br, 1, none⟩ = some o1 ∧ X.cell? ⟨br, 2, none⟩ = some o2 ∧ X.cell? ⟨br, 3, none⟩ = some o3 ∧ X.cell? ⟨br, 4, none⟩ = some o4 ∧ X.cell? ⟨br, 5, none⟩ = some o5 ∧
      X.frozen? ⟨br, 0, none⟩ = false ∧ X.frozen? ⟨br, 1, none⟩ = false ∧ X.frozen? ⟨br, 2, none⟩ = false ∧ X.frozen? ⟨br, 3, none⟩ = false ∧ X.frozen? ⟨br, 4, none⟩ = false ∧ X.frozen? ⟨br, 5, none⟩ = false ∧
      ((((((((X.setCell ⟨br, 0, none⟩ v0).setCell ⟨br, 1, none⟩ v1).setCell ⟨br, 2, none⟩ v2).setCell ⟨br, 3, none⟩ v3).setCell ⟨br, 4, none⟩ v4).setCell ⟨br, 5, none⟩ v5)).cell? ⟨B, 5, none⟩ = some (.string s.data) ∧ (((((((X.setCell ⟨br, 0, none⟩ v0).setCell ⟨br, 1, none⟩ v1).setCell ⟨br, 2, none⟩ v2).setCell ⟨br, 3, none⟩ v3).setCell ⟨br, 4, none⟩ v4).setCell ⟨br, 5, none⟩ v5)).cell? ⟨B, 6, none⟩ = some (.int .i64 s.term) ∧ (((((((X.setCell ⟨br, 0, none⟩ v0).setCell ⟨br, 1, none⟩ v1).setCell ⟨br, 2, none⟩ v2).setCell ⟨br, 3, none⟩ v3).setCell ⟨br, 4, none⟩ v4).setCell ⟨br, 5, none⟩ v5)).cell? ⟨B, 7, none⟩ = some (.int .i64 s.vote)) ∧
      Hid ((∀ j, (((((((X.setCell ⟨br, 0, none⟩ v0).setCell ⟨br, 1, none⟩ v1).setCell ⟨br, 2, none⟩ v2).setCell ⟨br, 3, none⟩ v3).setCell ⟨br, 4, none⟩ v4).setCell ⟨br, 5, none⟩ v5)).cell? ⟨br, j, none⟩ = if j < 6 then ([v0, v1, v2, v3, v4, v5] : List Value)[j]? else X.cell? ⟨br, j, none⟩) ∧
        Below w.heap.size w (((((((X.setCell ⟨br, 0, none⟩ v0).setCell ⟨br, 1, none⟩ v1).setCell ⟨br, 2, none⟩ v2).setCell ⟨br, 3, none⟩ v3).setCell ⟨br, 4, none⟩ v4).setCell ⟨br, 5, none⟩ v5)) ∧ EntP (((((((X.setCell ⟨br, 0, none⟩ v0).setCell ⟨br, 1, none⟩ v1).setCell ⟨br, 2, none⟩ v2).setCell ⟨br, 3, none⟩ v3).setCell ⟨br, 4, none⟩ v4).setCell ⟨br, 5, none⟩ v5)) (fun k => w.heap.size < k) (.slice p n c) s.log.ents)) := by
    intro X hX v0 v1 v2 v3 v4 v5
    have hr := hX.res
    rw [← HBr.out] at hr
    obtain ⟨o0, q0⟩ := Option.isSome_iff_exists.1 (hr 0 (by decide)).1
    obtain ⟨o1, q1⟩ := Option.isSome_iff_exists.1 (hr 1 (by decide)).1
    obtain ⟨o2, q2⟩ := Option.isSome_iff_exists.1 (hr 2 (by decide)).1
    obtain ⟨o3, q3⟩ := Option.isSome_iff_exists.1 (hr 3 (by decide)).1
    obtain ⟨o4, q4⟩ := Option.isSome_iff_exists.1 (hr 4 (by decide)).1
    obtain ⟨o5, q5⟩ := Option.isSome_iff_exists.1 (hr 5 (by decide)).1
    have hh : ∀ k, k ≠ br → (((((((X.setCell ⟨br, 0, none⟩ v0).setCell ⟨br, 1, none⟩ v1).setCell ⟨br, 2, none⟩ v2).setCell ⟨br, 3, none⟩ v3).setCell ⟨br, 4, none⟩ v4).setCell ⟨br, 5, none⟩ v5)).heap[k]? = X.heap[k]? := fun k hk => by
      rw [Below.heap_setCell _ _ _ _ hk, Below.heap_setCell _ _ _ _ hk, Below.heap_setCell _ _ _ _ hk, Below.heap_setCell _ _ _ _ hk, Below.heap_setCell _ _ _ _ hk, Below.heap_setCell _ _ _ _ hk]
    have hB := HBB.out
    obtain ⟨e5, e6, e7⟩ := HK3.out X hX
    have hb0 := HBr.out
    refine ⟨o0, o1, o2, o3, o4, o5, q0, q1, q2, q3, q4, q5, (hr 0 (by decide)).2, (hr 1 (by decide)).2, (hr 2 (by decide)).2, (hr 3 (by decide)).2, (hr 4 (by decide)).2, (hr 5 (by decide)).2, ⟨?_, ?_, ?_⟩, ?_, ?_, ?_⟩
    · exact (World.cell?_of_block (a := ⟨B, 5, none⟩) (hh B hB)).trans e5
    · exact (World.cell?_of_block (a := ⟨B, 6, none⟩) (hh B hB)).trans e6
    · exact (World.cell?_of_block (a := ⟨B, 7, none⟩) (hh B hB)).trans e7
    · intro j
      have r1 : (X.setCell ⟨br, 0, none⟩ v0).cell? ⟨br, 1, none⟩ = some o1 := by rw [cell_set6 _ q0, if_neg (by decide)]; exact q1
      have r2 : ((X.setCell ⟨br, 0, none⟩ v0).setCell ⟨br, 1, none⟩ v1).cell? ⟨br, 2, none⟩ = some o2 := by rw [cell_set6 _ r1, if_neg (by decide), cell_set6 _ q0, if_neg (by decide)]; exact q2
      have r3 : (((X.setCell ⟨br, 0, none⟩ v0).setCell ⟨br, 1, none⟩ v1).setCell ⟨br, 2, none⟩ v2).cell? ⟨br, 3, none⟩ = some o3 := by rw [cell_set6 _ r2, if_neg (by decide), cell_set6 _ r1, if_neg (by decide), cell_set6 _ q0, if_neg (by decide)]; exact q3
      have r4 : ((((X.setCell ⟨br, 0, none⟩ v0).setCell ⟨br, 1, none⟩ v1).setCell ⟨br, 2, none⟩ v2).setCell ⟨br, 3, none⟩ v3).cell? ⟨br, 4, none⟩ = some o4 := by rw [cell_set6 _ r3, if_neg (by decide), cell_set6 _ r2, if_neg (by decide), cell_set6 _ r1, if_neg (by decide), cell_set6 _ q0, if_neg (by decide)]; exact q4
      have r5 : (((((X.setCell ⟨br, 0, none⟩ v0).setCell ⟨br, 1, none⟩ v1).setCell ⟨br, 2, none⟩ v2).setCell ⟨br, 3, none⟩ v3).setCell ⟨br, 4, none⟩ v4).cell? ⟨br, 5, none⟩ = some o5 := by rw [cell_set6 _ r4, if_neg (by decide), cell_set6 _ r3, if_neg (by decide), cell_set6 _ r2, if_neg (by decide), cell_set6 _ r1, if_neg (by decide), cell_set6 _ q0, if_neg (by decide)]; exact q5
      rw [cell_set6 _ r5, cell_set6 _ r4, cell_set6 _ r3, cell_set6 _ r2, cell_set6 _ r1, cell_set6 _ q0]
      match j with
      | 0 => rfl
      | 1 => rfl
      | 2 => rfl
      | 3 => rfl
      | 4 => rfl
      | 5 => rfl
      | j + 6 => rw [if_neg (by omega), if_neg (by omega), if_neg (by omega), if_neg (by omega), if_neg (by omega), if_neg (by omega), if_neg (by omega)]
    · iterate 6 refine Below.setCell ?_ (by show _ ≤ br; omega) _
      exact hX.old
    · exact ⟨hX.ent.1.carry (fun k hk => hh k (by have := hX.ent.2 k hk; omega)), hX.ent.2⟩
  clear hS k4 HSl HCells
  have HF2 : Hid (∀ X, Sd w own B s (.slice p n c) X → _) := fun X hX => HFin.out X hX (.int .i64 s.term) (.int .i64 s.vote) (.int .i64 ba) (.int .i64 ta) (.string s.data) (.slice p n c)
  clear HFin
  go_wp2
  refine wp_region_held_drew (S := fun Y => Y.cell? ⟨B, 5, none⟩ = some (.string s.data) ∧ Y.cell? ⟨B, 6, none⟩ = some (.int .i64 s.term) ∧ Y.cell? ⟨B, 7, none⟩ = some (.int .i64 s.vote)) (by kernel_rfl) (HK3.out _ hSd) (fun hHeld => ?_)
  refine take7 (i := 0) (d := 34) (v := .pointer (some ⟨B, 0, none⟩)) rfl rfl (by kernel_rfl) (by kernel_rfl) (by kernel_rfl) (fun _ _ _ h => h) (Or.inl ⟨by rfl, ?_⟩) (by assumption) ?_
  · intro X hSw
    go_simp
  simp only [Act.put, List.setIfInBounds_toArray, List.set_cons_zero, List.set_cons_succ]
  refine take7 (i := 1) (d := 35) (v := .pointer (some ⟨B, 0, none⟩)) rfl rfl (by kernel_rfl) (by kernel_rfl) (by kernel_rfl) (fun _ _ _ h => h) (Or.inl ⟨by rfl, ?_⟩) (by assumption) ?_
  · intro X hSw
    go_simp
  simp only [Act.put, List.setIfInBounds_toArray, List.set_cons_zero, List.set_cons_succ]
  refine take7 (i := 2) (d := 36) (v := .pointer (some ⟨B, 6, none⟩)) rfl rfl (by kernel_rfl) (by kernel_rfl) (by kernel_rfl) (fun _ _ _ h => h) (Or.inl ⟨by rfl, ?_⟩) (by assumption) ?_
  · intro X hSw
    go_simp
  simp only [Act.put, List.setIfInBounds_toArray, List.set_cons_zero, List.set_cons_succ]
  refine take7 (i := 3) (d := 37) (v := .pointer (some ⟨B, 6, none⟩)) rfl rfl (by kernel_rfl) (by kernel_rfl) (by kernel_rfl) (fun _ _ _ h => h) (Or.inl ⟨by rfl, ?_⟩) (by assumption) ?_
  · intro X hSw
    go_simp
  simp only [Act.put, List.setIfInBounds_toArray, List.set_cons_zero, List.set_cons_succ]
  refine take7 (i := 4) (d := 38) (v := .int .i64 s.term) rfl rfl (by kernel_rfl) (by kernel_rfl) (by kernel_rfl) (fun _ _ _ h => h) (Or.inl ⟨by rfl, ?_⟩) (by assumption) ?_
  · intro X hSw
    go_simp
  simp only [Act.put, List.setIfInBounds_toArray, List.set_cons_zero, List.set_cons_succ]
  refine take7 (i := 5) (d := 39) (v := .pointer (some ⟨B, 0, none⟩)) rfl rfl (by kernel_rfl) (by kernel_rfl) (by kernel_rfl) (fun _ _ _ h => h) (Or.inl ⟨by rfl, ?_⟩) (by assumption) ?_
  · intro X hSw
    go_simp
  simp only [Act.put, List.setIfInBounds_toArray, List.set_cons_zero, List.set_cons_succ]
  refine take7 (i := 6) (d := 40) (v := .pointer (some ⟨B, 0, none⟩)) rfl rfl (by kernel_rfl) (by kernel_rfl) (by kernel_rfl) (fun _ _ _ h => h) (Or.inl ⟨by rfl, ?_⟩) (by assumption) ?_
  · intro X hSw
    go_simp
  simp only [Act.put, List.setIfInBounds_toArray, List.set_cons_zero, List.set_cons_succ]
  refine take7 (i := 7) (d := 41) (v := .pointer (some ⟨B, 6, none⟩)) rfl rfl (by kernel_rfl) (by kernel_rfl) (by kernel_rfl) (fun _ _ _ h => h) (Or.inl ⟨by rfl, ?_⟩) (by assumption) ?_
  · intro X hSw
    go_simp
  simp only [Act.put, List.setIfInBounds_toArray, List.set_cons_zero, List.set_cons_succ]
  refine take7 (i := 8) (d := 42) (v := .pointer (some ⟨B, 7, none⟩)) rfl rfl (by kernel_rfl) (by kernel_rfl) (by kernel_rfl) (fun _ _ _ h => h) (Or.inl ⟨by rfl, ?_⟩) (by assumption) ?_
  · intro X hSw
    go_simp
  simp only [Act.put, List.setIfInBounds_toArray, List.set_cons_zero, List.set_cons_succ]
  refine take7 (i := 9) (d := 43) (v := .int .i64 s.vote) rfl rfl (by kernel_rfl) (by kernel_rfl) (by kernel_rfl) (fun _ _ _ h => h) (Or.inl ⟨by rfl, ?_⟩) (by assumption) ?_
  · intro X hSw
    go_simp
  simp only [Act.put, List.setIfInBounds_toArray, List.set_cons_zero, List.set_cons_succ]
  refine take7 (i := 10) (d := 44) (v := .int .i64 ba) rfl rfl (by kernel_rfl) (by kernel_rfl) (by kernel_rfl) (fun _ _ _ h => h) (Or.inl ⟨by rfl, ?_⟩) (by assumption) ?_
  · intro X hSw
    go_simp
  simp only [Act.put, List.setIfInBounds_toArray, List.set_cons_zero, List.set_cons_succ]
  refine take7 (i := 11) (d := 45) (v := .pointer (some ⟨B, 0, none⟩)) rfl rfl (by kernel_rfl) (by kernel_rfl) (by kernel_rfl) (fun _ _ _ h => h) (Or.inl ⟨by rfl, ?_⟩) (by assumption) ?_
  · intro X hSw
    go_simp
  simp only [Act.put, List.setIfInBounds_toArray, List.set_cons_zero, List.set_cons_succ]
  refine take7 (i := 12) (d := 46) (v := .int .i64 ba) rfl rfl (by kernel_rfl) (by kernel_rfl) (by kernel_rfl) (fun _ _ _ h => h) (Or.inl ⟨by rfl, ?_⟩) (by assumption) ?_
  · intro X hSw
    go_simp
  simp only [Act.put, List.setIfInBounds_toArray, List.set_cons_zero, List.set_cons_succ]
  refine take7 (i := 14) (d := 48) (v := .pointer (some ⟨B, 0, none⟩)) rfl rfl (by kernel_rfl) (by kernel_rfl) (by kernel_rfl) (fun _ _ _ h => h) (Or.inl ⟨by rfl, ?_⟩) (by assumption) ?_
  · intro X hSw
    go_simp
  simp only [Act.put, List.setIfInBounds_toArray, List.set_cons_zero, List.set_cons_succ]
  refine take7 (i := 15) (d := 49) (v := .pointer (some ⟨B, 0, none⟩)) rfl rfl (by kernel_rfl) (by kernel_rfl) (by kernel_rfl) (fun _ _ _ h => h) (Or.inl ⟨by rfl, ?_⟩) (by assumption) ?_
  · intro X hSw
    go_simp
  simp only [Act.put, List.setIfInBounds_toArray, List.set_cons_zero, List.set_cons_succ]
  refine take7 (i := 16) (d := 50) (v := .pointer (some ⟨B, 5, none⟩)) rfl rfl (by kernel_rfl) (by kernel_rfl) (by kernel_rfl) (fun _ _ _ h => h) (Or.inl ⟨by rfl, ?_⟩) (by assumption) ?_
  · intro X hSw
    go_simp
  simp only [Act.put, List.setIfInBounds_toArray, List.set_cons_zero, List.set_cons_succ]
  refine take7 (i := 17) (d := 51) (v := .string s.data) rfl rfl (by kernel_rfl) (by kernel_rfl) (by kernel_rfl) (fun _ _ _ h => h) (Or.inl ⟨by rfl, ?_⟩) (by assumption) ?_
  · intro X hSw
    go_simp
  simp only [Act.put, List.setIfInBounds_toArray, List.set_cons_zero, List.set_cons_succ]
  refine take7 (i := 18) (d := 52) (v := .slice p n c) rfl rfl (by kernel_rfl) (by kernel_rfl) (by kernel_rfl) (fun _ _ _ h => h) (Or.inl ⟨by rfl, ?_⟩) (by assumption) ?_
  · intro X hSw
    go_simp
  simp only [Act.put, List.setIfInBounds_toArray, List.set_cons_zero, List.set_cons_succ]
  refine wpAnyH_ready (rs := [13]) (by kernel_rfl) (by simp) ?_
  refine AllReadyH.cons rfl (fun K hK => ?_) AllReadyH.nil
  go_simp
  go_wp2_with fail
  refine Calls.mono (HTm.out _ (.slice p n c) hSd) ?_
  rintro e w4 ⟨rfl, hS4⟩
  obtain ⟨o0, o1, o2, o3, o4, o5, q0, q1, q2, q3, q4, q5, f0, f1, f2, f3, f4, f5, hSf, HFf⟩ := HF2.out _ hS4
  have HSf : Hid _ := hSf
  have hS5 := HK3.out _ hS4
  clear hSf hS4 hSd x5 x6 x7
  go_wp2
  refine hK.out _ _ hS5 (fun hHeld2 => ?_)
  clear hK K hHeld
  refine take7 (i := 19) (d := 53) (v := .agg #[.int .i64 s.term, .int .i64 s.vote, .int .i64 ba, .int .i64 ta, .string s.data, .slice p n c]) rfl rfl (by kernel_rfl) (by kernel_rfl) (by kernel_rfl) (fun _ _ _ h => h) (Or.inl ⟨by rfl, ?_⟩) (by assumption) ?_
  · intro X hSw
    go_simp
  simp only [Act.put, List.setIfInBounds_toArray, List.set_cons_zero, List.set_cons_succ]
  refine wpAnyH_ready (rs := [20]) (by kernel_rfl) (by simp) ?_
  refine AllReadyH.cons rfl (fun K hK => ?_) AllReadyH.nil
  go_simp
  refine hK.out _ _ HSf.out (fun hHeld3 => ?_)
  clear hK K hHeld2 hS5 HSf
  refine wpAnyH_done (by kernel_rfl) ?_ _
  clear hHeld3 q0 q1 q2 q3 q4 q5 f0 f1 f2 f3 f4 f5
  obtain ⟨Z, hZ⟩ : ∃ Z, Z = (((((((w4.setCell ⟨br, 0, none⟩ (.int .i64 s.term)).setCell ⟨br, 1, none⟩ (.int .i64 s.vote)).setCell ⟨br, 2, none⟩ (.int .i64 ba)).setCell ⟨br, 3, none⟩ (.int .i64 ta)).setCell ⟨br, 4, none⟩ (.string s.data)).setCell ⟨br, 5, none⟩ (.slice p n c))) := ⟨_, rfl⟩
  rw [← hZ] at HFf ⊢
  have z0 : Z.cell? ⟨br, 0, none⟩ = some (.int .i64 s.term) := (HFf.out.1 0).trans rfl
  have z1 : Z.cell? ⟨br, 1, none⟩ = some (.int .i64 s.vote) := (HFf.out.1 1).trans rfl
  have z2 : Z.cell? ⟨br, 2, none⟩ = some (.int .i64 ba) := (HFf.out.1 2).trans rfl
  have z3 : Z.cell? ⟨br, 3, none⟩ = some (.int .i64 ta) := (HFf.out.1 3).trans rfl
  have z4 : Z.cell? ⟨br, 4, none⟩ = some (.string s.data) := (HFf.out.1 4).trans rfl
  have z5 : Z.cell? ⟨br, 5, none⟩ = some (.slice p n c) := (HFf.out.1 5).trans rfl
  clear hZ
  go_wp2
  have HO : SavedOut w s (.returned (.agg #[.int .i64 s.term, .int .i64 s.vote, .int .i64 ba, .int .i64 ta, .string s.data, .slice p n c])) Z := ⟨p, n, c, by rw [HSv.out]; rfl, HFf.out.2.1, HFf.out.2.2⟩
  rw [HQ.out] at HO
  first
  | exact HO
  | (refine bodyPost_ret (v := .agg #[.int .i64 s.term, .int .i64 s.vote, .int .i64 ba, .int .i64 ta, .string s.data, .slice p n c]) ?qres rfl HO
     case qres => simp [results, Try.results15, go_sem, z0, z1, z2, z3, z4, z5])

end
end Go.Proofs.Yteaopnhjndnpnaa
