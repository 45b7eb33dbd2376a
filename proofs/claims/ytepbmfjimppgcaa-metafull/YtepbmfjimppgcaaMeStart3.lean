/-
  The meta group's plans: start, where a plan begins.
-/
import Derived.Test.YtepbmfjimppgcaaMeStart2
namespace Go.Proofs.Ytepbmfjimppgcaa
open Go.RowKit

section
variable {w : World} {B n : Nat} {q : Me.St} {who : Nat → Nat}
set_option maxHeartbeats 1600000 in
set_option maxRecDepth 20000 in
theorem start_yes (h : Mt w B q who n) (c : Me.Cd) (i : Nat) (hi : i < 16) (hs : c.slot = (i : Int)) (hg : ¬ c.group < 1) (hg2 : ¬ c.group > (q.groups : Int)) (hp : q.pl.plan = 0) (ht : (q.own.O i : Int) ≠ c.group) : Calls Try.prog 24 #[.pointer (some ⟨B, 0, none⟩), cmdV c] w (AnsT who w B { q with pl := Me.planned q c.slot c.group } (n + 1) 0 (Me.takenTo q.own.E 16 + 1)) := by
  unfold cmdV
  obtain ⟨u0, hu0⟩ : ∃ u0, u0 = w.alloc (.cells (cmdL c).toArray 39) := ⟨_, rfl⟩
  obtain ⟨u, hu⟩ : ∃ u, u = u0.alloc (.cells #[.int .i64 0, .int .i64 0, .slice none 0 0] 32) := ⟨_, rfl⟩
  obtain ⟨bc, hbc⟩ : ∃ bc, bc = w.heap.size := ⟨_, rfl⟩
  obtain ⟨br, hbr⟩ : ∃ br, br = w.heap.size + 1 := ⟨_, rfl⟩
  have hB : Bc w u bc br who (cmdL c) := by rw [hbc, hbr]; exact Bc.of h.here _ hu0 hu
  have HBc : Hid _ := hB
  have hh : Mt u B q who n := h.below hB.old
  obtain ⟨h0, ob, tb, tm, wv, vb, eb, hq⟩ := hh
  have HH : Hid (Mt u B q who n) := ⟨h0, ob, tb, tm, wv, vb, eb, hq⟩
  have HQ : Hid (∀ X, Below u.heap.size u X → (X.cell? ⟨B, 0, none⟩ = some (.int .i64 (q.groups : Int)) ∧ X.cell? ⟨B, 1, none⟩ = some (.pointer (some ⟨ob, 0, none⟩)) ∧ X.cell? ⟨B, 5, none⟩ = some (.int .i64 q.pl.plan)) ∧ Sm X ob q.own) := fun X hX => by
    have hb := hq.below h0.np hX
    exact ⟨⟨hb.b.c0, hb.b.c1, hb.b.c5⟩, hb.r.sm⟩
  have HC : Hid (∀ X, KeptQ who u X → X.cell? ⟨bc, 14, none⟩ = some (.int .i64 c.slot) ∧ X.cell? ⟨bc, 16, none⟩ = some (.int .i64 c.group)) := fun X hX => ⟨hB.c X hX 14 _ rfl, hB.c X hX 16 _ rfl⟩
  have HO : Hid (Calls Try.prog 19 #[.pointer (some ⟨ob, 0, none⟩), .int .i64 c.slot] u.drew fun e w' => e = .returned (.tuple #[.int .i64 (q.own.O i : Int), .int .i64 (q.own.E i : Int), .int .i64 0]) ∧ Below u.heap.size u w') := by
    rw [hs]
    refine (OwnerS_yes (HQ.out u.drew (below_drew u)).2 i hi).mono ?_
    rintro e w' ⟨rfl, hb⟩
    exact ⟨rfl, (below_drew u).trans hb⟩
  have k1 : decide (c.group < 1) = false := decide_eq_false hg
  have k2 : decide (c.group > (q.groups : Int)) = false := decide_eq_false hg2
  have k4 : ((q.own.O i : Int) == c.group) = false := by simpa using ht
  have HT : Hid (0 ≤ Me.takenTo q.own.E 16 ∧ Me.takenTo q.own.E 16 ≤ (16 : Nat) * 2147483647) := takenTo_le hq.r.sm.ok 16 (by omega)
  have HPl : Hid (∀ j, j < 7 → (if 0 ≤ j ∧ j < 0 + (plL (Me.planned q c.slot c.group)).length then (plL (Me.planned q c.slot c.group))[j - 0]? else (plL q.pl)[j]?) = (plL (Me.planned q c.slot c.group))[j]?) := fun j hj => by
    rw [if_pos ⟨by omega, by simpa [plL] using hj⟩]
    rfl
  have HTk : Hid (∀ X, Below u.heap.size u X → Calls Try.prog 42 #[.pointer (some ⟨B, 0, none⟩)] X fun e w' => e = .returned (.int .i64 (Me.takenTo q.own.E 16)) ∧ Below u.heap.size u w') := fun X hX => by
    refine (taken_c (Mt.below HH.out hX)).mono ?_
    rintro e w' ⟨rfl, hb⟩
    exact ⟨rfl, hX.trans (hb.mono hX.size)⟩
  have HZ : Hid (∀ X, Below u.heap.size u X → (∀ j, j < 7 → ∃ y, X.cell? ⟨B, 5 + j, none⟩ = some y ∧ X.frozen? ⟨B, 5 + j, none⟩ = false) ∧ AftT who u (X.setCells B (5 + 0) (plL (Me.planned q c.slot c.group))) B { q with pl := Me.planned q c.slot c.group } (n + 1) who) := fun X hX => by
    have hA : AftT who u X B q (n + 1) who := AftT.same (Mt.mono HH.out (Nat.le_succ n)) hX
    refine ⟨fun j hj => ?_, AftT.setPl hA (Me.planned q c.slot c.group) 0 _ (by simp [plL]) HPl.out (by show (Me.e0).size ≤ _; exact Nat.zero_le _)⟩
    have hb := hq.below h0.np hX
    exact ⟨_, (hb.b.plAt j hj).trans (List.getElem?_eq_getElem (by show j < 7; exact hj)), hb.b.fz _⟩
  have hPd : Me.planned q c.slot c.group = ⟨Me.takenTo q.own.E 16 + 1, c.slot, (q.own.O i : Int), c.group, (q.own.E i : Int), false, Me.e0⟩ := by
    unfold Me.planned
    rw [hs, Int.toNat_natCast]
  have HPd : Hid _ := hPd
  rw [hp] at HQ
  clear h0 hq hB hPd hg hg2 hp ht hi hs HPl
  obtain ⟨qp, hqp⟩ : ∃ qp, qp = Me.planned q c.slot c.group := ⟨_, rfl⟩
  rw [← hqp] at HZ HPd ⊢
  clear hqp
  obtain ⟨T, hT⟩ : ∃ T, T = Me.takenTo q.own.E 16 := ⟨_, rfl⟩
  rw [← hT] at HT HTk HPd ⊢
  clear hT
  have hS0 : u.cell? ⟨B, 1, none⟩ = some (.pointer (some ⟨ob, 0, none⟩)) ∧ u.cell? ⟨bc, 14, none⟩ = some (.int .i64 c.slot) := ⟨(HQ.out u (Below.refl _ _)).1.2.1, (HC.out u (KeptQ.refl _ _)).1⟩
  have HS1 : Hid (∀ X, Below u.heap.size u X → X.cell? ⟨B, 1, none⟩ = some (.pointer (some ⟨ob, 0, none⟩)) ∧ X.cell? ⟨bc, 14, none⟩ = some (.int .i64 c.slot)) := fun X hX => ⟨(HQ.out X hX).1.2.1, (HC.out X (KeptQ.ofBelow hX)).1⟩
  have hs0 : u0.heap.size = br := by rw [hu0, hbr]; simp
  go_enter Try.func24, Try.ntmps24
  go_upto_region 1 with fail
  try rw [← hu0]
  try rw [← hu]
  try rw [hs0]
  try rw [← hbr]
  try rw [← hbc]
  clear hu hu0 hbc hbr hs0
  refine wp_region_held_drew (S := fun X => X.cell? ⟨B, 1, none⟩ = some (.pointer (some ⟨ob, 0, none⟩)) ∧ X.cell? ⟨bc, 14, none⟩ = some (.int .i64 c.slot)) (by kernel_rfl) hS0 (fun hHeld => ?_)
  refine takeM (i := 0) (d := 9) (v := .pointer (some ⟨B, 0, none⟩)) rfl rfl (by kernel_rfl) (by kernel_rfl) (by kernel_rfl) (fun _ _ _ h => h) (Or.inl ⟨by rfl, ?_⟩) (by assumption) ?_
  · intro X hSw
    go_simp
  simp only [Act.put, List.setIfInBounds_toArray, List.set_cons_zero, List.set_cons_succ]
  refine takeM (i := 1) (d := 10) (v := .pointer (some ⟨B, 0, none⟩)) rfl rfl (by kernel_rfl) (by kernel_rfl) (by kernel_rfl) (fun _ _ _ h => h) (Or.inl ⟨by rfl, ?_⟩) (by assumption) ?_
  · intro X hSw
    go_simp
  simp only [Act.put, List.setIfInBounds_toArray, List.set_cons_zero, List.set_cons_succ]
  refine takeM (i := 2) (d := 11) (v := .pointer (some ⟨B, 1, none⟩)) rfl rfl (by kernel_rfl) (by kernel_rfl) (by kernel_rfl) (fun _ _ _ h => h) (Or.inl ⟨by rfl, ?_⟩) (by assumption) ?_
  · intro X hSw
    go_simp
  simp only [Act.put, List.setIfInBounds_toArray, List.set_cons_zero, List.set_cons_succ]
  refine takeM (i := 3) (d := 12) (v := .pointer (some ⟨ob, 0, none⟩)) rfl rfl (by kernel_rfl) (by kernel_rfl) (by kernel_rfl) (fun _ _ _ h => h) (Or.inl ⟨by rfl, ?_⟩) (by assumption) ?_
  · intro X hSw
    go_simp
  simp only [Act.put, List.setIfInBounds_toArray, List.set_cons_zero, List.set_cons_succ]
  refine takeM (i := 4) (d := 13) (v := .pointer (some ⟨bc, 14, none⟩)) rfl rfl (by kernel_rfl) (by kernel_rfl) (by kernel_rfl) (fun _ _ _ h => h) (Or.inl ⟨by rfl, ?_⟩) (by assumption) ?_
  · intro X hSw
    go_simp
  simp only [Act.put, List.setIfInBounds_toArray, List.set_cons_zero, List.set_cons_succ]
  refine takeM (i := 5) (d := 14) (v := .int .i64 c.slot) rfl rfl (by kernel_rfl) (by kernel_rfl) (by kernel_rfl) (fun _ _ _ h => h) (Or.inl ⟨by rfl, ?_⟩) (by assumption) ?_
  · intro X hSw
    go_simp
  simp only [Act.put, List.setIfInBounds_toArray, List.set_cons_zero, List.set_cons_succ]
  refine wpAnyH_ready (rs := [6]) (by kernel_rfl) (by simp) ?_
  refine AllReadyH.cons rfl (fun K hK => ?_) AllReadyH.nil
  go_simp
  go_wp2_with fail
  refine Calls.mono HO.out ?_
  rintro e w1 ⟨rfl, hb1⟩
  have HB1 : Hid (Below u.heap.size u w1) := hb1
  clear hb1
  go_wp2
  refine hK.out _ _ (HS1.out _ HB1.out) (fun hHeld2 => ?_)
  clear hK K hHeld hS0
  refine takeM (i := 7) (d := 8) (v := .tuple #[.int .i64 (q.own.O i : Int), .int .i64 (q.own.E i : Int), .int .i64 0]) rfl rfl (by kernel_rfl) (by kernel_rfl) (by kernel_rfl) (fun _ _ _ h => h) (Or.inl ⟨by rfl, ?_⟩) (by assumption) ?_
  · intro X hSw
    go_simp
  simp only [Act.put, List.setIfInBounds_toArray, List.set_cons_zero, List.set_cons_succ]
  refine takeM (i := 8) (d := 16) (v := .int .i64 (q.own.O i : Int)) rfl rfl (by kernel_rfl) (by kernel_rfl) (by kernel_rfl) (fun _ _ _ h => h) (Or.inl ⟨by rfl, ?_⟩) (by assumption) ?_
  · intro X hSw
    go_simp
  simp only [Act.put, List.setIfInBounds_toArray, List.set_cons_zero, List.set_cons_succ]
  refine takeM (i := 9) (d := 17) (v := .int .i64 (q.own.E i : Int)) rfl rfl (by kernel_rfl) (by kernel_rfl) (by kernel_rfl) (fun _ _ _ h => h) (Or.inl ⟨by rfl, ?_⟩) (by assumption) ?_
  · intro X hSw
    go_simp
  simp only [Act.put, List.setIfInBounds_toArray, List.set_cons_zero, List.set_cons_succ]
  refine takeM (i := 10) (d := 18) (v := .int .i64 0) rfl rfl (by kernel_rfl) (by kernel_rfl) (by kernel_rfl) (fun _ _ _ h => h) (Or.inl ⟨by rfl, ?_⟩) (by assumption) ?_
  · intro X hSw
    go_simp
  simp only [Act.put, List.setIfInBounds_toArray, List.set_cons_zero, List.set_cons_succ]
  refine takeM (i := 11) (d := 5) (v := .int .i64 (q.own.O i : Int)) rfl rfl (by kernel_rfl) (by kernel_rfl) (by kernel_rfl) (fun _ _ _ h => h) (Or.inl ⟨by rfl, ?_⟩) (by assumption) ?_
  · intro X hSw
    go_simp
  simp only [Act.put, List.setIfInBounds_toArray, List.set_cons_zero, List.set_cons_succ]
  refine takeM (i := 12) (d := 6) (v := .int .i64 (q.own.E i : Int)) rfl rfl (by kernel_rfl) (by kernel_rfl) (by kernel_rfl) (fun _ _ _ h => h) (Or.inl ⟨by rfl, ?_⟩) (by assumption) ?_
  · intro X hSw
    go_simp
  simp only [Act.put, List.setIfInBounds_toArray, List.set_cons_zero, List.set_cons_succ]
  refine takeM (i := 13) (d := 7) (v := .int .i64 0) rfl rfl (by kernel_rfl) (by kernel_rfl) (by kernel_rfl) (fun _ _ _ h => h) (Or.inl ⟨by rfl, ?_⟩) (by assumption) ?_
  · intro X hSw
    go_simp
  simp only [Act.put, List.setIfInBounds_toArray, List.set_cons_zero, List.set_cons_succ]
  refine wpAnyH_done (by kernel_rfl) ?_ _
  clear hHeld2
  obtain ⟨⟨y0, y1, y5⟩, _⟩ := HQ.out w1 HB1.out
  obtain ⟨z14, z16⟩ := HC.out w1 (KeptQ.ofBelow HB1.out)
  go_upto_region 2 with fail
  go_simp
  go_region
  go_upto_region 8 with fail
  go_simp
  clear y0 y1 y5 z14 z16
  have HB1d : Hid (Below u.heap.size u w1.drew) := HB1.out.drew
  clear HB1 HO HQ HS1
  have HSc : Hid (∀ X, Below u.heap.size u X → X.cell? ⟨bc, 14, none⟩ = some (.int .i64 c.slot) ∧ X.cell? ⟨bc, 16, none⟩ = some (.int .i64 c.group)) := fun X hX => HC.out X (KeptQ.ofBelow hX)
  have hS0 := HSc.out _ HB1d.out.drew
  have HTw : Hid _ := HTk.out _ HB1d.out.drew
  have hTv : IntKind.i64.wrap (T + 1) = T + 1 := by have := HT.out; rw [IntKind.wrap_i64]; omega
  refine wp_region_held_drew (S := fun X => X.cell? ⟨bc, 14, none⟩ = some (.int .i64 c.slot) ∧ X.cell? ⟨bc, 16, none⟩ = some (.int .i64 c.group)) (by kernel_rfl) hS0 (fun hHeld => ?_)
  refine takeM (i := 0) (d := 51) (v := .pointer (some ⟨B, 0, none⟩)) rfl rfl (by kernel_rfl) (by kernel_rfl) (by kernel_rfl) (fun _ _ _ h => h) (Or.inl ⟨by rfl, ?_⟩) (by assumption) ?_
  · intro X hSw
    go_simp
  simp only [Act.put, List.setIfInBounds_toArray, List.set_cons_zero, List.set_cons_succ]
  refine takeM (i := 1) (d := 52) (v := .pointer (some ⟨B, 0, none⟩)) rfl rfl (by kernel_rfl) (by kernel_rfl) (by kernel_rfl) (fun _ _ _ h => h) (Or.inl ⟨by rfl, ?_⟩) (by assumption) ?_
  · intro X hSw
    go_simp
  simp only [Act.put, List.setIfInBounds_toArray, List.set_cons_zero, List.set_cons_succ]
  refine takeM (i := 4) (d := 55) (v := .pointer (some ⟨bc, 14, none⟩)) rfl rfl (by kernel_rfl) (by kernel_rfl) (by kernel_rfl) (fun _ _ _ h => h) (Or.inl ⟨by rfl, ?_⟩) (by assumption) ?_
  · intro X hSw
    go_simp
  simp only [Act.put, List.setIfInBounds_toArray, List.set_cons_zero, List.set_cons_succ]
  refine takeM (i := 5) (d := 56) (v := .int .i64 c.slot) rfl rfl (by kernel_rfl) (by kernel_rfl) (by kernel_rfl) (fun _ _ _ h => h) (Or.inl ⟨by rfl, ?_⟩) (by assumption) ?_
  · intro X hSw
    go_simp
  simp only [Act.put, List.setIfInBounds_toArray, List.set_cons_zero, List.set_cons_succ]
  refine takeM (i := 6) (d := 57) (v := .int .i64 (q.own.O i : Int)) rfl rfl (by kernel_rfl) (by kernel_rfl) (by kernel_rfl) (fun _ _ _ h => h) (Or.inl ⟨by rfl, ?_⟩) (by assumption) ?_
  · intro X hSw
    go_simp
  simp only [Act.put, List.setIfInBounds_toArray, List.set_cons_zero, List.set_cons_succ]
  refine takeM (i := 7) (d := 58) (v := .pointer (some ⟨bc, 16, none⟩)) rfl rfl (by kernel_rfl) (by kernel_rfl) (by kernel_rfl) (fun _ _ _ h => h) (Or.inl ⟨by rfl, ?_⟩) (by assumption) ?_
  · intro X hSw
    go_simp
  simp only [Act.put, List.setIfInBounds_toArray, List.set_cons_zero, List.set_cons_succ]
  refine takeM (i := 8) (d := 59) (v := .int .i64 c.group) rfl rfl (by kernel_rfl) (by kernel_rfl) (by kernel_rfl) (fun _ _ _ h => h) (Or.inl ⟨by rfl, ?_⟩) (by assumption) ?_
  · intro X hSw
    go_simp
  simp only [Act.put, List.setIfInBounds_toArray, List.set_cons_zero, List.set_cons_succ]
  refine takeM (i := 9) (d := 60) (v := .int .i64 (q.own.E i : Int)) rfl rfl (by kernel_rfl) (by kernel_rfl) (by kernel_rfl) (fun _ _ _ h => h) (Or.inl ⟨by rfl, ?_⟩) (by assumption) ?_
  · intro X hSw
    go_simp
  simp only [Act.put, List.setIfInBounds_toArray, List.set_cons_zero, List.set_cons_succ]
  refine wpAnyH_ready (rs := [2]) (by kernel_rfl) (by simp) ?_
  refine AllReadyH.cons rfl (fun K hK => ?_) AllReadyH.nil
  go_simp
  go_wp2_with fail
  refine Calls.mono HTw.out ?_
  rintro e w3 ⟨rfl, hb3⟩
  have HB3 : Hid (Below u.heap.size u w3) := hb3
  clear hb3
  go_wp2
  refine hK.out _ _ (HSc.out _ HB3.out) (fun hHeld2 => ?_)
  clear hK K hHeld hS0
  refine takeM (i := 3) (d := 54) (v := .int .i64 (T + 1)) rfl rfl (by kernel_rfl) (by kernel_rfl) (by kernel_rfl) (fun _ _ _ h => h) (Or.inl ⟨by rfl, ?_⟩) (by assumption) ?_
  · intro X hSw
    go_simp
  simp only [Act.put, List.setIfInBounds_toArray, List.set_cons_zero, List.set_cons_succ]
  refine takeM (i := 10) (d := 61) (v := .agg #[.int .i64 (T + 1), .int .i64 c.slot, .int .i64 (q.own.O i : Int), .int .i64 c.group, .int .i64 (q.own.E i : Int), .bool false, .string ⟨#[]⟩]) rfl rfl (by kernel_rfl) (by kernel_rfl) (by kernel_rfl) (fun _ _ _ h => h) (Or.inl ⟨by rfl, ?_⟩) (by assumption) ?_
  · intro X hSw
    go_simp
  simp only [Act.put, List.setIfInBounds_toArray, List.set_cons_zero, List.set_cons_succ]
  refine takeM (i := 11) (d := 62) (v := .pointer (some ⟨B, 0, none⟩)) rfl rfl (by kernel_rfl) (by kernel_rfl) (by kernel_rfl) (fun _ _ _ h => h) (Or.inl ⟨by rfl, ?_⟩) (by assumption) ?_
  · intro X hSw
    go_simp
  simp only [Act.put, List.setIfInBounds_toArray, List.set_cons_zero, List.set_cons_succ]
  refine takeM (i := 12) (d := 63) (v := .pointer (some ⟨B, 5, none⟩)) rfl rfl (by kernel_rfl) (by kernel_rfl) (by kernel_rfl) (fun _ _ _ h => h) (Or.inl ⟨by rfl, ?_⟩) (by assumption) ?_
  · intro X hSw
    go_simp
  simp only [Act.put, List.setIfInBounds_toArray, List.set_cons_zero, List.set_cons_succ]
  obtain ⟨hcz, hz2⟩ := HZ.out w3 HB3.out
  rw [HPd.out] at hz2
  obtain ⟨Z, hZ⟩ : ∃ Z, Z = w3.setCells B (5 + 0) (plL ⟨T + 1, c.slot, (q.own.O i : Int), c.group, (q.own.E i : Int), false, Me.e0⟩) := ⟨_, rfl⟩
  rw [← hZ] at hz2
  have HX : Hid (AftT who u Z B { q with pl := ⟨T + 1, c.slot, (q.own.O i : Int), c.group, (q.own.E i : Int), false, Me.e0⟩ } (n + 1) who) := hz2
  have hZe : Z = ((((((w3.setCell ⟨B, 5, none⟩ (.int .i64 (T + 1))).setCell ⟨B, 6, none⟩ (.int .i64 c.slot)).setCell ⟨B, 7, none⟩ (.int .i64 (q.own.O i : Int))).setCell ⟨B, 8, none⟩ (.int .i64 c.group)).setCell ⟨B, 9, none⟩ (.int .i64 (q.own.E i : Int))).setCell ⟨B, 10, none⟩ (.bool false)).setCell ⟨B, 11, none⟩ (.string ⟨#[]⟩) := hZ
  clear hz2 hZ
  obtain ⟨p0, y50, f50⟩ := hcz 0 (by omega)
  obtain ⟨p1, y51, f51⟩ := hcz 1 (by omega)
  obtain ⟨p2, y52, f52⟩ := hcz 2 (by omega)
  obtain ⟨p3, y53, f53⟩ := hcz 3 (by omega)
  obtain ⟨p4, y54, f54⟩ := hcz 4 (by omega)
  obtain ⟨p5, y55, f55⟩ := hcz 5 (by omega)
  obtain ⟨p6, y56, f56⟩ := hcz 6 (by omega)
  clear hcz
  refine wpAnyH_ready (rs := [13]) (by kernel_rfl) (by simp) ?_
  refine AllReadyH.cons rfl (fun K hK => ?_) AllReadyH.nil
  go_simp
  rw [← hZe]
  refine hK.out _ _ (HC.out _ HX.out.2.2) (fun hHeld3 => ?_)
  clear hK K hHeld2 y50 y51 y52 y53 y54 y55 y56 f50 f51 f52 f53 f54 f55 f56 hZe
  refine wpAnyH_done (by kernel_rfl) ?_ _
  clear hHeld3
  have y5 : Z.cell? ⟨B, 5, none⟩ = some (.int .i64 (T + 1)) := by
    obtain ⟨⟨_, ob, tb, tm, wv, vb, eb, hq⟩, _⟩ := HX.out
    exact hq.b.c5
  obtain ⟨⟨r0, r1, r2⟩, g0, g1, g2⟩ := HBc.out.r Z HX.out.2.2
  obtain ⟨F, hF⟩ : ∃ F, F = putS Z br [.int .i64 0, .int .i64 (T + 1), .slice none 0 0] := ⟨_, rfl⟩
  have hx3 := HBc.out.told HX.out.2.2 (.int .i64 0) (.int .i64 (T + 1)) (.slice none 0 0)
  rw [← hF] at hx3
  obtain ⟨x0, x1, x2⟩ := hx3
  have HR : Hid (AftT who w (putS Z br _) B _ _ _) := AftT.fin HX.out HBc.out [.int .i64 0, .int .i64 (T + 1), .slice none 0 0]
  rw [← hF, ← HPd.out] at HR
  have hFe : F = ((Z.setCell ⟨br, 0, none⟩ (.int .i64 0)).setCell ⟨br, 1, none⟩ (.int .i64 (T + 1))).setCell ⟨br, 2, none⟩ (.slice none 0 0) := hF
  have HFe : Hid _ := hFe
  clear hF hFe
  go_wp2
  rw [← HFe.out]
  refine bodyPost_ret (v := .agg #[.int .i64 0, .int .i64 (T + 1), .slice none 0 0]) ?qres rfl ?qpost
  case qres => simp [results, Try.results24, go_sem, x0, x1, x2]
  case qpost => exact ⟨_, rfl, HR.out⟩

end
end Go.Proofs.Ytepbmfjimppgcaa
