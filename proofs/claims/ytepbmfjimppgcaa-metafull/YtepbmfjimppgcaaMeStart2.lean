/-
  The meta group's plans: start.
-/
import Derived.Test.YtepbmfjimppgcaaMeStart
import Derived.Deep.RegionHeld3
namespace Go.Proofs.Ytepbmfjimppgcaa
open Go.RowKit

section
variable {w : World} {B n : Nat} {q : Me.St} {who : Nat → Nat}

set_option maxHeartbeats 800000 in
set_option maxRecDepth 20000 in
theorem start_out (h : Mt w B q who n) (c : Me.Cd) (hs : isSlot c.slot = false) : Calls Try.prog 24 #[.pointer (some ⟨B, 0, none⟩), cmdV c] w (AnsT who w B q (n + 1) 1 0) := by
  unfold cmdV
  obtain ⟨u0, hu0⟩ : ∃ u0, u0 = w.alloc (.cells (cmdL c).toArray 39) := ⟨_, rfl⟩
  obtain ⟨u, hu⟩ : ∃ u, u = u0.alloc (.cells #[.int .i64 0, .int .i64 0, .slice none 0 0] 32) := ⟨_, rfl⟩
  obtain ⟨bc, hbc⟩ : ∃ bc, bc = w.heap.size := ⟨_, rfl⟩
  obtain ⟨br, hbr⟩ : ∃ br, br = w.heap.size + 1 := ⟨_, rfl⟩
  have hB : Bc w u bc br who (cmdL c) := by rw [hbc, hbr]; exact Bc.of h.here _ hu0 hu
  have HBc : Hid _ := hB
  have hh : Mt u B q who n := h.below hB.old
  obtain ⟨h0, ob, tb, tm, wv, vb, eb, hq⟩ := hh
  have HH : Hid (Mt u B q who n) := ⟨h0, ob, tb, tm, wv, vb, eb, hq⟩
  have HQ : Hid (∀ X, Below u.heap.size u X → (X.cell? ⟨B, 0, none⟩ = some (.int .i64 (q.groups : Int)) ∧ X.cell? ⟨B, 1, none⟩ = some (.pointer (some ⟨ob, 0, none⟩)) ∧ X.cell? ⟨B, 5, none⟩ = some (.int .i64 q.pl.plan)) ∧ Sm X ob q.own) := fun X hX => by
    have hb := hq.below h0.np hX
    exact ⟨⟨hb.b.c0, hb.b.c1, hb.b.c5⟩, hb.r.sm⟩
  have HC : Hid (∀ X, KeptQ who u X → X.cell? ⟨bc, 14, none⟩ = some (.int .i64 c.slot) ∧ X.cell? ⟨bc, 16, none⟩ = some (.int .i64 c.group)) := fun X hX => ⟨hB.c X hX 14 _ rfl, hB.c X hX 16 _ rfl⟩
  have HO : Hid (Calls Try.prog 19 #[.pointer (some ⟨ob, 0, none⟩), .int .i64 c.slot] u.drew fun e w' => e = .returned (.tuple #[.int .i64 0, .int .i64 0, .int .i64 1]) ∧ Below u.heap.size u w') := by
    refine (OwnerS_out (HQ.out u.drew (below_drew u)).2 c.slot hs).mono ?_
    rintro e w' ⟨rfl, rfl⟩
    exact ⟨rfl, below_drew u⟩
  clear h0 hq hB hs
  obtain ⟨⟨y0, y1, y5⟩, _⟩ := HQ.out u (Below.refl _ _)
  obtain ⟨z14, z16⟩ := HC.out u (KeptQ.refl _ _)
  have hs0 : u0.heap.size = br := by rw [hu0, hbr]; simp
  go_enter Try.func24, Try.ntmps24
  go_upto_region 1 with fail
  try rw [← hu0]
  try rw [← hu]
  try rw [hs0]
  try rw [← hbr]
  try rw [← hbc]
  clear hu hu0 hbc hbr hs0
  go_region_with (go_at_call 19; refine Calls.mono HO.out ?_; rintro e w1 ⟨rfl, hb1⟩; have HB1 : Hid (Below u.heap.size u w1) := hb1; clear hb1)
  all_goals
    have HX : Hid (AftT who u w1 B q (n + 1) who) := AftT.same (Mt.mono HH.out (Nat.le_succ n)) HB1.out
    clear y0 y1 y5 z14 z16
    obtain ⟨⟨y0, y1, y5⟩, _⟩ := HQ.out w1 HB1.out
    obtain ⟨z14, z16⟩ := HC.out w1 (KeptQ.ofBelow HB1.out)
    go_upto_region 2 with fail
    go_simp
    go_region
    go_upto_region 3 with fail
    clear y0 y1 y5 z14 z16
    have HXd : Hid (AftT who u w1.drew B q (n + 1) who) := AftT.on HX.out (below_drew w1)
    go_wp2_with fail
    refine Calls.mono (answerQ_c 1 _) ?_
    rintro e wA ⟨rfl, hbA⟩
    have HA : Hid (AftT who u wA B _ _ _) := AftT.on HXd.out hbA
    clear hbA
    obtain ⟨⟨r0, r1, r2⟩, g0, g1, g2⟩ := HBc.out.r wA HA.out.2.2
    obtain ⟨F, hF⟩ : ∃ F, F = putS wA br [.int .i64 1, .int .i64 0, .slice none 0 0] := ⟨_, rfl⟩
    have hx3 := HBc.out.told HA.out.2.2 (.int .i64 1) (.int .i64 0) (.slice none 0 0)
    rw [← hF] at hx3
    obtain ⟨x0, x1, x2⟩ := hx3
    have HR : Hid (AftT who w (putS wA br _) B _ _ _) := AftT.fin HA.out HBc.out [.int .i64 1, .int .i64 0, .slice none 0 0]
    rw [← hF] at HR
    have hFe : F = ((wA.setCell ⟨br, 0, none⟩ (.int .i64 1)).setCell ⟨br, 1, none⟩ (.int .i64 0)).setCell ⟨br, 2, none⟩ (.slice none 0 0) := hF
    have HFe : Hid _ := hFe
    clear hF hFe
    go_wp2
    rw [← HFe.out]
    refine bodyPost_ret (v := .agg #[.int .i64 1, .int .i64 0, .slice none 0 0]) ?qres rfl ?qpost
    case qres => simp [results, Try.results24, go_sem, x0, x1, x2]
    case qpost => exact ⟨_, rfl, HR.out⟩

set_option maxHeartbeats 800000 in
set_option maxRecDepth 20000 in
theorem start_low (h : Mt w B q who n) (c : Me.Cd) (i : Nat) (hi : i < 16) (hs : c.slot = (i : Int)) (hg : c.group < 1) : Calls Try.prog 24 #[.pointer (some ⟨B, 0, none⟩), cmdV c] w (AnsT who w B q (n + 1) 1 0) := by
  unfold cmdV
  obtain ⟨u0, hu0⟩ : ∃ u0, u0 = w.alloc (.cells (cmdL c).toArray 39) := ⟨_, rfl⟩
  obtain ⟨u, hu⟩ : ∃ u, u = u0.alloc (.cells #[.int .i64 0, .int .i64 0, .slice none 0 0] 32) := ⟨_, rfl⟩
  obtain ⟨bc, hbc⟩ : ∃ bc, bc = w.heap.size := ⟨_, rfl⟩
  obtain ⟨br, hbr⟩ : ∃ br, br = w.heap.size + 1 := ⟨_, rfl⟩
  have hB : Bc w u bc br who (cmdL c) := by rw [hbc, hbr]; exact Bc.of h.here _ hu0 hu
  have HBc : Hid _ := hB
  have hh : Mt u B q who n := h.below hB.old
  obtain ⟨h0, ob, tb, tm, wv, vb, eb, hq⟩ := hh
  have HH : Hid (Mt u B q who n) := ⟨h0, ob, tb, tm, wv, vb, eb, hq⟩
  have HQ : Hid (∀ X, Below u.heap.size u X → (X.cell? ⟨B, 0, none⟩ = some (.int .i64 (q.groups : Int)) ∧ X.cell? ⟨B, 1, none⟩ = some (.pointer (some ⟨ob, 0, none⟩)) ∧ X.cell? ⟨B, 5, none⟩ = some (.int .i64 q.pl.plan)) ∧ Sm X ob q.own) := fun X hX => by
    have hb := hq.below h0.np hX
    exact ⟨⟨hb.b.c0, hb.b.c1, hb.b.c5⟩, hb.r.sm⟩
  have HC : Hid (∀ X, KeptQ who u X → X.cell? ⟨bc, 14, none⟩ = some (.int .i64 c.slot) ∧ X.cell? ⟨bc, 16, none⟩ = some (.int .i64 c.group)) := fun X hX => ⟨hB.c X hX 14 _ rfl, hB.c X hX 16 _ rfl⟩
  have HO : Hid (Calls Try.prog 19 #[.pointer (some ⟨ob, 0, none⟩), .int .i64 c.slot] u.drew fun e w' => e = .returned (.tuple #[.int .i64 (q.own.O i : Int), .int .i64 (q.own.E i : Int), .int .i64 0]) ∧ Below u.heap.size u w') := by
    rw [hs]
    refine (OwnerS_yes (HQ.out u.drew (below_drew u)).2 i hi).mono ?_
    rintro e w' ⟨rfl, hb⟩
    exact ⟨rfl, (below_drew u).trans hb⟩
  have k1 : decide (c.group < 1) = true := decide_eq_true hg
  clear h0 hq hB hs hi hg
  obtain ⟨⟨y0, y1, y5⟩, _⟩ := HQ.out u (Below.refl _ _)
  obtain ⟨z14, z16⟩ := HC.out u (KeptQ.refl _ _)
  have hs0 : u0.heap.size = br := by rw [hu0, hbr]; simp
  go_enter Try.func24, Try.ntmps24
  go_upto_region 1 with fail
  try rw [← hu0]
  try rw [← hu]
  try rw [hs0]
  try rw [← hbr]
  try rw [← hbc]
  clear hu hu0 hbc hbr hs0
  go_region_with (go_at_call 19; refine Calls.mono HO.out ?_; rintro e w1 ⟨rfl, hb1⟩; have HB1 : Hid (Below u.heap.size u w1) := hb1; clear hb1)
  all_goals
    have HX : Hid (AftT who u w1 B q (n + 1) who) := AftT.same (Mt.mono HH.out (Nat.le_succ n)) HB1.out
    clear y0 y1 y5 z14 z16
    obtain ⟨⟨y0, y1, y5⟩, _⟩ := HQ.out w1 HB1.out
    obtain ⟨z14, z16⟩ := HC.out w1 (KeptQ.ofBelow HB1.out)
    go_upto_region 2 with fail
    go_simp
    go_region
    go_upto_region 3 with fail
    clear y0 y1 y5 z14 z16
    have HXd : Hid (AftT who u w1.drew B q (n + 1) who) := AftT.on HX.out (below_drew w1)
    go_wp2_with fail
    refine Calls.mono (answerQ_c 1 _) ?_
    rintro e wA ⟨rfl, hbA⟩
    have HA : Hid (AftT who u wA B _ _ _) := AftT.on HXd.out hbA
    clear hbA
    obtain ⟨⟨r0, r1, r2⟩, g0, g1, g2⟩ := HBc.out.r wA HA.out.2.2
    obtain ⟨F, hF⟩ : ∃ F, F = putS wA br [.int .i64 1, .int .i64 0, .slice none 0 0] := ⟨_, rfl⟩
    have hx3 := HBc.out.told HA.out.2.2 (.int .i64 1) (.int .i64 0) (.slice none 0 0)
    rw [← hF] at hx3
    obtain ⟨x0, x1, x2⟩ := hx3
    have HR : Hid (AftT who w (putS wA br _) B _ _ _) := AftT.fin HA.out HBc.out [.int .i64 1, .int .i64 0, .slice none 0 0]
    rw [← hF] at HR
    have hFe : F = ((wA.setCell ⟨br, 0, none⟩ (.int .i64 1)).setCell ⟨br, 1, none⟩ (.int .i64 0)).setCell ⟨br, 2, none⟩ (.slice none 0 0) := hF
    have HFe : Hid _ := hFe
    clear hF hFe
    go_wp2
    rw [← HFe.out]
    refine bodyPost_ret (v := .agg #[.int .i64 1, .int .i64 0, .slice none 0 0]) ?qres rfl ?qpost
    case qres => simp [results, Try.results24, go_sem, x0, x1, x2]
    case qpost => exact ⟨_, rfl, HR.out⟩

set_option maxHeartbeats 800000 in
set_option maxRecDepth 20000 in
theorem start_high (h : Mt w B q who n) (c : Me.Cd) (i : Nat) (hi : i < 16) (hs : c.slot = (i : Int)) (hg : ¬ c.group < 1) (hg2 : c.group > (q.groups : Int)) : Calls Try.prog 24 #[.pointer (some ⟨B, 0, none⟩), cmdV c] w (AnsT who w B q (n + 1) 1 0) := by
  unfold cmdV
  obtain ⟨u0, hu0⟩ : ∃ u0, u0 = w.alloc (.cells (cmdL c).toArray 39) := ⟨_, rfl⟩
  obtain ⟨u, hu⟩ : ∃ u, u = u0.alloc (.cells #[.int .i64 0, .int .i64 0, .slice none 0 0] 32) := ⟨_, rfl⟩
  obtain ⟨bc, hbc⟩ : ∃ bc, bc = w.heap.size := ⟨_, rfl⟩
  obtain ⟨br, hbr⟩ : ∃ br, br = w.heap.size + 1 := ⟨_, rfl⟩
  have hB : Bc w u bc br who (cmdL c) := by rw [hbc, hbr]; exact Bc.of h.here _ hu0 hu
  have HBc : Hid _ := hB
  have hh : Mt u B q who n := h.below hB.old
  obtain ⟨h0, ob, tb, tm, wv, vb, eb, hq⟩ := hh
  have HH : Hid (Mt u B q who n) := ⟨h0, ob, tb, tm, wv, vb, eb, hq⟩
  have HQ : Hid (∀ X, Below u.heap.size u X → (X.cell? ⟨B, 0, none⟩ = some (.int .i64 (q.groups : Int)) ∧ X.cell? ⟨B, 1, none⟩ = some (.pointer (some ⟨ob, 0, none⟩)) ∧ X.cell? ⟨B, 5, none⟩ = some (.int .i64 q.pl.plan)) ∧ Sm X ob q.own) := fun X hX => by
    have hb := hq.below h0.np hX
    exact ⟨⟨hb.b.c0, hb.b.c1, hb.b.c5⟩, hb.r.sm⟩
  have HC : Hid (∀ X, KeptQ who u X → X.cell? ⟨bc, 14, none⟩ = some (.int .i64 c.slot) ∧ X.cell? ⟨bc, 16, none⟩ = some (.int .i64 c.group)) := fun X hX => ⟨hB.c X hX 14 _ rfl, hB.c X hX 16 _ rfl⟩
  have HO : Hid (Calls Try.prog 19 #[.pointer (some ⟨ob, 0, none⟩), .int .i64 c.slot] u.drew fun e w' => e = .returned (.tuple #[.int .i64 (q.own.O i : Int), .int .i64 (q.own.E i : Int), .int .i64 0]) ∧ Below u.heap.size u w') := by
    rw [hs]
    refine (OwnerS_yes (HQ.out u.drew (below_drew u)).2 i hi).mono ?_
    rintro e w' ⟨rfl, hb⟩
    exact ⟨rfl, (below_drew u).trans hb⟩
  have k1 : decide (c.group < 1) = false := decide_eq_false hg
  have k2 : decide (c.group > (q.groups : Int)) = true := decide_eq_true hg2
  clear h0 hq hB hs hi hg hg2
  obtain ⟨⟨y0, y1, y5⟩, _⟩ := HQ.out u (Below.refl _ _)
  obtain ⟨z14, z16⟩ := HC.out u (KeptQ.refl _ _)
  have hs0 : u0.heap.size = br := by rw [hu0, hbr]; simp
  go_enter Try.func24, Try.ntmps24
  go_upto_region 1 with fail
  try rw [← hu0]
  try rw [← hu]
  try rw [hs0]
  try rw [← hbr]
  try rw [← hbc]
  clear hu hu0 hbc hbr hs0
  go_region_with (go_at_call 19; refine Calls.mono HO.out ?_; rintro e w1 ⟨rfl, hb1⟩; have HB1 : Hid (Below u.heap.size u w1) := hb1; clear hb1)
  all_goals
    have HX : Hid (AftT who u w1 B q (n + 1) who) := AftT.same (Mt.mono HH.out (Nat.le_succ n)) HB1.out
    clear y0 y1 y5 z14 z16
    obtain ⟨⟨y0, y1, y5⟩, _⟩ := HQ.out w1 HB1.out
    obtain ⟨z14, z16⟩ := HC.out w1 (KeptQ.ofBelow HB1.out)
    go_upto_region 2 with fail
    go_simp
    go_region
    go_upto_region 3 with fail
    clear y0 y1 y5 z14 z16
    have HXd : Hid (AftT who u w1.drew B q (n + 1) who) := AftT.on HX.out (below_drew w1)
    go_wp2_with fail
    refine Calls.mono (answerQ_c 1 _) ?_
    rintro e wA ⟨rfl, hbA⟩
    have HA : Hid (AftT who u wA B _ _ _) := AftT.on HXd.out hbA
    clear hbA
    obtain ⟨⟨r0, r1, r2⟩, g0, g1, g2⟩ := HBc.out.r wA HA.out.2.2
    obtain ⟨F, hF⟩ : ∃ F, F = putS wA br [.int .i64 1, .int .i64 0, .slice none 0 0] := ⟨_, rfl⟩
    have hx3 := HBc.out.told HA.out.2.2 (.int .i64 1) (.int .i64 0) (.slice none 0 0)
    rw [← hF] at hx3
    obtain ⟨x0, x1, x2⟩ := hx3
    have HR : Hid (AftT who w (putS wA br _) B _ _ _) := AftT.fin HA.out HBc.out [.int .i64 1, .int .i64 0, .slice none 0 0]
    rw [← hF] at HR
    have hFe : F = ((wA.setCell ⟨br, 0, none⟩ (.int .i64 1)).setCell ⟨br, 1, none⟩ (.int .i64 0)).setCell ⟨br, 2, none⟩ (.slice none 0 0) := hF
    have HFe : Hid _ := hFe
    clear hF hFe
    go_wp2
    rw [← HFe.out]
    refine bodyPost_ret (v := .agg #[.int .i64 1, .int .i64 0, .slice none 0 0]) ?qres rfl ?qpost
    case qres => simp [results, Try.results24, go_sem, x0, x1, x2]
    case qpost => exact ⟨_, rfl, HR.out⟩

set_option maxHeartbeats 800000 in
set_option maxRecDepth 20000 in
theorem start_busy (h : Mt w B q who n) (c : Me.Cd) (i : Nat) (hi : i < 16) (hs : c.slot = (i : Int)) (hg : ¬ c.group < 1) (hg2 : ¬ c.group > (q.groups : Int)) (hp : q.pl.plan ≠ 0) : Calls Try.prog 24 #[.pointer (some ⟨B, 0, none⟩), cmdV c] w (AnsT who w B q (n + 1) 120 0) := by
  unfold cmdV
  obtain ⟨u0, hu0⟩ : ∃ u0, u0 = w.alloc (.cells (cmdL c).toArray 39) := ⟨_, rfl⟩
  obtain ⟨u, hu⟩ : ∃ u, u = u0.alloc (.cells #[.int .i64 0, .int .i64 0, .slice none 0 0] 32) := ⟨_, rfl⟩
  obtain ⟨bc, hbc⟩ : ∃ bc, bc = w.heap.size := ⟨_, rfl⟩
  obtain ⟨br, hbr⟩ : ∃ br, br = w.heap.size + 1 := ⟨_, rfl⟩
  have hB : Bc w u bc br who (cmdL c) := by rw [hbc, hbr]; exact Bc.of h.here _ hu0 hu
  have HBc : Hid _ := hB
  have hh : Mt u B q who n := h.below hB.old
  obtain ⟨h0, ob, tb, tm, wv, vb, eb, hq⟩ := hh
  have HH : Hid (Mt u B q who n) := ⟨h0, ob, tb, tm, wv, vb, eb, hq⟩
  have HQ : Hid (∀ X, Below u.heap.size u X → (X.cell? ⟨B, 0, none⟩ = some (.int .i64 (q.groups : Int)) ∧ X.cell? ⟨B, 1, none⟩ = some (.pointer (some ⟨ob, 0, none⟩)) ∧ X.cell? ⟨B, 5, none⟩ = some (.int .i64 q.pl.plan)) ∧ Sm X ob q.own) := fun X hX => by
    have hb := hq.below h0.np hX
    exact ⟨⟨hb.b.c0, hb.b.c1, hb.b.c5⟩, hb.r.sm⟩
  have HC : Hid (∀ X, KeptQ who u X → X.cell? ⟨bc, 14, none⟩ = some (.int .i64 c.slot) ∧ X.cell? ⟨bc, 16, none⟩ = some (.int .i64 c.group)) := fun X hX => ⟨hB.c X hX 14 _ rfl, hB.c X hX 16 _ rfl⟩
  have HO : Hid (Calls Try.prog 19 #[.pointer (some ⟨ob, 0, none⟩), .int .i64 c.slot] u.drew fun e w' => e = .returned (.tuple #[.int .i64 (q.own.O i : Int), .int .i64 (q.own.E i : Int), .int .i64 0]) ∧ Below u.heap.size u w') := by
    rw [hs]
    refine (OwnerS_yes (HQ.out u.drew (below_drew u)).2 i hi).mono ?_
    rintro e w' ⟨rfl, hb⟩
    exact ⟨rfl, (below_drew u).trans hb⟩
  have k1 : decide (c.group < 1) = false := decide_eq_false hg
  have k2 : decide (c.group > (q.groups : Int)) = false := decide_eq_false hg2
  have k3 : (q.pl.plan != 0) = true := by simpa using hp
  clear h0 hq hB hs hi hg hg2 hp
  obtain ⟨⟨y0, y1, y5⟩, _⟩ := HQ.out u (Below.refl _ _)
  obtain ⟨z14, z16⟩ := HC.out u (KeptQ.refl _ _)
  have hs0 : u0.heap.size = br := by rw [hu0, hbr]; simp
  go_enter Try.func24, Try.ntmps24
  go_upto_region 1 with fail
  try rw [← hu0]
  try rw [← hu]
  try rw [hs0]
  try rw [← hbr]
  try rw [← hbc]
  clear hu hu0 hbc hbr hs0
  go_region_with (go_at_call 19; refine Calls.mono HO.out ?_; rintro e w1 ⟨rfl, hb1⟩; have HB1 : Hid (Below u.heap.size u w1) := hb1; clear hb1)
  all_goals
    have HX : Hid (AftT who u w1 B q (n + 1) who) := AftT.same (Mt.mono HH.out (Nat.le_succ n)) HB1.out
    clear y0 y1 y5 z14 z16
    obtain ⟨⟨y0, y1, y5⟩, _⟩ := HQ.out w1 HB1.out
    obtain ⟨z14, z16⟩ := HC.out w1 (KeptQ.ofBelow HB1.out)
    go_upto_region 2 with fail
    go_simp
    go_region
    go_upto_region 5 with fail
    clear y0 y1 y5 z14 z16
    have HXd : Hid (AftT who u w1.drew B q (n + 1) who) := AftT.on HX.out (below_drew w1)
    go_wp2_with fail
    refine Calls.mono (answerQ_c 120 _) ?_
    rintro e wA ⟨rfl, hbA⟩
    have HA : Hid (AftT who u wA B _ _ _) := AftT.on HXd.out hbA
    clear hbA
    obtain ⟨⟨r0, r1, r2⟩, g0, g1, g2⟩ := HBc.out.r wA HA.out.2.2
    obtain ⟨F, hF⟩ : ∃ F, F = putS wA br [.int .i64 120, .int .i64 0, .slice none 0 0] := ⟨_, rfl⟩
    have hx3 := HBc.out.told HA.out.2.2 (.int .i64 120) (.int .i64 0) (.slice none 0 0)
    rw [← hF] at hx3
    obtain ⟨x0, x1, x2⟩ := hx3
    have HR : Hid (AftT who w (putS wA br _) B _ _ _) := AftT.fin HA.out HBc.out [.int .i64 120, .int .i64 0, .slice none 0 0]
    rw [← hF] at HR
    have hFe : F = ((wA.setCell ⟨br, 0, none⟩ (.int .i64 120)).setCell ⟨br, 1, none⟩ (.int .i64 0)).setCell ⟨br, 2, none⟩ (.slice none 0 0) := hF
    have HFe : Hid _ := hFe
    clear hF hFe
    go_wp2
    rw [← HFe.out]
    refine bodyPost_ret (v := .agg #[.int .i64 120, .int .i64 0, .slice none 0 0]) ?qres rfl ?qpost
    case qres => simp [results, Try.results24, go_sem, x0, x1, x2]
    case qpost => exact ⟨_, rfl, HR.out⟩

set_option maxHeartbeats 800000 in
set_option maxRecDepth 20000 in
theorem start_there (h : Mt w B q who n) (c : Me.Cd) (i : Nat) (hi : i < 16) (hs : c.slot = (i : Int)) (hg : ¬ c.group < 1) (hg2 : ¬ c.group > (q.groups : Int)) (hp : q.pl.plan = 0) (ht : (q.own.O i : Int) = c.group) : Calls Try.prog 24 #[.pointer (some ⟨B, 0, none⟩), cmdV c] w (AnsT who w B q (n + 1) 90 0) := by
  unfold cmdV
  obtain ⟨u0, hu0⟩ : ∃ u0, u0 = w.alloc (.cells (cmdL c).toArray 39) := ⟨_, rfl⟩
  obtain ⟨u, hu⟩ : ∃ u, u = u0.alloc (.cells #[.int .i64 0, .int .i64 0, .slice none 0 0] 32) := ⟨_, rfl⟩
  obtain ⟨bc, hbc⟩ : ∃ bc, bc = w.heap.size := ⟨_, rfl⟩
  obtain ⟨br, hbr⟩ : ∃ br, br = w.heap.size + 1 := ⟨_, rfl⟩
  have hB : Bc w u bc br who (cmdL c) := by rw [hbc, hbr]; exact Bc.of h.here _ hu0 hu
  have HBc : Hid _ := hB
  have hh : Mt u B q who n := h.below hB.old
  obtain ⟨h0, ob, tb, tm, wv, vb, eb, hq⟩ := hh
  have HH : Hid (Mt u B q who n) := ⟨h0, ob, tb, tm, wv, vb, eb, hq⟩
  have HQ : Hid (∀ X, Below u.heap.size u X → (X.cell? ⟨B, 0, none⟩ = some (.int .i64 (q.groups : Int)) ∧ X.cell? ⟨B, 1, none⟩ = some (.pointer (some ⟨ob, 0, none⟩)) ∧ X.cell? ⟨B, 5, none⟩ = some (.int .i64 q.pl.plan)) ∧ Sm X ob q.own) := fun X hX => by
    have hb := hq.below h0.np hX
    exact ⟨⟨hb.b.c0, hb.b.c1, hb.b.c5⟩, hb.r.sm⟩
  have HC : Hid (∀ X, KeptQ who u X → X.cell? ⟨bc, 14, none⟩ = some (.int .i64 c.slot) ∧ X.cell? ⟨bc, 16, none⟩ = some (.int .i64 c.group)) := fun X hX => ⟨hB.c X hX 14 _ rfl, hB.c X hX 16 _ rfl⟩
  have HO : Hid (Calls Try.prog 19 #[.pointer (some ⟨ob, 0, none⟩), .int .i64 c.slot] u.drew fun e w' => e = .returned (.tuple #[.int .i64 (q.own.O i : Int), .int .i64 (q.own.E i : Int), .int .i64 0]) ∧ Below u.heap.size u w') := by
    rw [hs]
    refine (OwnerS_yes (HQ.out u.drew (below_drew u)).2 i hi).mono ?_
    rintro e w' ⟨rfl, hb⟩
    exact ⟨rfl, (below_drew u).trans hb⟩
  have k1 : decide (c.group < 1) = false := decide_eq_false hg
  have k2 : decide (c.group > (q.groups : Int)) = false := decide_eq_false hg2
  rw [hp] at HQ
  clear hp
  have k4 : ((q.own.O i : Int) == c.group) = true := by simpa using ht
  clear h0 hq hB hs hi hg hg2 ht
  obtain ⟨⟨y0, y1, y5⟩, _⟩ := HQ.out u (Below.refl _ _)
  obtain ⟨z14, z16⟩ := HC.out u (KeptQ.refl _ _)
  have hs0 : u0.heap.size = br := by rw [hu0, hbr]; simp
  go_enter Try.func24, Try.ntmps24
  go_upto_region 1 with fail
  try rw [← hu0]
  try rw [← hu]
  try rw [hs0]
  try rw [← hbr]
  try rw [← hbc]
  clear hu hu0 hbc hbr hs0
  go_region_with (go_at_call 19; refine Calls.mono HO.out ?_; rintro e w1 ⟨rfl, hb1⟩; have HB1 : Hid (Below u.heap.size u w1) := hb1; clear hb1)
  all_goals
    have HX : Hid (AftT who u w1 B q (n + 1) who) := AftT.same (Mt.mono HH.out (Nat.le_succ n)) HB1.out
    clear y0 y1 y5 z14 z16
    obtain ⟨⟨y0, y1, y5⟩, _⟩ := HQ.out w1 HB1.out
    obtain ⟨z14, z16⟩ := HC.out w1 (KeptQ.ofBelow HB1.out)
    go_upto_region 2 with fail
    go_simp
    go_region
    go_upto_region 7 with fail
    clear y0 y1 y5 z14 z16
    have HXd : Hid (AftT who u w1.drew B q (n + 1) who) := AftT.on HX.out (below_drew w1)
    go_wp2_with fail
    refine Calls.mono (answerQ_c 90 _) ?_
    rintro e wA ⟨rfl, hbA⟩
    have HA : Hid (AftT who u wA B _ _ _) := AftT.on HXd.out hbA
    clear hbA
    obtain ⟨⟨r0, r1, r2⟩, g0, g1, g2⟩ := HBc.out.r wA HA.out.2.2
    obtain ⟨F, hF⟩ : ∃ F, F = putS wA br [.int .i64 90, .int .i64 0, .slice none 0 0] := ⟨_, rfl⟩
    have hx3 := HBc.out.told HA.out.2.2 (.int .i64 90) (.int .i64 0) (.slice none 0 0)
    rw [← hF] at hx3
    obtain ⟨x0, x1, x2⟩ := hx3
    have HR : Hid (AftT who w (putS wA br _) B _ _ _) := AftT.fin HA.out HBc.out [.int .i64 90, .int .i64 0, .slice none 0 0]
    rw [← hF] at HR
    have hFe : F = ((wA.setCell ⟨br, 0, none⟩ (.int .i64 90)).setCell ⟨br, 1, none⟩ (.int .i64 0)).setCell ⟨br, 2, none⟩ (.slice none 0 0) := hF
    have HFe : Hid _ := hFe
    clear hF hFe
    go_wp2
    rw [← HFe.out]
    refine bodyPost_ret (v := .agg #[.int .i64 90, .int .i64 0, .slice none 0 0]) ?qres rfl ?qpost
    case qres => simp [results, Try.results24, go_sem, x0, x1, x2]
    case qpost => exact ⟨_, rfl, HR.out⟩

end
end Go.Proofs.Ytepbmfjimppgcaa
