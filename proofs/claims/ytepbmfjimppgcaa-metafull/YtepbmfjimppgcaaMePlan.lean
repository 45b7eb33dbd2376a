/-
  The meta group's plans: whether a command is about the plan, freeze, take, how many were taken, start.
-/
import Derived.Test.YtepbmfjimppgcaaMeBox
namespace Go.Proofs.Ytepbmfjimppgcaa
open Go.RowKit

/-- What a command tells, and leaves. -/
def AnsT (who : Nat → Nat) (w : World) (B : Nat) (q' : Me.St) (n' : Nat) (e0 a0 : Int) (e : Ending) (w' : World) : Prop := ∃ who', e = .returned (.agg #[.int .i64 e0, .int .i64 a0, .slice none 0 0]) ∧ AftT who w w' B q' n' who'

section
variable {w : World} {B n : Nat} {q : Me.St} {who : Nat → Nat}
theorem onWay_c (h : Mt w B q who n) (c : Me.Cd) : Calls Try.prog 43 #[.pointer (some ⟨B, 0, none⟩), cmdV c] w fun e w' => e = .returned (.bool (Me.onWay q c.plan)) ∧ Below w.heap.size w w' := by
  unfold cmdV
  obtain ⟨u, hu⟩ : ∃ u, u = w.alloc (.cells (cmdL c).toArray 39) := ⟨_, rfl⟩
  obtain ⟨bc, hbc⟩ : ∃ bc, bc = w.heap.size := ⟨_, rfl⟩
  have hbu : Below w.heap.size w u := by rw [hu]; exact below_alloc _ _
  have HB : Hid (Below w.heap.size w u.drew) := hbu.drew
  have c13 : u.cell? ⟨bc, 13, none⟩ = some (.int .i64 c.plan) := by rw [hu, hbc, World.cell?_alloc_mark]; rfl
  obtain ⟨_, ob, tb, tm, wv, vb, eb, h⟩ := h.below hbu
  have c5 := h.b.c5
  clear h hbu
  have HE : Hid (Me.onWay q c.plan = (decide (q.pl.plan ≠ 0) && decide (c.plan = q.pl.plan))) := rfl
  rw [HE.out]
  generalize q.pl.plan = p at *
  generalize c.plan = p' at *
  by_cases h0 : p = 0
  · subst h0
    go_enter Try.func43, Try.ntmps43
    go_wp2_with fail
    rw [← hu, ← hbc]
    clear hu hbc
    go_region
    go_wp2
    all_goals
      go_ret
      exact ⟨ret_bool (by simp), HB.out⟩
  · have hb : (p != 0) = true := by simpa using h0
    go_enter Try.func43, Try.ntmps43
    go_wp2_with fail
    rw [← hu, ← hbc]
    clear hu hbc
    go_region
    go_wp2
    all_goals
      go_ret
      exact ⟨ret_bool (by rw [show decide (p ≠ 0) = true from by simpa using h0, Bool.true_and]; rfl), HB.out⟩

set_option maxRecDepth 20000 in
theorem freeze_c (h : Mt w B q who n) (c : Me.Cd) (hd : c.data.size ≤ 140737488351232) : Calls Try.prog 25 #[.pointer (some ⟨B, 0, none⟩), cmdV c] w (AnsT who w B (if Me.onWay q c.plan = true ∧ q.pl.frozen = false then Me.freeze q c.data else q) (n + 1) (if Me.onWay q c.plan = true ∧ q.pl.frozen = false then 0 else 3) 0) := by
  unfold cmdV
  obtain ⟨u0, hu0⟩ : ∃ u0, u0 = w.alloc (.cells (cmdL c).toArray 39) := ⟨_, rfl⟩
  obtain ⟨u, hu⟩ : ∃ u, u = u0.alloc (.cells #[.int .i64 0, .int .i64 0, .slice none 0 0] 32) := ⟨_, rfl⟩
  obtain ⟨bc, hbc⟩ : ∃ bc, bc = w.heap.size := ⟨_, rfl⟩
  obtain ⟨br, hbr⟩ : ∃ br, br = w.heap.size + 1 := ⟨_, rfl⟩
  have hB : Bc w u bc br who (cmdL c) := by rw [hbc, hbr]; exact Bc.of h.here _ hu0 hu
  have HBc : Hid _ := hB
  have hh : Mt u B q who n := h.below hB.old
  have HO : Hid (Calls Try.prog 43 #[.pointer (some ⟨B, 0, none⟩), .agg (cmdL c).toArray] u fun e w' => e = .returned (.bool (Me.onWay q c.plan)) ∧ Below u.heap.size u w') := onWay_c hh c
  have HH : Hid (Mt u B q who n) := hh
  have HD : Hid (c.data.size ≤ 140737488351232) := hd
  clear hh hd hB
  cases ho : Me.onWay q c.plan with
  | false =>
    rw [ho] at HO
    rw [if_neg (by simp), if_neg (by simp)]
    clear ho
    have hs0 : u0.heap.size = br := by rw [hu0, hbr]; simp
    go_enter Try.func25, Try.ntmps25
    go_upto_region 1 with fail
    try rw [← hu0]
    try rw [← hu]
    try rw [hs0]
    try rw [← hbr]
    try rw [← hbc]
    clear hu hu0 hbc hbr hs0
    go_wp2_with (first | (refine wpList_load_mid rfl 39 (.tmp 3) rfl bc 0 rfl (cmdL c) _ (HBc.out.range (KeptQ.refl _ _)) Try.underlying39 rfl cmdInfo ?_))
    refine Calls.mono HO.out ?_
    rintro e w1 ⟨rfl, hb1⟩
    have HX : Hid (AftT who u w1 B q (n + 1) who) := AftT.same (Mt.mono HH.out (Nat.le_succ n)) hb1
    clear hb1
    go_wp2_with fail
    refine Calls.mono (answerQ_c 3 _) ?_
    rintro e wA ⟨rfl, hbA⟩
    have HA : Hid (AftT who u wA B _ _ _) := AftT.on HX.out hbA
    clear hbA
    obtain ⟨⟨r0, r1, r2⟩, g0, g1, g2⟩ := HBc.out.r wA HA.out.2.2
    obtain ⟨F, hF⟩ : ∃ F, F = putS wA br [.int .i64 3, .int .i64 0, .slice none 0 0] := ⟨_, rfl⟩
    have hx3 := HBc.out.told HA.out.2.2 (.int .i64 3) (.int .i64 0) (.slice none 0 0)
    rw [← hF] at hx3
    obtain ⟨x0, x1, x2⟩ := hx3
    have HR : Hid (AftT who w (putS wA br _) B _ _ _) := AftT.fin HA.out HBc.out [.int .i64 3, .int .i64 0, .slice none 0 0]
    rw [← hF] at HR
    have hFe : F = ((wA.setCell ⟨br, 0, none⟩ (.int .i64 3)).setCell ⟨br, 1, none⟩ (.int .i64 0)).setCell ⟨br, 2, none⟩ (.slice none 0 0) := hF
    have HFe : Hid _ := hFe
    clear hF hFe
    go_wp2
    rw [← HFe.out]
    refine bodyPost_ret (v := .agg #[.int .i64 3, .int .i64 0, .slice none 0 0]) ?qres rfl ?qpost
    case qres => simp [results, Try.results25, go_sem, x0, x1, x2]
    case qpost => exact ⟨_, rfl, HR.out⟩
  | true =>
    rw [ho] at HO
    clear ho
    have HC10 : Hid (∀ X, Below u.heap.size u X → X.cell? ⟨B, 10, none⟩ = some (.bool q.pl.frozen) ∧ X.cell? ⟨B, 11, none⟩ = some (.string q.pl.data) ∧ X.frozen? ⟨B, 10, none⟩ = false ∧ X.frozen? ⟨B, 11, none⟩ = false) := fun X hX => by
      obtain ⟨_, ob, tb, tm, wv, vb, eb, hq⟩ := Mt.below HH.out hX
      exact ⟨hq.b.c10, hq.b.c11, hq.b.fz _, hq.b.fz _⟩
    cases hz : q.pl.frozen with
    | true =>
      rw [hz] at HC10
      rw [if_neg (by simp), if_neg (by simp)]
      clear hz
      have hs0 : u0.heap.size = br := by rw [hu0, hbr]; simp
      go_enter Try.func25, Try.ntmps25
      go_upto_region 1 with fail
      try rw [← hu0]
      try rw [← hu]
      try rw [hs0]
      try rw [← hbr]
      try rw [← hbc]
      clear hu hu0 hbc hbr hs0
      go_wp2_with (first | (refine wpList_load_mid rfl 39 (.tmp 3) rfl bc 0 rfl (cmdL c) _ (HBc.out.range (KeptQ.refl _ _)) Try.underlying39 rfl cmdInfo ?_))
      refine Calls.mono HO.out ?_
      rintro e w1 ⟨rfl, hb1⟩
      have HX : Hid (AftT who u w1 B q (n + 1) who) := AftT.same (Mt.mono HH.out (Nat.le_succ n)) hb1
      have c10 := (HC10.out w1 hb1).1
      clear hb1
      go_wp2_with fail
      refine Calls.mono (answerQ_c 3 _) ?_
      rintro e wA ⟨rfl, hbA⟩
      have HA : Hid (AftT who u wA B _ _ _) := AftT.on HX.out hbA
      clear hbA
      obtain ⟨⟨r0, r1, r2⟩, g0, g1, g2⟩ := HBc.out.r wA HA.out.2.2
      obtain ⟨F, hF⟩ : ∃ F, F = putS wA br [.int .i64 3, .int .i64 0, .slice none 0 0] := ⟨_, rfl⟩
      have hx3 := HBc.out.told HA.out.2.2 (.int .i64 3) (.int .i64 0) (.slice none 0 0)
      rw [← hF] at hx3
      obtain ⟨x0, x1, x2⟩ := hx3
      have HR : Hid (AftT who w (putS wA br _) B _ _ _) := AftT.fin HA.out HBc.out [.int .i64 3, .int .i64 0, .slice none 0 0]
      rw [← hF] at HR
      have hFe : F = ((wA.setCell ⟨br, 0, none⟩ (.int .i64 3)).setCell ⟨br, 1, none⟩ (.int .i64 0)).setCell ⟨br, 2, none⟩ (.slice none 0 0) := hF
      have HFe : Hid _ := hFe
      clear hF hFe
      go_wp2
      rw [← HFe.out]
      refine bodyPost_ret (v := .agg #[.int .i64 3, .int .i64 0, .slice none 0 0]) ?qres rfl ?qpost
      case qres => simp [results, Try.results25, go_sem, x0, x1, x2]
      case qpost => exact ⟨_, rfl, HR.out⟩
    | false =>
      have HPl : Hid (∀ j, j < 7 → (if 5 ≤ j ∧ j < 5 + [Value.bool true, .string c.data].length then [Value.bool true, .string c.data][j - 5]? else (plL q.pl)[j]?) = (plL (Me.freeze q c.data).pl)[j]?) := fun j hj => by
        match j, hj with
        | 0, _ => rfl
        | 1, _ => rfl
        | 2, _ => rfl
        | 3, _ => rfl
        | 4, _ => rfl
        | 5, _ => rfl
        | 6, _ => rfl
      have HSz : Hid (c.data.size ≤ maxLen) := by have := HD.out; show _ ≤ maxLen; unfold maxLen; omega
      rw [hz] at HC10
      rw [if_pos ⟨rfl, rfl⟩, if_pos ⟨rfl, rfl⟩]
      clear hz
      have hs0 : u0.heap.size = br := by rw [hu0, hbr]; simp
      go_enter Try.func25, Try.ntmps25
      go_upto_region 1 with fail
      try rw [← hu0]
      try rw [← hu]
      try rw [hs0]
      try rw [← hbr]
      try rw [← hbc]
      clear hu hu0 hbc hbr hs0
      go_wp2_with (first | (refine wpList_load_mid rfl 39 (.tmp 3) rfl bc 0 rfl (cmdL c) _ (HBc.out.range (KeptQ.refl _ _)) Try.underlying39 rfl cmdInfo ?_))
      refine Calls.mono HO.out ?_
      rintro e w1 ⟨rfl, hb1⟩
      have HX : Hid (AftT who u w1 B q (n + 1) who) := AftT.same (Mt.mono HH.out (Nat.le_succ n)) hb1
      have c10 := (HC10.out w1 hb1).1
      have c19 := HBc.out.c w1 HX.out.2.2 19 _ rfl
      have HB1 : Hid (Below u.heap.size u w1) := hb1
      clear hb1
      go_wp2_with fail
      refine Calls.mono (Clone_any _ _ HD.out) ?_
      rintro e w2 ⟨rfl, hb2⟩
      obtain ⟨y10, y11, z10, z11⟩ := HC10.out w2 (HB1.out.trans (hb2.mono HB1.out.size))
      have HX2 : Hid (AftT who u (w2.setCells B (5 + 5) [Value.bool true, .string c.data]) B (Me.freeze q c.data) (n + 1) who) := AftT.setPl (AftT.on HX.out hb2) _ 5 _ (by simp) HPl.out HSz.out
      obtain ⟨X, hX⟩ : ∃ X, X = w2.setCells B (5 + 5) [Value.bool true, .string c.data] := ⟨_, rfl⟩
      rw [← hX] at HX2
      have hXe : X = (w2.setCell ⟨B, 10, none⟩ (.bool true)).setCell ⟨B, 11, none⟩ (.string c.data) := hX
      clear hX hb2 c10 c19
      go_upto_region 4 with fail
      rw [← hXe]
      clear hXe y10 y11 z10 z11
      go_wp2_with fail
      refine Calls.mono (answerQ_c 0 _) ?_
      rintro e wA ⟨rfl, hbA⟩
      have HA : Hid (AftT who u wA B _ _ _) := AftT.on HX2.out hbA
      clear hbA
      obtain ⟨⟨r0, r1, r2⟩, g0, g1, g2⟩ := HBc.out.r wA HA.out.2.2
      obtain ⟨F, hF⟩ : ∃ F, F = putS wA br [.int .i64 0, .int .i64 0, .slice none 0 0] := ⟨_, rfl⟩
      have hx3 := HBc.out.told HA.out.2.2 (.int .i64 0) (.int .i64 0) (.slice none 0 0)
      rw [← hF] at hx3
      obtain ⟨x0, x1, x2⟩ := hx3
      have HR : Hid (AftT who w (putS wA br _) B _ _ _) := AftT.fin HA.out HBc.out [.int .i64 0, .int .i64 0, .slice none 0 0]
      rw [← hF] at HR
      have hFe : F = ((wA.setCell ⟨br, 0, none⟩ (.int .i64 0)).setCell ⟨br, 1, none⟩ (.int .i64 0)).setCell ⟨br, 2, none⟩ (.slice none 0 0) := hF
      have HFe : Hid _ := hFe
      clear hF hFe
      go_wp2
      rw [← HFe.out]
      refine bodyPost_ret (v := .agg #[.int .i64 0, .int .i64 0, .slice none 0 0]) ?qres rfl ?qpost
      case qres => simp [results, Try.results25, go_sem, x0, x1, x2]
      case qpost => exact ⟨_, rfl, HR.out⟩

set_option maxHeartbeats 800000 in
set_option maxRecDepth 20000 in
theorem take_c (h : Mt w B q who n) (c : Me.Cd) (hg : Me.onWay q c.plan = true → q.pl.frozen = true → Sl.giveE q.own q.pl.slot q.pl.to = 0) : Calls Try.prog 26 #[.pointer (some ⟨B, 0, none⟩), cmdV c] w (AnsT who w B (if Me.onWay q c.plan = true ∧ q.pl.frozen = true then Me.take q else q) (n + 1) (if Me.onWay q c.plan = true ∧ q.pl.frozen = true then 0 else 3) 0) := by
  unfold cmdV
  obtain ⟨u0, hu0⟩ : ∃ u0, u0 = w.alloc (.cells (cmdL c).toArray 39) := ⟨_, rfl⟩
  obtain ⟨u, hu⟩ : ∃ u, u = u0.alloc (.cells #[.int .i64 0, .int .i64 0, .slice none 0 0] 32) := ⟨_, rfl⟩
  obtain ⟨bc, hbc⟩ : ∃ bc, bc = w.heap.size := ⟨_, rfl⟩
  obtain ⟨br, hbr⟩ : ∃ br, br = w.heap.size + 1 := ⟨_, rfl⟩
  have hB : Bc w u bc br who (cmdL c) := by rw [hbc, hbr]; exact Bc.of h.here _ hu0 hu
  have HBc : Hid _ := hB
  have hh : Mt u B q who n := h.below hB.old
  have HO : Hid (Calls Try.prog 43 #[.pointer (some ⟨B, 0, none⟩), .agg (cmdL c).toArray] u fun e w' => e = .returned (.bool (Me.onWay q c.plan)) ∧ Below u.heap.size u w') := onWay_c hh c
  have HH : Hid (Mt u B q who n) := hh
  have HD : Hid _ := hg
  clear hh hg hB
  cases ho : Me.onWay q c.plan with
  | false =>
    rw [ho] at HO
    rw [if_neg (by simp), if_neg (by simp)]
    clear ho
    have hs0 : u0.heap.size = br := by rw [hu0, hbr]; simp
    go_enter Try.func26, Try.ntmps26
    go_upto_region 1 with fail
    try rw [← hu0]
    try rw [← hu]
    try rw [hs0]
    try rw [← hbr]
    try rw [← hbc]
    clear hu hu0 hbc hbr hs0
    go_wp2_with (first | (refine wpList_load_mid rfl 39 (.tmp 3) rfl bc 0 rfl (cmdL c) _ (HBc.out.range (KeptQ.refl _ _)) Try.underlying39 rfl cmdInfo ?_))
    refine Calls.mono HO.out ?_
    rintro e w1 ⟨rfl, hb1⟩
    have HX : Hid (AftT who u w1 B q (n + 1) who) := AftT.same (Mt.mono HH.out (Nat.le_succ n)) hb1
    clear hb1
    go_wp2_with fail
    refine Calls.mono (answerQ_c 3 _) ?_
    rintro e wA ⟨rfl, hbA⟩
    have HA : Hid (AftT who u wA B _ _ _) := AftT.on HX.out hbA
    clear hbA
    obtain ⟨⟨r0, r1, r2⟩, g0, g1, g2⟩ := HBc.out.r wA HA.out.2.2
    obtain ⟨F, hF⟩ : ∃ F, F = putS wA br [.int .i64 3, .int .i64 0, .slice none 0 0] := ⟨_, rfl⟩
    have hx3 := HBc.out.told HA.out.2.2 (.int .i64 3) (.int .i64 0) (.slice none 0 0)
    rw [← hF] at hx3
    obtain ⟨x0, x1, x2⟩ := hx3
    have HR : Hid (AftT who w (putS wA br _) B _ _ _) := AftT.fin HA.out HBc.out [.int .i64 3, .int .i64 0, .slice none 0 0]
    rw [← hF] at HR
    have hFe : F = ((wA.setCell ⟨br, 0, none⟩ (.int .i64 3)).setCell ⟨br, 1, none⟩ (.int .i64 0)).setCell ⟨br, 2, none⟩ (.slice none 0 0) := hF
    have HFe : Hid _ := hFe
    clear hF hFe
    go_wp2
    rw [← HFe.out]
    refine bodyPost_ret (v := .agg #[.int .i64 3, .int .i64 0, .slice none 0 0]) ?qres rfl ?qpost
    case qres => simp [results, Try.results26, go_sem, x0, x1, x2]
    case qpost => exact ⟨_, rfl, HR.out⟩
  | true =>
    rw [ho] at HO
    have HG0 : Hid (q.pl.frozen = true → Sl.giveE q.own q.pl.slot q.pl.to = 0) := HD.out ho
    clear ho HD
    have HC10 : Hid (∀ X, Below u.heap.size u X → X.cell? ⟨B, 10, none⟩ = some (.bool q.pl.frozen)) := fun X hX => by
      obtain ⟨_, ob, tb, tm, wv, vb, eb, hq⟩ := Mt.below HH.out hX
      exact hq.b.c10
    cases hz : q.pl.frozen with
    | false =>
      rw [hz] at HC10
      rw [if_neg (by simp), if_neg (by simp)]
      clear hz
      have hs0 : u0.heap.size = br := by rw [hu0, hbr]; simp
      go_enter Try.func26, Try.ntmps26
      go_upto_region 1 with fail
      try rw [← hu0]
      try rw [← hu]
      try rw [hs0]
      try rw [← hbr]
      try rw [← hbc]
      clear hu hu0 hbc hbr hs0
      go_wp2_with (first | (refine wpList_load_mid rfl 39 (.tmp 3) rfl bc 0 rfl (cmdL c) _ (HBc.out.range (KeptQ.refl _ _)) Try.underlying39 rfl cmdInfo ?_))
      refine Calls.mono HO.out ?_
      rintro e w1 ⟨rfl, hb1⟩
      have HX : Hid (AftT who u w1 B q (n + 1) who) := AftT.same (Mt.mono HH.out (Nat.le_succ n)) hb1
      have c10 := HC10.out w1 hb1
      clear hb1
      go_wp2_with fail
      refine Calls.mono (answerQ_c 3 _) ?_
      rintro e wA ⟨rfl, hbA⟩
      have HA : Hid (AftT who u wA B _ _ _) := AftT.on HX.out hbA
      clear hbA
      obtain ⟨⟨r0, r1, r2⟩, g0, g1, g2⟩ := HBc.out.r wA HA.out.2.2
      obtain ⟨F, hF⟩ : ∃ F, F = putS wA br [.int .i64 3, .int .i64 0, .slice none 0 0] := ⟨_, rfl⟩
      have hx3 := HBc.out.told HA.out.2.2 (.int .i64 3) (.int .i64 0) (.slice none 0 0)
      rw [← hF] at hx3
      obtain ⟨x0, x1, x2⟩ := hx3
      have HR : Hid (AftT who w (putS wA br _) B _ _ _) := AftT.fin HA.out HBc.out [.int .i64 3, .int .i64 0, .slice none 0 0]
      rw [← hF] at HR
      have hFe : F = ((wA.setCell ⟨br, 0, none⟩ (.int .i64 3)).setCell ⟨br, 1, none⟩ (.int .i64 0)).setCell ⟨br, 2, none⟩ (.slice none 0 0) := hF
      have HFe : Hid _ := hFe
      clear hF hFe
      go_wp2
      rw [← HFe.out]
      refine bodyPost_ret (v := .agg #[.int .i64 3, .int .i64 0, .slice none 0 0]) ?qres rfl ?qpost
      case qres => simp [results, Try.results26, go_sem, x0, x1, x2]
      case qpost => exact ⟨_, rfl, HR.out⟩
    | true =>
      have hg0 := HG0.out hz
      have HPl : Hid (∀ j, j < 7 → (if 0 ≤ j ∧ j < 0 + (plL Me.noPl).length then (plL Me.noPl)[j - 0]? else (plL q.pl)[j]?) = (plL (Me.take q).pl)[j]?) := fun j hj => by
        rw [if_pos ⟨by omega, by simpa [plL] using hj⟩]
        rfl
      rw [hz] at HC10
      rw [if_pos ⟨rfl, rfl⟩, if_pos ⟨rfl, rfl⟩]
      clear hz HG0
      obtain ⟨h0, ob, tb, tm, wv, vb, eb, hq⟩ := HH.out
      have HQ : Hid (∀ X, Below u.heap.size u X → X.cell? ⟨B, 1, none⟩ = some (.pointer (some ⟨ob, 0, none⟩)) ∧ X.cell? ⟨B, 6, none⟩ = some (.int .i64 q.pl.slot) ∧ X.cell? ⟨B, 8, none⟩ = some (.int .i64 q.pl.to) ∧ Calls Try.prog 44 #[.pointer (some ⟨ob, 0, none⟩), .int .i64 q.pl.slot, .int .i64 q.pl.to] X.drew fun e w' => e = .returned (.int .i64 0) ∧ AftT who u w' B { q with own := Sl.give q.own q.pl.slot q.pl.to } (n + 1) who) := fun X hX => by
        have hb := hq.below h0.np hX
        have hbd := hq.below h0.np hX.drew
        refine ⟨hb.b.c1, hb.b.c6, hb.b.c8, (GiveS_c hbd.r.sm _ _).mono ?_⟩
        rintro e w' ⟨rfl, ha⟩
        rw [hg0]
        exact ⟨rfl, AftT.more (AftT.from hX.drew (Mt.give h0 hbd ha)) (Nat.le_succ n)⟩
      have HZ : Hid (∀ X who', AftT who u X B { q with own := Sl.give q.own q.pl.slot q.pl.to } (n + 1) who' → (∀ j, j < 7 → ∃ y, X.cell? ⟨B, 5 + j, none⟩ = some y ∧ X.frozen? ⟨B, 5 + j, none⟩ = false) ∧ AftT who u (X.setCells B (5 + 0) (plL Me.noPl)) B (Me.take q) (n + 1) who') := fun X who' hX => by
        refine ⟨fun j hj => ?_, AftT.setPl hX Me.noPl 0 (plL Me.noPl) (by simp [plL]) HPl.out (by show (Me.e0).size ≤ _; exact Nat.zero_le _)⟩
        obtain ⟨⟨_, ob, tb, tm, wv, vb, eb, hq⟩, _⟩ := hX
        exact ⟨_, (hq.b.plAt j hj).trans (List.getElem?_eq_getElem (by show j < 7; exact hj)), hq.b.fz _⟩
      clear h0 hq hg0 HPl
      have hs0 : u0.heap.size = br := by rw [hu0, hbr]; simp
      go_enter Try.func26, Try.ntmps26
      go_upto_region 1 with fail
      try rw [← hu0]
      try rw [← hu]
      try rw [hs0]
      try rw [← hbr]
      try rw [← hbc]
      clear hu hu0 hbc hbr hs0
      go_wp2_with (first | (refine wpList_load_mid rfl 39 (.tmp 3) rfl bc 0 rfl (cmdL c) _ (HBc.out.range (KeptQ.refl _ _)) Try.underlying39 rfl cmdInfo ?_))
      refine Calls.mono HO.out ?_
      rintro e w1 ⟨rfl, hb1⟩
      have HX : Hid (AftT who u w1 B q (n + 1) who) := AftT.same (Mt.mono HH.out (Nat.le_succ n)) hb1
      have c10 := HC10.out w1 hb1
      obtain ⟨y1, y6, y8, hgv⟩ := HQ.out w1 hb1
      have HGv : Hid _ := hgv
      clear hb1 hgv
      go_wp2
      go_region_with (go_at_call 44; refine Calls.mono HGv.out ?_; rintro e w2 ⟨rfl, ha⟩; have HA2 : Hid (AftT who u w2 B { q with own := Sl.give q.own q.pl.slot q.pl.to } (n + 1) who) := ha; clear ha)
      all_goals
        clear y1 y6 y8 c10
        obtain ⟨hc, hz2⟩ := HZ.out w2 who HA2.out
        obtain ⟨x0, y0, z0⟩ := hc 0 (by omega)
        obtain ⟨x1, y1, z1⟩ := hc 1 (by omega)
        obtain ⟨x2, y2, z2⟩ := hc 2 (by omega)
        obtain ⟨x3, y3, z3⟩ := hc 3 (by omega)
        obtain ⟨x4, y4, z4⟩ := hc 4 (by omega)
        obtain ⟨x5, y5, z5⟩ := hc 5 (by omega)
        obtain ⟨x6, y6, z6⟩ := hc 6 (by omega)
        obtain ⟨X, hX⟩ : ∃ X, X = w2.setCells B (5 + 0) (plL Me.noPl) := ⟨_, rfl⟩
        rw [← hX] at hz2
        have HX2 : Hid (AftT who u X B (Me.take q) (n + 1) who) := hz2
        have hXe : X = ((((((w2.setCell ⟨B, 5, none⟩ (.int .i64 0)).setCell ⟨B, 6, none⟩ (.int .i64 0)).setCell ⟨B, 7, none⟩ (.int .i64 0)).setCell ⟨B, 8, none⟩ (.int .i64 0)).setCell ⟨B, 9, none⟩ (.int .i64 0)).setCell ⟨B, 10, none⟩ (.bool false)).setCell ⟨B, 11, none⟩ (.string ⟨#[]⟩) := hX
        clear hX hz2 hc
        go_upto_region 7 with fail
        rw [← hXe]
        clear hXe y0 y1 y2 y3 y4 y5 y6 z0 z1 z2 z3 z4 z5 z6
        go_wp2_with fail
        refine Calls.mono (answerQ_c 0 _) ?_
        rintro e wA ⟨rfl, hbA⟩
        have HA : Hid (AftT who u wA B _ _ _) := AftT.on HX2.out hbA
        clear hbA
        obtain ⟨⟨r0, r1, r2⟩, g0, g1, g2⟩ := HBc.out.r wA HA.out.2.2
        obtain ⟨F, hF⟩ : ∃ F, F = putS wA br [.int .i64 0, .int .i64 0, .slice none 0 0] := ⟨_, rfl⟩
        have hx3 := HBc.out.told HA.out.2.2 (.int .i64 0) (.int .i64 0) (.slice none 0 0)
        rw [← hF] at hx3
        obtain ⟨x0, x1, x2⟩ := hx3
        have HR : Hid (AftT who w (putS wA br _) B _ _ _) := AftT.fin HA.out HBc.out [.int .i64 0, .int .i64 0, .slice none 0 0]
        rw [← hF] at HR
        have hFe : F = ((wA.setCell ⟨br, 0, none⟩ (.int .i64 0)).setCell ⟨br, 1, none⟩ (.int .i64 0)).setCell ⟨br, 2, none⟩ (.slice none 0 0) := hF
        have HFe : Hid _ := hFe
        clear hF hFe
        go_wp2
        rw [← HFe.out]
        refine bodyPost_ret (v := .agg #[.int .i64 0, .int .i64 0, .slice none 0 0]) ?qres rfl ?qpost
        case qres => simp [results, Try.results26, go_sem, x0, x1, x2]
        case qpost => exact ⟨_, rfl, HR.out⟩
end
end Go.Proofs.Ytepbmfjimppgcaa
