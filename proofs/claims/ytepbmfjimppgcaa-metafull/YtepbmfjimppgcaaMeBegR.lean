/-
  begin, where a transaction may not begin.
-/
import Derived.Test.YtepbmfjimppgcaaMeApp
import Derived.Test.YtepbmfjimppgcaaMePlan
import Derived.Deep.CutRange
namespace Go.Proofs.Ytepbmfjimppgcaa
open Go.RowKit

set_option maxHeartbeats 40000000 in
set_option maxRecDepth 20000 in
theorem beginQ_ref {w : World} {B n : Nat} {q : Me.St} {who : Nat → Nat} (h : Mt w B q who n) (hn : n ≤ 1000000) (c : Me.Cd) (hop : OpOk c.op) (hsz : ∀ x : ByteArray, x = c.op.space ∨ x = c.op.channel ∨ x = c.op.user ∨ x = c.op.toSpace ∨ x = c.op.to → x.size ≤ 140737488351232) (r : Int) (hb : (Mo.may c.op = true ∧ Me.many c.op = true) ∧ (Se.find q.tab c.a c.b).2 = 3 ∧ Me.refuses q c.a c.b = r) (hr : r ≠ 0) : Calls Try.prog 21 #[.pointer (some ⟨B, 0, none⟩), cmdV c] w (AnsT who w B q (n + 1) r 0) := by
  unfold cmdV
  obtain ⟨u0, hu0⟩ : ∃ u0, u0 = w.alloc (.cells (cmdL c).toArray 39) := ⟨_, rfl⟩
  obtain ⟨u, hu⟩ : ∃ u, u = u0.alloc (.cells #[.int .i64 0, .int .i64 0, .slice none 0 0] 32) := ⟨_, rfl⟩
  obtain ⟨bc, hbc⟩ : ∃ bc, bc = w.heap.size := ⟨_, rfl⟩
  obtain ⟨br, hbr⟩ : ∃ br, br = w.heap.size + 1 := ⟨_, rfl⟩
  have hB : Bc w u bc br who (cmdL c) := by rw [hbc, hbr]; exact Bc.of h.here _ hu0 hu
  have HBc : Hid _ := hB
  have hh : Mt u B q who n := h.below hB.old
  obtain ⟨⟨hb1, hb2⟩, hb3, hb4⟩ := hb
  have hidm : Se.may c.a c.b = true := by
    cases hm : Se.may c.a c.b with
    | true => rfl
    | false =>
      unfold Se.find at hb3
      rw [hm] at hb3
      simp at hb3
  have HOk2 : Hid (Me.TxOk (Me.fresh c.a c.b c.op)) := ⟨hb1, hb2, hop, hidm, List.Pairwise.nil, List.Pairwise.nil, fun p hp => (List.not_mem_nil hp).elim, fun p hp => (List.not_mem_nil hp).elim, by show (Me.e0).size ≤ _; exact Nat.zero_le _⟩
  obtain ⟨ck, ca, cb, ⟨k0, o1, o2, o3, o4, o5, o6, k7, k8⟩, ctx, cpl, csl, cep, cgr, cok, cer, cda⟩ := c
  dsimp only at *
  have HCL : Hid (∀ X, KeptQ who u X → X.cell? ⟨bc, 1, none⟩ = some (.int .i64 ca) ∧ X.cell? ⟨bc, 2, none⟩ = some (.int .i64 cb) ∧ X.cell? ⟨bc, 3, none⟩ = some (.int .i64 k0) ∧ X.cell? ⟨bc, 4, none⟩ = some (.string o1) ∧ X.cell? ⟨bc, 5, none⟩ = some (.string o2) ∧ X.cell? ⟨bc, 6, none⟩ = some (.string o3) ∧ X.cell? ⟨bc, 7, none⟩ = some (.string o4) ∧ X.cell? ⟨bc, 8, none⟩ = some (.string o5) ∧ X.cell? ⟨bc, 9, none⟩ = some (.string o6) ∧ X.cell? ⟨bc, 10, none⟩ = some (.int .i64 k7) ∧ X.cell? ⟨bc, 11, none⟩ = some (.int .i64 k8)) := fun X hX => ⟨hB.c X hX 1 _ rfl, hB.c X hX 2 _ rfl, hB.c X hX 3 _ rfl, hB.c X hX 4 _ rfl, hB.c X hX 5 _ rfl, hB.c X hX 6 _ rfl, hB.c X hX 7 _ rfl, hB.c X hX 8 _ rfl, hB.c X hX 9 _ rfl, hB.c X hX 10 _ rfl, hB.c X hX 11 _ rfl⟩
  have HCk : Hid (∀ X, Calls Try.prog 33 #[.agg #[.int .i64 k0, .string o1, .string o2, .string o3, .string o4, .string o5, .string o6, .int .i64 k7, .int .i64 k8]] X fun e w' => e = .returned (.int .i64 0) ∧ Below X.heap.size X w') := fun X => by
    have := Check_c ⟨k0, o1, o2, o3, o4, o5, o6, k7, k8⟩ hop X
    rw [hb1, if_pos rfl] at this
    exact this
  have HMy : Hid (∀ X, Calls Try.prog 34 #[.agg #[.int .i64 k0, .string o1, .string o2, .string o3, .string o4, .string o5, .string o6, .int .i64 k7, .int .i64 k8]] X fun e w' => e = .returned (.bool true) ∧ Below X.heap.size X w') := fun X => by
    have := isOfMany_c ⟨k0, o1, o2, o3, o4, o5, o6, k7, k8⟩ X
    rw [hb2] at this
    exact this
  have HKo : Hid (∀ X, Calls Try.prog 37 #[.agg #[.int .i64 k0, .string o1, .string o2, .string o3, .string o4, .string o5, .string o6, .int .i64 k7, .int .i64 k8]] X fun e w' => e = .returned (.agg #[.int .i64 k0, .string o1, .string o2, .string o3, .string o4, .string o5, .string o6, .int .i64 k7, .int .i64 k8]) ∧ Below X.heap.size X w') := fun X => keptOp_c ⟨k0, o1, o2, o3, o4, o5, o6, k7, k8⟩ hsz X
  have HH : Hid (Mt u B q who n) := hh
  have HRf : Hid (∀ X, Below u.heap.size u X → Calls Try.prog 36 #[.pointer (some ⟨B, 0, none⟩), .agg #[.int .i64 ca, .int .i64 cb]] X fun e w' => e = .returned (.int .i64 r) ∧ Below u.heap.size u w') := fun X hX => by
    have := refuses_c (Mt.below HH.out hX) hn ca cb
    rw [hb4] at this
    refine this.mono ?_
    rintro e w' ⟨rfl, hbb⟩
    exact ⟨rfl, hX.trans (hbb.mono hX.size)⟩
  obtain ⟨h0, ob, tb, tm, wv, vb, eb, hq⟩ := hh
  obtain ⟨pp, cc, hwv, _, _⟩ := hq.r.row.form
  obtain ⟨m, hm⟩ : ∃ m, m = q.wait.length := ⟨_, rfl⟩
  have HM : Hid (m = q.wait.length) := hm
  have hmn : m ≤ 1000000 := by have := h0.few; omega
  have han : q.ans ≤ 1000000 := by have := h0.ans; omega
  rw [← hm] at hwv
  subst hwv
  have HQ : Hid (Me.Ok n q ∧ Mq u B q who ob tb tm (.slice pp m cc) vb eb) := ⟨h0, hq⟩
  have HQ4 : Hid (∀ X, Below u.heap.size u X → X.cell? ⟨B, 2, none⟩ = some (.pointer (some ⟨tb, 0, none⟩)) ∧ X.cell? ⟨B, 4, none⟩ = some (.slice pp m cc)) := fun X hX => by
    have hbq := hq.below h0.np hX
    exact ⟨hbq.b.c2, hbq.b.c4⟩
  have HFi : Hid (∀ X, Below u.heap.size u X → Calls Try.prog 35 #[.pointer (some ⟨tb, 0, none⟩), .agg #[.int .i64 ca, .int .i64 cb]] X fun e w' => ∃ f0 f1 p' n' c', e = .returned (.tuple #[.agg #[.int .i64 f1, .int .i64 f0, .slice p' n' c'], .int .i64 3]) ∧ Below u.heap.size u w' ∧ Below X.heap.size X w') := fun X hX => by
    refine (Find_c (hq.below h0.np hX).r.tab ca cb).mono ?_
    rintro e' w' ⟨pv, rfl, hrow, _, hbb⟩
    obtain ⟨p', c', hpv, _, _⟩ := hrow.form
    exact ⟨_, _, p', _, c', by rw [hpv, hb3], hX.trans (hbb.mono hX.size), hbb⟩
  have hmm := @run_makeMap Try.prog
  clear h0 hq hB hb1 hb2 hb3 hb4 hop hsz hidm hm hn h
  obtain ⟨e1, e2, e3, e4, e5, e6, e7, e8, e9, e10, e11⟩ := HCL.out u (KeptQ.refl _ _)
  have hs0 : u0.heap.size = br := by rw [hu0, hbr]; simp
  go_enter Try.func21, Try.ntmps21
  go_upto_region 1 with fail
  try rw [← hu0]
  try rw [← hu]
  try rw [hs0]
  try rw [← hbr]
  try rw [← hbc]
  clear hu hu0 hbc hbr hs0
  go_wp2_with fail
  refine Calls.mono (HCk.out u) ?_
  rintro e w1 ⟨rfl, hb1⟩
  have HB1 : Hid (Below u.heap.size u w1) := hb1
  clear hb1 e1 e2 e3 e4 e5 e6 e7 e8 e9 e10 e11
  obtain ⟨e1, e2, e3, e4, e5, e6, e7, e8, e9, e10, e11⟩ := HCL.out w1 (KeptQ.ofBelow HB1.out)
  go_wp2_with fail
  refine Calls.mono (HMy.out w1) ?_
  rintro e w2 ⟨rfl, hb2⟩
  have HB2 : Hid (Below u.heap.size u w2) := HB1.out.trans (hb2.mono HB1.out.size)
  clear hb2 e1 e2 e3 e4 e5 e6 e7 e8 e9 e10 e11
  go_upto_region 3 with fail
  go_simp
  have HS3 : Hid (∀ X, Below w2.heap.size w2 X → X.cell? ⟨B, 2, none⟩ = some (.pointer (some ⟨tb, 0, none⟩)) ∧ X.cell? ⟨bc, 1, none⟩ = some (.int .i64 ca) ∧ X.cell? ⟨bc, 2, none⟩ = some (.int .i64 cb)) := fun X hX => by
    have hb := HB2.out.trans (hX.mono HB2.out.size)
    have := HCL.out X (KeptQ.ofBelow hb)
    exact ⟨(HQ4.out X hb).1, this.1, this.2.1⟩
  go_cut [4, 6] from 19 to 28 (fun x y wx => x = .pointer (some ⟨br, 0, none⟩) ∧ y = .int .i64 3 ∧ Hid (Below u.heap.size u wx))
  case first =>
    refine wp_region_held_drew (S := fun X => Below w2.heap.size w2 X) (by kernel_rfl) (below_drew w2) (fun hHeld => ?_)
    refine takeM (i := 0) (d := 20) (v := .pointer (some ⟨B, 0, none⟩)) rfl rfl (by kernel_rfl) (by kernel_rfl) (by kernel_rfl) (fun _ _ _ h => h) (Or.inl ⟨by rfl, ?_⟩) (by assumption) ?_
    · intro X hSw
      obtain ⟨e1, e2, e3⟩ := HS3.out X hSw
      clear hSw
      go_simp
    simp only [Act.put, List.setIfInBounds_toArray, List.set_cons_zero, List.set_cons_succ]
    refine takeM (i := 1) (d := 21) (v := .pointer (some ⟨B, 0, none⟩)) rfl rfl (by kernel_rfl) (by kernel_rfl) (by kernel_rfl) (fun _ _ _ h => h) (Or.inl ⟨by rfl, ?_⟩) (by assumption) ?_
    · intro X hSw
      obtain ⟨e1, e2, e3⟩ := HS3.out X hSw
      clear hSw
      go_simp
    simp only [Act.put, List.setIfInBounds_toArray, List.set_cons_zero, List.set_cons_succ]
    refine takeM (i := 2) (d := 22) (v := .pointer (some ⟨B, 2, none⟩)) rfl rfl (by kernel_rfl) (by kernel_rfl) (by kernel_rfl) (fun _ _ _ h => h) (Or.inl ⟨by rfl, ?_⟩) (by assumption) ?_
    · intro X hSw
      obtain ⟨e1, e2, e3⟩ := HS3.out X hSw
      clear hSw
      go_simp
    simp only [Act.put, List.setIfInBounds_toArray, List.set_cons_zero, List.set_cons_succ]
    refine takeM (i := 3) (d := 23) (v := .pointer (some ⟨tb, 0, none⟩)) rfl rfl (by kernel_rfl) (by kernel_rfl) (by kernel_rfl) (fun _ _ _ h => h) (Or.inl ⟨by rfl, ?_⟩) (by assumption) ?_
    · intro X hSw
      obtain ⟨e1, e2, e3⟩ := HS3.out X hSw
      clear hSw
      go_simp
    simp only [Act.put, List.setIfInBounds_toArray, List.set_cons_zero, List.set_cons_succ]
    refine takeM (i := 4) (d := 24) (v := .pointer (some ⟨bc, 1, none⟩)) rfl rfl (by kernel_rfl) (by kernel_rfl) (by kernel_rfl) (fun _ _ _ h => h) (Or.inl ⟨by rfl, ?_⟩) (by assumption) ?_
    · intro X hSw
      obtain ⟨e1, e2, e3⟩ := HS3.out X hSw
      clear hSw
      go_simp
    simp only [Act.put, List.setIfInBounds_toArray, List.set_cons_zero, List.set_cons_succ]
    refine takeM (i := 5) (d := 25) (v := .agg #[.int .i64 ca, .int .i64 cb]) rfl rfl (by kernel_rfl) (by kernel_rfl) (by kernel_rfl) (fun _ _ _ h => h) (Or.inl ⟨by rfl, ?_⟩) (by assumption) ?_
    · intro X hSw
      obtain ⟨e1, e2, e3⟩ := HS3.out X hSw
      clear hSw
      go_simp
    simp only [Act.put, List.setIfInBounds_toArray, List.set_cons_zero, List.set_cons_succ]
    refine wpAnyH_ready (rs := [6, 10]) (by kernel_rfl) (by simp) ?_
    refine AllReadyH.cons rfl (fun K hK => ?_) (AllReadyH.cons rfl (fun K hK => ?_) AllReadyH.nil)
    · go_simp
      go_wp2_with fail
      refine Calls.mono (HFi.out (w2.drew) (HB2.out.trans (Below.mono (below_drew w2) HB2.out.size))) ?_
      rintro e' w3 ⟨f0, f1, p', n', c', rfl, -, hb3⟩
      have HW3 : Hid (Below (w2.drew).heap.size (w2.drew) w3) := hb3
      have HW2 : Hid (Below w2.heap.size w2 w3) := ((below_drew w2)).trans (hb3.mono ((below_drew w2)).size)
      clear hb3
      go_wp2
      refine hK.out _ _ HW2.out (fun hHeld2 => ?_)
      clear hK K hHeld
      have hHeld := hHeld2
      clear hHeld2
      refine takeM (i := 7) (d := 19) (v := .tuple #[.agg #[.int .i64 f1, .int .i64 f0, .slice p' n' c'], .int .i64 3]) rfl rfl (by kernel_rfl) (by kernel_rfl) (by kernel_rfl) (fun _ _ _ h => h) (Or.inl ⟨by rfl, ?_⟩) (by assumption) ?_
      · intro X hSw
        obtain ⟨e1, e2, e3⟩ := HS3.out X hSw
        clear hSw
        go_simp
      simp only [Act.put, List.setIfInBounds_toArray, List.set_cons_zero, List.set_cons_succ]
      refine takeM (i := 8) (d := 27) (v := .agg #[.int .i64 f1, .int .i64 f0, .slice p' n' c']) rfl rfl (by kernel_rfl) (by kernel_rfl) (by kernel_rfl) (fun _ _ _ h => h) (Or.inl ⟨by rfl, ?_⟩) (by assumption) ?_
      · intro X hSw
        obtain ⟨e1, e2, e3⟩ := HS3.out X hSw
        clear hSw
        go_simp
      simp only [Act.put, List.setIfInBounds_toArray, List.set_cons_zero, List.set_cons_succ]
      refine takeM (i := 9) (d := 28) (v := .int .i64 3) rfl rfl (by kernel_rfl) (by kernel_rfl) (by kernel_rfl) (fun _ _ _ h => h) (Or.inl ⟨by rfl, ?_⟩) (by assumption) ?_
      · intro X hSw
        obtain ⟨e1, e2, e3⟩ := HS3.out X hSw
        clear hSw
        go_simp
      simp only [Act.put, List.setIfInBounds_toArray, List.set_cons_zero, List.set_cons_succ]
      refine wpAnyH_ready (rs := [10]) (by kernel_rfl) (by simp) ?_
      refine AllReadyH.cons rfl (fun K hK => ?_) AllReadyH.nil
      go_simp
      refine hK.out _ _ ((HW2.out).trans ((below_alloc w3 (.cells #[.int .i64 0, .int .i64 0, .slice none 0 0] 32)).mono HW2.out.size)) (fun hHeld2 => ?_)
      clear hK K hHeld
      have hHeld := hHeld2
      clear hHeld2
      refine wpAnyH_ready (rs := [11]) (by kernel_rfl) (by simp) ?_
      refine AllReadyH.cons rfl (fun K hK => ?_) AllReadyH.nil
      go_simp
      refine hK.out _ _ ((HW2.out).trans ((below_alloc w3 (.cells #[.int .i64 f1, .int .i64 f0, .slice p' n' c'] 32)).mono HW2.out.size)) (fun hHeld2 => ?_)
      clear hK K hHeld
      have hHeld := hHeld2
      clear hHeld2
      refine takeM (i := 12) (d := 6) (v := .int .i64 3) rfl rfl (by kernel_rfl) (by kernel_rfl) (by kernel_rfl) (fun _ _ _ h => h) (Or.inl ⟨by rfl, ?_⟩) (by assumption) ?_
      · intro X hSw
        obtain ⟨e1, e2, e3⟩ := HS3.out X hSw
        clear hSw
        go_simp
      simp only [Act.put, List.setIfInBounds_toArray, List.set_cons_zero, List.set_cons_succ]
      refine wpAnyH_done (by kernel_rfl) ?_ _
      clear hHeld
      have HFin : Hid (Below u.heap.size u _) := HB2.out.trans (Below.mono (((HW2.out).trans ((below_alloc w3 (.cells #[.int .i64 f1, .int .i64 f0, .slice p' n' c'] 32)).mono HW2.out.size))) HB2.out.size)
      go_wp2_with fail
      go_meet
      exact ⟨rfl, rfl, HFin.out⟩
    · go_simp
      refine hK.out _ _ (((below_drew w2)).trans ((below_alloc w2.drew (.cells #[.int .i64 0, .int .i64 0, .slice none 0 0] 32)).mono (Nat.le_refl _))) (fun hHeld2 => ?_)
      clear hK K hHeld
      have hHeld := hHeld2
      clear hHeld2
      refine wpAnyH_ready (rs := [6]) (by kernel_rfl) (by simp) ?_
      refine AllReadyH.cons rfl (fun K hK => ?_) AllReadyH.nil
      go_simp
      go_wp2_with fail
      refine Calls.mono (HFi.out (w2.drew.alloc (.cells #[.int .i64 0, .int .i64 0, .slice none 0 0] 32)) (HB2.out.trans (Below.mono (((below_drew w2)).trans ((below_alloc w2.drew (.cells #[.int .i64 0, .int .i64 0, .slice none 0 0] 32)).mono (Nat.le_refl _))) HB2.out.size))) ?_
      rintro e' w3 ⟨f0, f1, p', n', c', rfl, -, hb3⟩
      have HW3 : Hid (Below (w2.drew.alloc (.cells #[.int .i64 0, .int .i64 0, .slice none 0 0] 32)).heap.size (w2.drew.alloc (.cells #[.int .i64 0, .int .i64 0, .slice none 0 0] 32)) w3) := hb3
      have HW2 : Hid (Below w2.heap.size w2 w3) := ((((below_drew w2)).trans ((below_alloc w2.drew (.cells #[.int .i64 0, .int .i64 0, .slice none 0 0] 32)).mono (Nat.le_refl _)))).trans (hb3.mono ((((below_drew w2)).trans ((below_alloc w2.drew (.cells #[.int .i64 0, .int .i64 0, .slice none 0 0] 32)).mono (Nat.le_refl _)))).size)
      clear hb3
      go_wp2
      refine hK.out _ _ HW2.out (fun hHeld2 => ?_)
      clear hK K hHeld
      have hHeld := hHeld2
      clear hHeld2
      refine takeM (i := 7) (d := 19) (v := .tuple #[.agg #[.int .i64 f1, .int .i64 f0, .slice p' n' c'], .int .i64 3]) rfl rfl (by kernel_rfl) (by kernel_rfl) (by kernel_rfl) (fun _ _ _ h => h) (Or.inl ⟨by rfl, ?_⟩) (by assumption) ?_
      · intro X hSw
        obtain ⟨e1, e2, e3⟩ := HS3.out X hSw
        clear hSw
        go_simp
      simp only [Act.put, List.setIfInBounds_toArray, List.set_cons_zero, List.set_cons_succ]
      refine takeM (i := 8) (d := 27) (v := .agg #[.int .i64 f1, .int .i64 f0, .slice p' n' c']) rfl rfl (by kernel_rfl) (by kernel_rfl) (by kernel_rfl) (fun _ _ _ h => h) (Or.inl ⟨by rfl, ?_⟩) (by assumption) ?_
      · intro X hSw
        obtain ⟨e1, e2, e3⟩ := HS3.out X hSw
        clear hSw
        go_simp
      simp only [Act.put, List.setIfInBounds_toArray, List.set_cons_zero, List.set_cons_succ]
      refine takeM (i := 9) (d := 28) (v := .int .i64 3) rfl rfl (by kernel_rfl) (by kernel_rfl) (by kernel_rfl) (fun _ _ _ h => h) (Or.inl ⟨by rfl, ?_⟩) (by assumption) ?_
      · intro X hSw
        obtain ⟨e1, e2, e3⟩ := HS3.out X hSw
        clear hSw
        go_simp
      simp only [Act.put, List.setIfInBounds_toArray, List.set_cons_zero, List.set_cons_succ]
      have hlt : w2.heap.size < (w2.drew.alloc (.cells #[.int .i64 0, .int .i64 0, .slice none 0 0] 32)).heap.size := by simp
      have hc3 : ∀ j, w3.cell? ⟨w2.heap.size, j, none⟩ = (#[.int .i64 0, .int .i64 0, .slice none 0 0] : Array Value)[j]? := fun j => (HW3.out.cell (p := ⟨w2.heap.size, j, none⟩) hlt).trans (World.cell?_alloc_mark w2.drew _ _ _ j)
      have hf3 : ∀ j, w3.frozen? ⟨w2.heap.size, j, none⟩ = false := fun j => (HW3.out.frozen (p := ⟨w2.heap.size, j, none⟩) hlt).trans ((World.frozen?_alloc_mark w2.drew _ _ _ _ j).trans (by simp))
      have v0 := hc3 0
      have v1 := hc3 1
      have v2 := hc3 2
      have g0 := hf3 0
      have g1 := hf3 1
      have g2 := hf3 2
      clear hc3 hf3 hlt
      simp at v0 v1 v2
      refine wpAnyH_ready (rs := [11]) (by kernel_rfl) (by simp) ?_
      refine AllReadyH.cons rfl (fun K hK => ?_) AllReadyH.nil
      go_simp
      refine hK.out _ _ ((Below.setCell (Below.setCell (Below.setCell HW2.out (p := ⟨w2.heap.size, 0, none⟩) (Nat.le_refl _) (.int .i64 f1)) (p := ⟨w2.heap.size, 1, none⟩) (Nat.le_refl _) (.int .i64 f0)) (p := ⟨w2.heap.size, 2, none⟩) (Nat.le_refl _) (.slice p' n' c'))) (fun hHeld2 => ?_)
      clear hK K hHeld
      have hHeld := hHeld2
      clear hHeld2
      refine takeM (i := 12) (d := 6) (v := .int .i64 3) rfl rfl (by kernel_rfl) (by kernel_rfl) (by kernel_rfl) (fun _ _ _ h => h) (Or.inl ⟨by rfl, ?_⟩) (by assumption) ?_
      · intro X hSw
        obtain ⟨e1, e2, e3⟩ := HS3.out X hSw
        clear hSw
        go_simp
      simp only [Act.put, List.setIfInBounds_toArray, List.set_cons_zero, List.set_cons_succ]
      clear v0 v1 v2 g0 g1 g2
      refine wpAnyH_done (by kernel_rfl) ?_ _
      clear hHeld
      have HFin : Hid (Below u.heap.size u _) := HB2.out.trans (Below.mono (((Below.setCell (Below.setCell (Below.setCell HW2.out (p := ⟨w2.heap.size, 0, none⟩) (Nat.le_refl _) (.int .i64 f1)) (p := ⟨w2.heap.size, 1, none⟩) (Nat.le_refl _) (.int .i64 f0)) (p := ⟨w2.heap.size, 2, none⟩) (Nat.le_refl _) (.slice p' n' c')))) HB2.out.size)
      go_wp2_with fail
      go_meet
      exact ⟨rfl, rfl, HFin.out⟩
  case rest =>
    clear HS3
    obtain ⟨rfl, rfl, HX⟩ := hcut
    have HB3 : Hid (Below u.heap.size u wc) := HX
    have HRw : Hid _ := HRf.out wc HB3.out
    obtain ⟨e1, e2, e3, e4, e5, e6, e7, e8, e9, e10, e11⟩ := HCL.out wc (KeptQ.ofBelow HB3.out)
    go_wp2_with fail
    refine Calls.mono HRw.out ?_
    rintro e w4 ⟨rfl, hb4⟩
    have HX : Hid (AftT who u w4 B q (n + 1) who) := AftT.same (Mt.mono HH.out (Nat.le_succ n)) hb4
    have kr : (r != 0) = true := by simpa using hr
    clear hb4 e1 e2 e3 e4 e5 e6 e7 e8 e9 e10 e11
    go_wp2_with fail
    refine Calls.mono (answerQ_c r _) ?_
    rintro e wA ⟨rfl, hbA⟩
    have HA : Hid (AftT who u wA B _ _ _) := AftT.on HX.out hbA
    clear hbA
    obtain ⟨⟨r0, r1, r2⟩, g0, g1, g2⟩ := HBc.out.r wA HA.out.2.2
    obtain ⟨F, hF⟩ : ∃ F, F = putS wA br [.int .i64 r, .int .i64 0, .slice none 0 0] := ⟨_, rfl⟩
    have hx3 := HBc.out.told HA.out.2.2 (.int .i64 r) (.int .i64 0) (.slice none 0 0)
    rw [← hF] at hx3
    obtain ⟨x0, x1, x2⟩ := hx3
    have HR : Hid (AftT who w (putS wA br _) B _ _ _) := AftT.fin HA.out HBc.out [.int .i64 r, .int .i64 0, .slice none 0 0]
    rw [← hF] at HR
    have hFe : F = ((wA.setCell ⟨br, 0, none⟩ (.int .i64 r)).setCell ⟨br, 1, none⟩ (.int .i64 0)).setCell ⟨br, 2, none⟩ (.slice none 0 0) := hF
    have HFe : Hid _ := hFe
    clear hF hFe
    go_wp2
    rw [← HFe.out]
    refine bodyPost_ret (v := .agg #[.int .i64 r, .int .i64 0, .slice none 0 0]) ?qres rfl ?qpost
    case qres => simp [results, Try.results21, go_sem, x0, x1, x2]
    case qpost => exact ⟨_, rfl, HR.out⟩
end Go.Proofs.Ytepbmfjimppgcaa
