/-
  begin, where a transaction begins to wait.
-/
import Derived.Test.YtepbmfjimppgcaaMeApp
import Derived.Test.YtepbmfjimppgcaaMePlan
import Derived.Deep.CutRange
namespace Go.Proofs.Ytepbmfjimppgcaa
open Go.RowKit

/-- A map that is new, and empty. -/
structure MapIn (u : World) (b : Nat) (X : World) : Prop where
  is : X.heap[b]? = some (.map #[] 0)
  lo : u.heap.size ≤ b
theorem MapIn.lt {u X : World} {b : Nat} (h : MapIn u b X) : b < X.heap.size := (Array.getElem?_eq_some_iff.1 h.is).1
theorem MapIn.below {u X Y : World} {b : Nat} (h : MapIn u b X) (hb : Below X.heap.size X Y) : MapIn u b Y := ⟨(hb.block b h.lt).trans h.is, h.lo⟩
theorem MapIn.new {u X : World} (h : Below u.heap.size u X) : MapIn u X.heap.size (X.alloc (.map #[] 0)) := ⟨(MapKept.heap_alloc X _).1, h.size⟩

set_option maxHeartbeats 40000000 in
set_option maxRecDepth 20000 in
theorem beginQ_yes {w : World} {B n : Nat} {q : Me.St} {who : Nat → Nat} (h : Mt w B q who n) (hn : n ≤ 1000000) (c : Me.Cd) (hop : OpOk c.op) (hsz : ∀ x : ByteArray, x = c.op.space ∨ x = c.op.channel ∨ x = c.op.user ∨ x = c.op.toSpace ∨ x = c.op.to → x.size ≤ 140737488351232) (hb : Me.begins q c.a c.b c.op) : Calls Try.prog 21 #[.pointer (some ⟨B, 0, none⟩), cmdV c] w (AnsT who w B (Me.begin q c.a c.b c.op) (n + 1) 120 ((q.ans + q.wait.length + 1 : Nat) : Int)) := by
  unfold cmdV
  obtain ⟨u0, hu0⟩ : ∃ u0, u0 = w.alloc (.cells (cmdL c).toArray 39) := ⟨_, rfl⟩
  obtain ⟨u, hu⟩ : ∃ u, u = u0.alloc (.cells #[.int .i64 0, .int .i64 0, .slice none 0 0] 32) := ⟨_, rfl⟩
  obtain ⟨bc, hbc⟩ : ∃ bc, bc = w.heap.size := ⟨_, rfl⟩
  obtain ⟨br, hbr⟩ : ∃ br, br = w.heap.size + 1 := ⟨_, rfl⟩
  have hB : Bc w u bc br who (cmdL c) := by rw [hbc, hbr]; exact Bc.of h.here _ hu0 hu
  have HBc : Hid _ := hB
  have hh : Mt u B q who n := h.below hB.old
  obtain ⟨hb1, hb2, hb3, hb4⟩ := hb
  have hidm : Se.may c.a c.b = true := by
    cases hm : Se.may c.a c.b with
    | true => rfl
    | false =>
      unfold Se.find at hb3
      rw [hm] at hb3
      simp at hb3
  have HOk2 : Hid (Me.TxOk (Me.fresh c.a c.b c.op)) := ⟨hb1, hb2, hop, hidm, List.Pairwise.nil, List.Pairwise.nil, fun p hp => (List.not_mem_nil hp).elim, fun p hp => (List.not_mem_nil hp).elim, by show (Me.e0).size ≤ _; exact Nat.zero_le _⟩
  obtain ⟨ck, ca, cb, ⟨k0, o1, o2, o3, o4, o5, o6, k7, k8⟩, ctx, cpl, csl, cep, cgr, cok, cer, cda⟩ := c
  dsimp only at *
  have HCL : Hid (∀ X, KeptQ who u X → X.cell? ⟨bc, 1, none⟩ = some (.int .i64 ca) ∧ X.cell? ⟨bc, 2, none⟩ = some (.int .i64 cb) ∧ X.cell? ⟨bc, 3, none⟩ = some (.int .i64 k0) ∧ X.cell? ⟨bc, 4, none⟩ = some (.string o1) ∧ X.cell? ⟨bc, 5, none⟩ = some (.string o2) ∧ X.cell? ⟨bc, 6, none⟩ = some (.string o3) ∧ X.cell? ⟨bc, 7, none⟩ = some (.string o4) ∧ X.cell? ⟨bc, 8, none⟩ = some (.string o5) ∧ X.cell? ⟨bc, 9, none⟩ = some (.string o6) ∧ X.cell? ⟨bc, 10, none⟩ = some (.int .i64 k7) ∧ X.cell? ⟨bc, 11, none⟩ = some (.int .i64 k8)) := fun X hX => ⟨hB.c X hX 1 _ rfl, hB.c X hX 2 _ rfl, hB.c X hX 3 _ rfl, hB.c X hX 4 _ rfl, hB.c X hX 5 _ rfl, hB.c X hX 6 _ rfl, hB.c X hX 7 _ rfl, hB.c X hX 8 _ rfl, hB.c X hX 9 _ rfl, hB.c X hX 10 _ rfl, hB.c X hX 11 _ rfl⟩
  have HCk : Hid (∀ X, Calls Try.prog 33 #[.agg #[.int .i64 k0, .string o1, .string o2, .string o3, .string o4, .string o5, .string o6, .int .i64 k7, .int .i64 k8]] X fun e w' => e = .returned (.int .i64 0) ∧ Below X.heap.size X w') := fun X => by
    have := Check_c ⟨k0, o1, o2, o3, o4, o5, o6, k7, k8⟩ hop X
    rw [hb1, if_pos rfl] at this
    exact this
  have HMy : Hid (∀ X, Calls Try.prog 34 #[.agg #[.int .i64 k0, .string o1, .string o2, .string o3, .string o4, .string o5, .string o6, .int .i64 k7, .int .i64 k8]] X fun e w' => e = .returned (.bool true) ∧ Below X.heap.size X w') := fun X => by
    have := isOfMany_c ⟨k0, o1, o2, o3, o4, o5, o6, k7, k8⟩ X
    rw [hb2] at this
    exact this
  have HKo : Hid (∀ X, Calls Try.prog 37 #[.agg #[.int .i64 k0, .string o1, .string o2, .string o3, .string o4, .string o5, .string o6, .int .i64 k7, .int .i64 k8]] X fun e w' => e = .returned (.agg #[.int .i64 k0, .string o1, .string o2, .string o3, .string o4, .string o5, .string o6, .int .i64 k7, .int .i64 k8]) ∧ Below X.heap.size X w') := fun X => keptOp_c ⟨k0, o1, o2, o3, o4, o5, o6, k7, k8⟩ hsz X
  have HH : Hid (Mt u B q who n) := hh
  have HRf : Hid (∀ X, Below u.heap.size u X → Calls Try.prog 36 #[.pointer (some ⟨B, 0, none⟩), .agg #[.int .i64 ca, .int .i64 cb]] X fun e w' => e = .returned (.int .i64 0) ∧ Below u.heap.size u w') := fun X hX => by
    have := refuses_c (Mt.below HH.out hX) hn ca cb
    rw [hb4] at this
    refine this.mono ?_
    rintro e w' ⟨rfl, hbb⟩
    exact ⟨rfl, hX.trans (hbb.mono hX.size)⟩
  obtain ⟨h0, ob, tb, tm, wv, vb, eb, hq⟩ := hh
  obtain ⟨pp, cc, hwv, _, _⟩ := hq.r.row.form
  obtain ⟨m, hm⟩ : ∃ m, m = q.wait.length := ⟨_, rfl⟩
  have HM : Hid (m = q.wait.length) := hm
  have hmn : m ≤ 1000000 := by have := h0.few; omega
  have han : q.ans ≤ 1000000 := by have := h0.ans; omega
  rw [← hm] at hwv
  subst hwv
  have HQ : Hid (Me.Ok n q ∧ Mq u B q who ob tb tm (.slice pp m cc) vb eb) := ⟨h0, hq⟩
  have HQ4 : Hid (∀ X, Below u.heap.size u X → X.cell? ⟨B, 2, none⟩ = some (.pointer (some ⟨tb, 0, none⟩)) ∧ X.cell? ⟨B, 4, none⟩ = some (.slice pp m cc)) := fun X hX => by
    have hbq := hq.below h0.np hX
    exact ⟨hbq.b.c2, hbq.b.c4⟩
  have HFi : Hid (∀ X, Below u.heap.size u X → Calls Try.prog 35 #[.pointer (some ⟨tb, 0, none⟩), .agg #[.int .i64 ca, .int .i64 cb]] X fun e w' => ∃ f0 f1 p' n' c', e = .returned (.tuple #[.agg #[.int .i64 f1, .int .i64 f0, .slice p' n' c'], .int .i64 3]) ∧ Below u.heap.size u w' ∧ Below X.heap.size X w') := fun X hX => by
    refine (Find_c (hq.below h0.np hX).r.tab ca cb).mono ?_
    rintro e' w' ⟨pv, rfl, hrow, _, hbb⟩
    obtain ⟨p', c', hpv, _, _⟩ := hrow.form
    exact ⟨_, _, p', _, c', by rw [hpv, hb3], hX.trans (hbb.mono hX.size), hbb⟩
  have HE : Hid (((q.ans + q.wait.length + 1 : Nat) : Int) = (q.ans : Int) + ((m + 1 : Nat) : Int)) := by
    show ((q.ans + q.wait.length + 1 : Nat) : Int) = _
    rw [hm]; push_cast; omega
  rw [HE.out]
  have hmm := @run_makeMap Try.prog
  clear h0 hq hB hb1 hb2 hb3 hb4 hop hsz hidm hm hn h HE
  obtain ⟨e1, e2, e3, e4, e5, e6, e7, e8, e9, e10, e11⟩ := HCL.out u (KeptQ.refl _ _)
  have hs0 : u0.heap.size = br := by rw [hu0, hbr]; simp
  go_enter Try.func21, Try.ntmps21
  go_upto_region 1 with fail
  try rw [← hu0]
  try rw [← hu]
  try rw [hs0]
  try rw [← hbr]
  try rw [← hbc]
  clear hu hu0 hbc hbr hs0
  go_wp2_with fail
  refine Calls.mono (HCk.out u) ?_
  rintro e w1 ⟨rfl, hb1⟩
  have HB1 : Hid (Below u.heap.size u w1) := hb1
  clear hb1 e1 e2 e3 e4 e5 e6 e7 e8 e9 e10 e11
  obtain ⟨e1, e2, e3, e4, e5, e6, e7, e8, e9, e10, e11⟩ := HCL.out w1 (KeptQ.ofBelow HB1.out)
  go_wp2_with fail
  refine Calls.mono (HMy.out w1) ?_
  rintro e w2 ⟨rfl, hb2⟩
  have HB2 : Hid (Below u.heap.size u w2) := HB1.out.trans (hb2.mono HB1.out.size)
  clear hb2 e1 e2 e3 e4 e5 e6 e7 e8 e9 e10 e11
  go_upto_region 3 with fail
  go_simp
  have HS3 : Hid (∀ X, Below w2.heap.size w2 X → X.cell? ⟨B, 2, none⟩ = some (.pointer (some ⟨tb, 0, none⟩)) ∧ X.cell? ⟨bc, 1, none⟩ = some (.int .i64 ca) ∧ X.cell? ⟨bc, 2, none⟩ = some (.int .i64 cb)) := fun X hX => by
    have hb := HB2.out.trans (hX.mono HB2.out.size)
    have := HCL.out X (KeptQ.ofBelow hb)
    exact ⟨(HQ4.out X hb).1, this.1, this.2.1⟩
  go_cut [4, 6] from 19 to 28 (fun x y wx => x = .pointer (some ⟨br, 0, none⟩) ∧ y = .int .i64 3 ∧ Hid (Below u.heap.size u wx))
  case first =>
    refine wp_region_held_drew (S := fun X => Below w2.heap.size w2 X) (by kernel_rfl) (below_drew w2) (fun hHeld => ?_)
    refine takeM (i := 0) (d := 20) (v := .pointer (some ⟨B, 0, none⟩)) rfl rfl (by kernel_rfl) (by kernel_rfl) (by kernel_rfl) (fun _ _ _ h => h) (Or.inl ⟨by rfl, ?_⟩) (by assumption) ?_
    · intro X hSw
      obtain ⟨e1, e2, e3⟩ := HS3.out X hSw
      clear hSw
      go_simp
    simp only [Act.put, List.setIfInBounds_toArray, List.set_cons_zero, List.set_cons_succ]
    refine takeM (i := 1) (d := 21) (v := .pointer (some ⟨B, 0, none⟩)) rfl rfl (by kernel_rfl) (by kernel_rfl) (by kernel_rfl) (fun _ _ _ h => h) (Or.inl ⟨by rfl, ?_⟩) (by assumption) ?_
    · intro X hSw
      obtain ⟨e1, e2, e3⟩ := HS3.out X hSw
      clear hSw
      go_simp
    simp only [Act.put, List.setIfInBounds_toArray, List.set_cons_zero, List.set_cons_succ]
    refine takeM (i := 2) (d := 22) (v := .pointer (some ⟨B, 2, none⟩)) rfl rfl (by kernel_rfl) (by kernel_rfl) (by kernel_rfl) (fun _ _ _ h => h) (Or.inl ⟨by rfl, ?_⟩) (by assumption) ?_
    · intro X hSw
      obtain ⟨e1, e2, e3⟩ := HS3.out X hSw
      clear hSw
      go_simp
    simp only [Act.put, List.setIfInBounds_toArray, List.set_cons_zero, List.set_cons_succ]
    refine takeM (i := 3) (d := 23) (v := .pointer (some ⟨tb, 0, none⟩)) rfl rfl (by kernel_rfl) (by kernel_rfl) (by kernel_rfl) (fun _ _ _ h => h) (Or.inl ⟨by rfl, ?_⟩) (by assumption) ?_
    · intro X hSw
      obtain ⟨e1, e2, e3⟩ := HS3.out X hSw
      clear hSw
      go_simp
    simp only [Act.put, List.setIfInBounds_toArray, List.set_cons_zero, List.set_cons_succ]
    refine takeM (i := 4) (d := 24) (v := .pointer (some ⟨bc, 1, none⟩)) rfl rfl (by kernel_rfl) (by kernel_rfl) (by kernel_rfl) (fun _ _ _ h => h) (Or.inl ⟨by rfl, ?_⟩) (by assumption) ?_
    · intro X hSw
      obtain ⟨e1, e2, e3⟩ := HS3.out X hSw
      clear hSw
      go_simp
    simp only [Act.put, List.setIfInBounds_toArray, List.set_cons_zero, List.set_cons_succ]
    refine takeM (i := 5) (d := 25) (v := .agg #[.int .i64 ca, .int .i64 cb]) rfl rfl (by kernel_rfl) (by kernel_rfl) (by kernel_rfl) (fun _ _ _ h => h) (Or.inl ⟨by rfl, ?_⟩) (by assumption) ?_
    · intro X hSw
      obtain ⟨e1, e2, e3⟩ := HS3.out X hSw
      clear hSw
      go_simp
    simp only [Act.put, List.setIfInBounds_toArray, List.set_cons_zero, List.set_cons_succ]
    refine wpAnyH_ready (rs := [6, 10]) (by kernel_rfl) (by simp) ?_
    refine AllReadyH.cons rfl (fun K hK => ?_) (AllReadyH.cons rfl (fun K hK => ?_) AllReadyH.nil)
    · go_simp
      go_wp2_with fail
      refine Calls.mono (HFi.out (w2.drew) (HB2.out.trans (Below.mono (below_drew w2) HB2.out.size))) ?_
      rintro e' w3 ⟨f0, f1, p', n', c', rfl, -, hb3⟩
      have HW3 : Hid (Below (w2.drew).heap.size (w2.drew) w3) := hb3
      have HW2 : Hid (Below w2.heap.size w2 w3) := ((below_drew w2)).trans (hb3.mono ((below_drew w2)).size)
      clear hb3
      go_wp2
      refine hK.out _ _ HW2.out (fun hHeld2 => ?_)
      clear hK K hHeld
      have hHeld := hHeld2
      clear hHeld2
      refine takeM (i := 7) (d := 19) (v := .tuple #[.agg #[.int .i64 f1, .int .i64 f0, .slice p' n' c'], .int .i64 3]) rfl rfl (by kernel_rfl) (by kernel_rfl) (by kernel_rfl) (fun _ _ _ h => h) (Or.inl ⟨by rfl, ?_⟩) (by assumption) ?_
      · intro X hSw
        obtain ⟨e1, e2, e3⟩ := HS3.out X hSw
        clear hSw
        go_simp
      simp only [Act.put, List.setIfInBounds_toArray, List.set_cons_zero, List.set_cons_succ]
      refine takeM (i := 8) (d := 27) (v := .agg #[.int .i64 f1, .int .i64 f0, .slice p' n' c']) rfl rfl (by kernel_rfl) (by kernel_rfl) (by kernel_rfl) (fun _ _ _ h => h) (Or.inl ⟨by rfl, ?_⟩) (by assumption) ?_
      · intro X hSw
        obtain ⟨e1, e2, e3⟩ := HS3.out X hSw
        clear hSw
        go_simp
      simp only [Act.put, List.setIfInBounds_toArray, List.set_cons_zero, List.set_cons_succ]
      refine takeM (i := 9) (d := 28) (v := .int .i64 3) rfl rfl (by kernel_rfl) (by kernel_rfl) (by kernel_rfl) (fun _ _ _ h => h) (Or.inl ⟨by rfl, ?_⟩) (by assumption) ?_
      · intro X hSw
        obtain ⟨e1, e2, e3⟩ := HS3.out X hSw
        clear hSw
        go_simp
      simp only [Act.put, List.setIfInBounds_toArray, List.set_cons_zero, List.set_cons_succ]
      refine wpAnyH_ready (rs := [10]) (by kernel_rfl) (by simp) ?_
      refine AllReadyH.cons rfl (fun K hK => ?_) AllReadyH.nil
      go_simp
      refine hK.out _ _ ((HW2.out).trans ((below_alloc w3 (.cells #[.int .i64 0, .int .i64 0, .slice none 0 0] 32)).mono HW2.out.size)) (fun hHeld2 => ?_)
      clear hK K hHeld
      have hHeld := hHeld2
      clear hHeld2
      refine wpAnyH_ready (rs := [11]) (by kernel_rfl) (by simp) ?_
      refine AllReadyH.cons rfl (fun K hK => ?_) AllReadyH.nil
      go_simp
      refine hK.out _ _ ((HW2.out).trans ((below_alloc w3 (.cells #[.int .i64 f1, .int .i64 f0, .slice p' n' c'] 32)).mono HW2.out.size)) (fun hHeld2 => ?_)
      clear hK K hHeld
      have hHeld := hHeld2
      clear hHeld2
      refine takeM (i := 12) (d := 6) (v := .int .i64 3) rfl rfl (by kernel_rfl) (by kernel_rfl) (by kernel_rfl) (fun _ _ _ h => h) (Or.inl ⟨by rfl, ?_⟩) (by assumption) ?_
      · intro X hSw
        obtain ⟨e1, e2, e3⟩ := HS3.out X hSw
        clear hSw
        go_simp
      simp only [Act.put, List.setIfInBounds_toArray, List.set_cons_zero, List.set_cons_succ]
      refine wpAnyH_done (by kernel_rfl) ?_ _
      clear hHeld
      have HFin : Hid (Below u.heap.size u _) := HB2.out.trans (Below.mono (((HW2.out).trans ((below_alloc w3 (.cells #[.int .i64 f1, .int .i64 f0, .slice p' n' c'] 32)).mono HW2.out.size))) HB2.out.size)
      go_wp2_with fail
      go_meet
      exact ⟨rfl, rfl, HFin.out⟩
    · go_simp
      refine hK.out _ _ (((below_drew w2)).trans ((below_alloc w2.drew (.cells #[.int .i64 0, .int .i64 0, .slice none 0 0] 32)).mono (Nat.le_refl _))) (fun hHeld2 => ?_)
      clear hK K hHeld
      have hHeld := hHeld2
      clear hHeld2
      refine wpAnyH_ready (rs := [6]) (by kernel_rfl) (by simp) ?_
      refine AllReadyH.cons rfl (fun K hK => ?_) AllReadyH.nil
      go_simp
      go_wp2_with fail
      refine Calls.mono (HFi.out (w2.drew.alloc (.cells #[.int .i64 0, .int .i64 0, .slice none 0 0] 32)) (HB2.out.trans (Below.mono (((below_drew w2)).trans ((below_alloc w2.drew (.cells #[.int .i64 0, .int .i64 0, .slice none 0 0] 32)).mono (Nat.le_refl _))) HB2.out.size))) ?_
      rintro e' w3 ⟨f0, f1, p', n', c', rfl, -, hb3⟩
      have HW3 : Hid (Below (w2.drew.alloc (.cells #[.int .i64 0, .int .i64 0, .slice none 0 0] 32)).heap.size (w2.drew.alloc (.cells #[.int .i64 0, .int .i64 0, .slice none 0 0] 32)) w3) := hb3
      have HW2 : Hid (Below w2.heap.size w2 w3) := ((((below_drew w2)).trans ((below_alloc w2.drew (.cells #[.int .i64 0, .int .i64 0, .slice none 0 0] 32)).mono (Nat.le_refl _)))).trans (hb3.mono ((((below_drew w2)).trans ((below_alloc w2.drew (.cells #[.int .i64 0, .int .i64 0, .slice none 0 0] 32)).mono (Nat.le_refl _)))).size)
      clear hb3
      go_wp2
      refine hK.out _ _ HW2.out (fun hHeld2 => ?_)
      clear hK K hHeld
      have hHeld := hHeld2
      clear hHeld2
      refine takeM (i := 7) (d := 19) (v := .tuple #[.agg #[.int .i64 f1, .int .i64 f0, .slice p' n' c'], .int .i64 3]) rfl rfl (by kernel_rfl) (by kernel_rfl) (by kernel_rfl) (fun _ _ _ h => h) (Or.inl ⟨by rfl, ?_⟩) (by assumption) ?_
      · intro X hSw
        obtain ⟨e1, e2, e3⟩ := HS3.out X hSw
        clear hSw
        go_simp
      simp only [Act.put, List.setIfInBounds_toArray, List.set_cons_zero, List.set_cons_succ]
      refine takeM (i := 8) (d := 27) (v := .agg #[.int .i64 f1, .int .i64 f0, .slice p' n' c']) rfl rfl (by kernel_rfl) (by kernel_rfl) (by kernel_rfl) (fun _ _ _ h => h) (Or.inl ⟨by rfl, ?_⟩) (by assumption) ?_
      · intro X hSw
        obtain ⟨e1, e2, e3⟩ := HS3.out X hSw
        clear hSw
        go_simp
      simp only [Act.put, List.setIfInBounds_toArray, List.set_cons_zero, List.set_cons_succ]
      refine takeM (i := 9) (d := 28) (v := .int .i64 3) rfl rfl (by kernel_rfl) (by kernel_rfl) (by kernel_rfl) (fun _ _ _ h => h) (Or.inl ⟨by rfl, ?_⟩) (by assumption) ?_
      · intro X hSw
        obtain ⟨e1, e2, e3⟩ := HS3.out X hSw
        clear hSw
        go_simp
      simp only [Act.put, List.setIfInBounds_toArray, List.set_cons_zero, List.set_cons_succ]
      have hlt : w2.heap.size < (w2.drew.alloc (.cells #[.int .i64 0, .int .i64 0, .slice none 0 0] 32)).heap.size := by simp
      have hc3 : ∀ j, w3.cell? ⟨w2.heap.size, j, none⟩ = (#[.int .i64 0, .int .i64 0, .slice none 0 0] : Array Value)[j]? := fun j => (HW3.out.cell (p := ⟨w2.heap.size, j, none⟩) hlt).trans (World.cell?_alloc_mark w2.drew _ _ _ j)
      have hf3 : ∀ j, w3.frozen? ⟨w2.heap.size, j, none⟩ = false := fun j => (HW3.out.frozen (p := ⟨w2.heap.size, j, none⟩) hlt).trans ((World.frozen?_alloc_mark w2.drew _ _ _ _ j).trans (by simp))
      have v0 := hc3 0
      have v1 := hc3 1
      have v2 := hc3 2
      have g0 := hf3 0
      have g1 := hf3 1
      have g2 := hf3 2
      clear hc3 hf3 hlt
      simp at v0 v1 v2
      refine wpAnyH_ready (rs := [11]) (by kernel_rfl) (by simp) ?_
      refine AllReadyH.cons rfl (fun K hK => ?_) AllReadyH.nil
      go_simp
      refine hK.out _ _ ((Below.setCell (Below.setCell (Below.setCell HW2.out (p := ⟨w2.heap.size, 0, none⟩) (Nat.le_refl _) (.int .i64 f1)) (p := ⟨w2.heap.size, 1, none⟩) (Nat.le_refl _) (.int .i64 f0)) (p := ⟨w2.heap.size, 2, none⟩) (Nat.le_refl _) (.slice p' n' c'))) (fun hHeld2 => ?_)
      clear hK K hHeld
      have hHeld := hHeld2
      clear hHeld2
      refine takeM (i := 12) (d := 6) (v := .int .i64 3) rfl rfl (by kernel_rfl) (by kernel_rfl) (by kernel_rfl) (fun _ _ _ h => h) (Or.inl ⟨by rfl, ?_⟩) (by assumption) ?_
      · intro X hSw
        obtain ⟨e1, e2, e3⟩ := HS3.out X hSw
        clear hSw
        go_simp
      simp only [Act.put, List.setIfInBounds_toArray, List.set_cons_zero, List.set_cons_succ]
      clear v0 v1 v2 g0 g1 g2
      refine wpAnyH_done (by kernel_rfl) ?_ _
      clear hHeld
      have HFin : Hid (Below u.heap.size u _) := HB2.out.trans (Below.mono (((Below.setCell (Below.setCell (Below.setCell HW2.out (p := ⟨w2.heap.size, 0, none⟩) (Nat.le_refl _) (.int .i64 f1)) (p := ⟨w2.heap.size, 1, none⟩) (Nat.le_refl _) (.int .i64 f0)) (p := ⟨w2.heap.size, 2, none⟩) (Nat.le_refl _) (.slice p' n' c')))) HB2.out.size)
      go_wp2_with fail
      go_meet
      exact ⟨rfl, rfl, HFin.out⟩
  case rest =>
    clear HS3
    obtain ⟨rfl, rfl, HX⟩ := hcut
    have HB3 : Hid (Below u.heap.size u wc) := HX
    have HRw : Hid _ := HRf.out wc HB3.out
    obtain ⟨e1, e2, e3, e4, e5, e6, e7, e8, e9, e10, e11⟩ := HCL.out wc (KeptQ.ofBelow HB3.out)
    go_wp2_with fail
    refine Calls.mono HRw.out ?_
    rintro e w4 ⟨rfl, hb4⟩
    have HB4 : Hid (Below u.heap.size u w4) := hb4
    clear hb4 e1 e2 e3 e4 e5 e6 e7 e8 e9 e10 e11
    go_upto_region 11 with fail
    go_simp
    go_cut [4] from 46 to 62 (fun x wx => x = .pointer (some ⟨br, 0, none⟩) ∧ ∃ who', Hid (AftT who u wx B (Me.begin q ca cb ⟨k0, o1, o2, o3, o4, o5, o6, k7, k8⟩) (n + 1) who'))
    case first =>
      refine wp_region_held_drew (S := fun X => KeptQ who u X) (by kernel_rfl) (KeptQ.ofBelow HB4.out.drew) (fun hHeld => ?_)
      refine takeM (i := 0) (d := 46) (v := .pointer (some ⟨B, 0, none⟩)) rfl rfl (by kernel_rfl) (by kernel_rfl) (by kernel_rfl) (fun _ _ _ h => h) (Or.inl ⟨by rfl, ?_⟩) (by assumption) ?_
      · intro X hSw
        obtain ⟨e1, e2, e3, e4, e5, e6, e7, e8, e9, e10, e11⟩ := HCL.out X hSw
        clear hSw
        go_simp
      simp only [Act.put, List.setIfInBounds_toArray, List.set_cons_zero, List.set_cons_succ]
      refine takeM (i := 1) (d := 47) (v := .pointer (some ⟨B, 0, none⟩)) rfl rfl (by kernel_rfl) (by kernel_rfl) (by kernel_rfl) (fun _ _ _ h => h) (Or.inl ⟨by rfl, ?_⟩) (by assumption) ?_
      · intro X hSw
        obtain ⟨e1, e2, e3, e4, e5, e6, e7, e8, e9, e10, e11⟩ := HCL.out X hSw
        clear hSw
        go_simp
      simp only [Act.put, List.setIfInBounds_toArray, List.set_cons_zero, List.set_cons_succ]
      refine takeM (i := 2) (d := 48) (v := .pointer (some ⟨B, 0, none⟩)) rfl rfl (by kernel_rfl) (by kernel_rfl) (by kernel_rfl) (fun _ _ _ h => h) (Or.inl ⟨by rfl, ?_⟩) (by assumption) ?_
      · intro X hSw
        obtain ⟨e1, e2, e3, e4, e5, e6, e7, e8, e9, e10, e11⟩ := HCL.out X hSw
        clear hSw
        go_simp
      simp only [Act.put, List.setIfInBounds_toArray, List.set_cons_zero, List.set_cons_succ]
      refine takeM (i := 3) (d := 49) (v := .pointer (some ⟨B, 4, none⟩)) rfl rfl (by kernel_rfl) (by kernel_rfl) (by kernel_rfl) (fun _ _ _ h => h) (Or.inl ⟨by rfl, ?_⟩) (by assumption) ?_
      · intro X hSw
        obtain ⟨e1, e2, e3, e4, e5, e6, e7, e8, e9, e10, e11⟩ := HCL.out X hSw
        clear hSw
        go_simp
      simp only [Act.put, List.setIfInBounds_toArray, List.set_cons_zero, List.set_cons_succ]
      refine takeM (i := 5) (d := 51) (v := .pointer (some ⟨bc, 1, none⟩)) rfl rfl (by kernel_rfl) (by kernel_rfl) (by kernel_rfl) (fun _ _ _ h => h) (Or.inl ⟨by rfl, ?_⟩) (by assumption) ?_
      · intro X hSw
        obtain ⟨e1, e2, e3, e4, e5, e6, e7, e8, e9, e10, e11⟩ := HCL.out X hSw
        clear hSw
        go_simp
      simp only [Act.put, List.setIfInBounds_toArray, List.set_cons_zero, List.set_cons_succ]
      refine takeM (i := 6) (d := 52) (v := .agg #[.int .i64 ca, .int .i64 cb]) rfl rfl (by kernel_rfl) (by kernel_rfl) (by kernel_rfl) (fun _ _ _ h => h) (Or.inl ⟨by rfl, ?_⟩) (by assumption) ?_
      · intro X hSw
        obtain ⟨e1, e2, e3, e4, e5, e6, e7, e8, e9, e10, e11⟩ := HCL.out X hSw
        clear hSw
        go_simp
      simp only [Act.put, List.setIfInBounds_toArray, List.set_cons_zero, List.set_cons_succ]
      refine takeM (i := 7) (d := 53) (v := .pointer (some ⟨bc, 3, none⟩)) rfl rfl (by kernel_rfl) (by kernel_rfl) (by kernel_rfl) (fun _ _ _ h => h) (Or.inl ⟨by rfl, ?_⟩) (by assumption) ?_
      · intro X hSw
        obtain ⟨e1, e2, e3, e4, e5, e6, e7, e8, e9, e10, e11⟩ := HCL.out X hSw
        clear hSw
        go_simp
      simp only [Act.put, List.setIfInBounds_toArray, List.set_cons_zero, List.set_cons_succ]
      refine takeM (i := 8) (d := 54) (v := .agg #[.int .i64 k0, .string o1, .string o2, .string o3, .string o4, .string o5, .string o6, .int .i64 k7, .int .i64 k8]) rfl rfl (by kernel_rfl) (by kernel_rfl) (by kernel_rfl) (fun _ _ _ h => h) (Or.inl ⟨by rfl, ?_⟩) (by assumption) ?_
      · intro X hSw
        obtain ⟨e1, e2, e3, e4, e5, e6, e7, e8, e9, e10, e11⟩ := HCL.out X hSw
        clear hSw
        go_simp
      simp only [Act.put, List.setIfInBounds_toArray, List.set_cons_zero, List.set_cons_succ]
      obtain ⟨w5, hw5⟩ : ∃ w5, w5 = w4.drew := ⟨_, rfl⟩
      have HBw5 : Hid (Below u.heap.size u w5) := by rw [hw5]; exact HB4.out.drew
      rw [← hw5]
      clear hw5
      refine wpAnyH_ready (rs := [4, 9, 10, 11]) (by kernel_rfl) (by simp) ?_
      refine AllReadyH.cons rfl (fun K hK => ?_) (AllReadyH.cons rfl (fun K hK => ?_) (AllReadyH.cons rfl (fun K hK => ?_) (AllReadyH.cons rfl (fun K hK => ?_) AllReadyH.nil)))
      · have y4 := (HQ4.out w5 HBw5.out).2
        go_simp
        refine hK.out _ _ (KeptQ.ofBelow (HBw5.out)) (fun hHeld2 => ?_)
        clear hK K hHeld
        have hHeld := hHeld2
        clear hHeld2
        clear y4
        refine wpAnyH_ready (rs := [9, 10, 11]) (by kernel_rfl) (by simp) ?_
        refine AllReadyH.cons rfl (fun K hK => ?_) (AllReadyH.cons rfl (fun K hK => ?_) (AllReadyH.cons rfl (fun K hK => ?_) AllReadyH.nil))
        · go_simp
          go_wp2_with fail
          refine Calls.mono (HKo.out w5) ?_
          rintro e' W1 ⟨rfl, hbn⟩
          have HBW1 : Hid (Below u.heap.size u W1) := Below.trans HBw5.out (Below.mono hbn (Below.size HBw5.out))
          clear hbn
          go_wp2
          refine hK.out _ _ (KeptQ.ofBelow (HBW1.out)) (fun hHeld2 => ?_)
          clear hK K hHeld
          have hHeld := hHeld2
          clear hHeld2
          refine wpAnyH_ready (rs := [10, 11]) (by kernel_rfl) (by simp) ?_
          refine AllReadyH.cons rfl (fun K hK => ?_) (AllReadyH.cons rfl (fun K hK => ?_) AllReadyH.nil)
          · go_simp
            obtain ⟨W2, hW2⟩ : ∃ W2, W2 = World.alloc W1 (.map #[] 0) := ⟨_, rfl⟩
            obtain ⟨bv, hbv⟩ : ∃ bv, bv = W1.heap.size := ⟨_, rfl⟩
            have hbn : Below W1.heap.size W1 W2 := by rw [hW2]; exact below_alloc _ _
            have HBW2 : Hid (Below u.heap.size u W2) := Below.trans HBW1.out (Below.mono hbn (Below.size HBW1.out))
            have HMW2v : Hid (MapIn u bv W2) := by rw [hbv, hW2]; exact MapIn.new HBW1.out
            rw [← hW2, ← hbv]
            clear hW2 hbv hbn
            refine hK.out _ _ (KeptQ.ofBelow (HBW2.out)) (fun hHeld2 => ?_)
            clear hK K hHeld
            have hHeld := hHeld2
            clear hHeld2
            refine wpAnyH_ready (rs := [11]) (by kernel_rfl) (by simp) ?_
            refine AllReadyH.cons rfl (fun K hK => ?_) AllReadyH.nil
            go_simp
            obtain ⟨W3, hW3⟩ : ∃ W3, W3 = World.alloc W2 (.map #[] 0) := ⟨_, rfl⟩
            obtain ⟨be, hbe⟩ : ∃ be, be = W2.heap.size := ⟨_, rfl⟩
            have hbn : Below W2.heap.size W2 W3 := by rw [hW3]; exact below_alloc _ _
            have HBW3 : Hid (Below u.heap.size u W3) := Below.trans HBW2.out (Below.mono hbn (Below.size HBW2.out))
            have HMW3e : Hid (MapIn u be W3) := by rw [hbe, hW3]; exact MapIn.new HBW2.out
            have HMW3v : Hid (MapIn u bv W3) := MapIn.below HMW2v.out hbn
            have HNe : Hid (bv ≠ be) := by have := MapIn.lt HMW2v.out; show bv ≠ be; omega
            rw [← hW3, ← hbe]
            clear hW3 hbe hbn
            refine hK.out _ _ (KeptQ.ofBelow (HBW3.out)) (fun hHeld2 => ?_)
            clear hK K hHeld
            have hHeld := hHeld2
            clear hHeld2
            refine takeM (i := 12) (d := 58) (v := .agg #[.int .i64 ca, .int .i64 cb, .int .i64 k0, .string o1, .string o2, .string o3, .string o4, .string o5, .string o6, .int .i64 k7, .int .i64 k8, .map (some bv), .map (some be), .string ⟨#[]⟩]) rfl rfl (by kernel_rfl) (by kernel_rfl) (by kernel_rfl) (fun _ _ _ h => h) (Or.inl ⟨by rfl, ?_⟩) (by assumption) ?_
            · intro X hSw
              obtain ⟨e1, e2, e3, e4, e5, e6, e7, e8, e9, e10, e11⟩ := HCL.out X hSw
              clear hSw
              go_simp
            simp only [Act.put, List.setIfInBounds_toArray, List.set_cons_zero, List.set_cons_succ]
            refine wpAnyH_ready (rs := [13]) (by kernel_rfl) (by simp) ?_
            refine AllReadyH.cons rfl (fun K hK => ?_) AllReadyH.nil
            go_simp
            obtain ⟨W4, hW4⟩ : ∃ W4, W4 = World.alloc W3 (.cells #[.int .i64 ca, .int .i64 cb, .int .i64 k0, .string o1, .string o2, .string o3, .string o4, .string o5, .string o6, .int .i64 k7, .int .i64 k8, .map (some bv), .map (some be), .string ⟨#[]⟩] 70) := ⟨_, rfl⟩
            obtain ⟨bs, hbs⟩ : ∃ bs, bs = W3.heap.size := ⟨_, rfl⟩
            have hbn : Below W3.heap.size W3 W4 := by rw [hW4]; exact below_alloc _ _
            have HBW4 : Hid (Below u.heap.size u W4) := Below.trans HBW3.out (Below.mono hbn (Below.size HBW3.out))
            have HMW4v : Hid (MapIn u bv W4) := MapIn.below HMW3v.out hbn
            have HMW4e : Hid (MapIn u be W4) := MapIn.below HMW3e.out hbn
            have HSr : Hid (∀ (j : Nat) x, ([.int .i64 ca, .int .i64 cb, .int .i64 k0, .string o1, .string o2, .string o3, .string o4, .string o5, .string o6, .int .i64 k7, .int .i64 k8, .map (some bv), .map (some be), .string ⟨#[]⟩] : List Value)[j]? = some x → W4.cell? ⟨bs, j, none⟩ = some x) := fun j x hx => by rw [hW4, hbs, World.cell?_alloc_mark]; simpa using hx
            have HSl : Hid (bs < W4.heap.size) := by show bs < _; rw [hW4, hbs]; simp
            rw [← hW4, ← hbs]
            clear hW4 hbs hbn
            refine hK.out _ _ (KeptQ.ofBelow (HBW4.out)) (fun hHeld2 => ?_)
            clear hK K hHeld
            have hHeld := hHeld2
            clear hHeld2
            have HRow : Hid (RowC W4 14 (.slice pp m cc) m (txsC vb eb (q.ans + 1) q.wait)) := by
              have := (HQ.out.2.below HQ.out.1.np HBW4.out).r.row
              rw [← HM.out] at this
              exact this
            have HSrc : Hid (Src Try.prog 14 63 (.slice (some ⟨bs, 0, none⟩) 1 1) 1 [.int .i64 ca, .int .i64 cb, .int .i64 k0, .string o1, .string o2, .string o3, .string o4, .string o5, .string o6, .int .i64 k7, .int .i64 k8, .map (some bv), .map (some be), .string ⟨#[]⟩] W4) := src_tx W4 [.int .i64 ca, .int .i64 cb, .int .i64 k0, .string o1, .string o2, .string o3, .string o4, .string o5, .string o6, .int .i64 k7, .int .i64 k8, .map (some bv), .map (some be), .string ⟨#[]⟩] HSr.out rfl (txC_one (Me.fresh ca cb ⟨k0, o1, o2, o3, o4, o5, o6, k7, k8⟩) bv be)
            refine wpAnyH_ready (rs := [14]) (by kernel_rfl) (by simp) ?_
            refine AllReadyH.cons rfl (fun K hK => ?_) AllReadyH.nil
            refine stepM 60 rfl rfl _ _ _ _ 70 rfl Try.underlying63 _ _ _ txInfoZ rfl (.slice pp m cc) m _ rfl HRow.out _ 1 _ rfl HSrc.out (by omega) (by unfold maxLen; omega) ?_
            intro v' W5 hr2 hg2 hk2
            obtain ⟨p2, c2, hv2, _, _⟩ := hr2.form
            have HFin : Hid (∀ F, F = W5.setCell ⟨B, 4, none⟩ v' → ∃ who', AftT who u F B (Me.begin q ca cb ⟨k0, o1, o2, o3, o4, o5, o6, k7, k8⟩) (n + 1) who') := fun F hF => AftT.app HQ.out.1 HQ.out.2 HBW4.out (MapIn.is HMW4v.out) (MapIn.is HMW4e.out) HNe.out ⟨MapIn.lo HMW4v.out, MapIn.lo HMW4e.out⟩ (by rw [← HM.out]; exact hr2) hg2 hk2 hF HOk2.out
            have hKn : KeptQ who u W5 := (KeptQ.ofBelow HBW4.out).grown hg2 (fun k hk _ => by have := HQ.out.2.r.wr k hk; omega)
            have HCn : Hid (W5.cell? ⟨B, 4, none⟩ = some (.slice pp m cc) ∧ W5.frozen? ⟨B, 4, none⟩ = false) := by
              have hq2 := HQ.out.2.below HQ.out.1.np HBW4.out
              have hb : W5.heap[B]? = W4.heap[B]? := hg2.block B (hq2.r.here B (by rw [hq2.wB]; omega)) (fun e => by have := HQ.out.2.r.wr B e.symm; rw [HQ.out.2.wB] at this; omega)
              exact ⟨(World.cell?_of_block (a := ⟨B, 4, none⟩) hb).trans hq2.b.c4, (World.frozen?_of_block (a := ⟨B, 4, none⟩) hb).trans (hq2.b.fz 4)⟩
            have HKn : Hid (KeptQ who u W5) := hKn
            subst hv2
            clear hr2 hg2 hk2 hKn
            refine hK.out _ _ HKn.out (fun hHeld2 => ?_)
            clear hK K hHeld
            have hHeld := hHeld2
            clear hHeld2
            simp only [Act.put, List.setIfInBounds_toArray, List.set_cons_zero, List.set_cons_succ]
            refine takeM (i := 15) (d := 61) (v := .pointer (some ⟨B, 0, none⟩)) rfl rfl (by kernel_rfl) (by kernel_rfl) (by kernel_rfl) (fun _ _ _ h => h) (Or.inl ⟨by rfl, ?_⟩) (by assumption) ?_
            · intro X hSw
              obtain ⟨e1, e2, e3, e4, e5, e6, e7, e8, e9, e10, e11⟩ := HCL.out X hSw
              clear hSw
              go_simp
            simp only [Act.put, List.setIfInBounds_toArray, List.set_cons_zero, List.set_cons_succ]
            refine takeM (i := 16) (d := 62) (v := .pointer (some ⟨B, 4, none⟩)) rfl rfl (by kernel_rfl) (by kernel_rfl) (by kernel_rfl) (fun _ _ _ h => h) (Or.inl ⟨by rfl, ?_⟩) (by assumption) ?_
            · intro X hSw
              obtain ⟨e1, e2, e3, e4, e5, e6, e7, e8, e9, e10, e11⟩ := HCL.out X hSw
              clear hSw
              go_simp
            simp only [Act.put, List.setIfInBounds_toArray, List.set_cons_zero, List.set_cons_succ]
            refine wpAnyH_ready (rs := [17]) (by kernel_rfl) (by simp) ?_
            refine AllReadyH.cons rfl (fun K hK => ?_) AllReadyH.nil
            obtain ⟨c4, f4⟩ := HCn.out
            go_simp
            obtain ⟨W6, hW6⟩ : ∃ W6, W6 = World.setCell W5 ⟨B, 4, none⟩ (.slice p2 (m + 1) c2) := ⟨_, rfl⟩
            obtain ⟨who', hA⟩ := HFin.out W6 hW6
            have HA : Hid (AftT who u W6 B (Me.begin q ca cb ⟨k0, o1, o2, o3, o4, o5, o6, k7, k8⟩) (n + 1) who') := hA
            rw [← hW6]
            clear hW6 hA c4 f4
            refine hK.out _ _ HA.out.2.2 (fun hHeld2 => ?_)
            clear hK K hHeld hHeld2
            refine wpAnyH_done (by kernel_rfl) ?_ _
            go_wp2_with fail
            go_meet
            exact ⟨rfl, who', HA⟩
          · go_simp
            obtain ⟨W7, hW7⟩ : ∃ W7, W7 = World.alloc W1 (.map #[] 0) := ⟨_, rfl⟩
            obtain ⟨be, hbe⟩ : ∃ be, be = W1.heap.size := ⟨_, rfl⟩
            have hbn : Below W1.heap.size W1 W7 := by rw [hW7]; exact below_alloc _ _
            have HBW7 : Hid (Below u.heap.size u W7) := Below.trans HBW1.out (Below.mono hbn (Below.size HBW1.out))
            have HMW7e : Hid (MapIn u be W7) := by rw [hbe, hW7]; exact MapIn.new HBW1.out
            rw [← hW7, ← hbe]
            clear hW7 hbe hbn
            refine hK.out _ _ (KeptQ.ofBelow (HBW7.out)) (fun hHeld2 => ?_)
            clear hK K hHeld
            have hHeld := hHeld2
            clear hHeld2
            refine wpAnyH_ready (rs := [10]) (by kernel_rfl) (by simp) ?_
            refine AllReadyH.cons rfl (fun K hK => ?_) AllReadyH.nil
            go_simp
            obtain ⟨W8, hW8⟩ : ∃ W8, W8 = World.alloc W7 (.map #[] 0) := ⟨_, rfl⟩
            obtain ⟨bv, hbv⟩ : ∃ bv, bv = W7.heap.size := ⟨_, rfl⟩
            have hbn : Below W7.heap.size W7 W8 := by rw [hW8]; exact below_alloc _ _
            have HBW8 : Hid (Below u.heap.size u W8) := Below.trans HBW7.out (Below.mono hbn (Below.size HBW7.out))
            have HMW8v : Hid (MapIn u bv W8) := by rw [hbv, hW8]; exact MapIn.new HBW7.out
            have HMW8e : Hid (MapIn u be W8) := MapIn.below HMW7e.out hbn
            have HNe : Hid (bv ≠ be) := by have := MapIn.lt HMW7e.out; show bv ≠ be; omega
            rw [← hW8, ← hbv]
            clear hW8 hbv hbn
            refine hK.out _ _ (KeptQ.ofBelow (HBW8.out)) (fun hHeld2 => ?_)
            clear hK K hHeld
            have hHeld := hHeld2
            clear hHeld2
            refine takeM (i := 12) (d := 58) (v := .agg #[.int .i64 ca, .int .i64 cb, .int .i64 k0, .string o1, .string o2, .string o3, .string o4, .string o5, .string o6, .int .i64 k7, .int .i64 k8, .map (some bv), .map (some be), .string ⟨#[]⟩]) rfl rfl (by kernel_rfl) (by kernel_rfl) (by kernel_rfl) (fun _ _ _ h => h) (Or.inl ⟨by rfl, ?_⟩) (by assumption) ?_
            · intro X hSw
              obtain ⟨e1, e2, e3, e4, e5, e6, e7, e8, e9, e10, e11⟩ := HCL.out X hSw
              clear hSw
              go_simp
            simp only [Act.put, List.setIfInBounds_toArray, List.set_cons_zero, List.set_cons_succ]
            refine wpAnyH_ready (rs := [13]) (by kernel_rfl) (by simp) ?_
            refine AllReadyH.cons rfl (fun K hK => ?_) AllReadyH.nil
            go_simp
            obtain ⟨W9, hW9⟩ : ∃ W9, W9 = World.alloc W8 (.cells #[.int .i64 ca, .int .i64 cb, .int .i64 k0, .string o1, .string o2, .string o3, .string o4, .string o5, .string o6, .int .i64 k7, .int .i64 k8, .map (some bv), .map (some be), .string ⟨#[]⟩] 70) := ⟨_, rfl⟩
            obtain ⟨bs, hbs⟩ : ∃ bs, bs = W8.heap.size := ⟨_, rfl⟩
            have hbn : Below W8.heap.size W8 W9 := by rw [hW9]; exact below_alloc _ _
            have HBW9 : Hid (Below u.heap.size u W9) := Below.trans HBW8.out (Below.mono hbn (Below.size HBW8.out))
            have HMW9v : Hid (MapIn u bv W9) := MapIn.below HMW8v.out hbn
            have HMW9e : Hid (MapIn u be W9) := MapIn.below HMW8e.out hbn
            have HSr : Hid (∀ (j : Nat) x, ([.int .i64 ca, .int .i64 cb, .int .i64 k0, .string o1, .string o2, .string o3, .string o4, .string o5, .string o6, .int .i64 k7, .int .i64 k8, .map (some bv), .map (some be), .string ⟨#[]⟩] : List Value)[j]? = some x → W9.cell? ⟨bs, j, none⟩ = some x) := fun j x hx => by rw [hW9, hbs, World.cell?_alloc_mark]; simpa using hx
            have HSl : Hid (bs < W9.heap.size) := by show bs < _; rw [hW9, hbs]; simp
            rw [← hW9, ← hbs]
            clear hW9 hbs hbn
            refine hK.out _ _ (KeptQ.ofBelow (HBW9.out)) (fun hHeld2 => ?_)
            clear hK K hHeld
            have hHeld := hHeld2
            clear hHeld2
            have HRow : Hid (RowC W9 14 (.slice pp m cc) m (txsC vb eb (q.ans + 1) q.wait)) := by
              have := (HQ.out.2.below HQ.out.1.np HBW9.out).r.row
              rw [← HM.out] at this
              exact this
            have HSrc : Hid (Src Try.prog 14 63 (.slice (some ⟨bs, 0, none⟩) 1 1) 1 [.int .i64 ca, .int .i64 cb, .int .i64 k0, .string o1, .string o2, .string o3, .string o4, .string o5, .string o6, .int .i64 k7, .int .i64 k8, .map (some bv), .map (some be), .string ⟨#[]⟩] W9) := src_tx W9 [.int .i64 ca, .int .i64 cb, .int .i64 k0, .string o1, .string o2, .string o3, .string o4, .string o5, .string o6, .int .i64 k7, .int .i64 k8, .map (some bv), .map (some be), .string ⟨#[]⟩] HSr.out rfl (txC_one (Me.fresh ca cb ⟨k0, o1, o2, o3, o4, o5, o6, k7, k8⟩) bv be)
            refine wpAnyH_ready (rs := [14]) (by kernel_rfl) (by simp) ?_
            refine AllReadyH.cons rfl (fun K hK => ?_) AllReadyH.nil
            refine stepM 60 rfl rfl _ _ _ _ 70 rfl Try.underlying63 _ _ _ txInfoZ rfl (.slice pp m cc) m _ rfl HRow.out _ 1 _ rfl HSrc.out (by omega) (by unfold maxLen; omega) ?_
            intro v' W10 hr2 hg2 hk2
            obtain ⟨p2, c2, hv2, _, _⟩ := hr2.form
            have HFin : Hid (∀ F, F = W10.setCell ⟨B, 4, none⟩ v' → ∃ who', AftT who u F B (Me.begin q ca cb ⟨k0, o1, o2, o3, o4, o5, o6, k7, k8⟩) (n + 1) who') := fun F hF => AftT.app HQ.out.1 HQ.out.2 HBW9.out (MapIn.is HMW9v.out) (MapIn.is HMW9e.out) HNe.out ⟨MapIn.lo HMW9v.out, MapIn.lo HMW9e.out⟩ (by rw [← HM.out]; exact hr2) hg2 hk2 hF HOk2.out
            have hKn : KeptQ who u W10 := (KeptQ.ofBelow HBW9.out).grown hg2 (fun k hk _ => by have := HQ.out.2.r.wr k hk; omega)
            have HCn : Hid (W10.cell? ⟨B, 4, none⟩ = some (.slice pp m cc) ∧ W10.frozen? ⟨B, 4, none⟩ = false) := by
              have hq2 := HQ.out.2.below HQ.out.1.np HBW9.out
              have hb : W10.heap[B]? = W9.heap[B]? := hg2.block B (hq2.r.here B (by rw [hq2.wB]; omega)) (fun e => by have := HQ.out.2.r.wr B e.symm; rw [HQ.out.2.wB] at this; omega)
              exact ⟨(World.cell?_of_block (a := ⟨B, 4, none⟩) hb).trans hq2.b.c4, (World.frozen?_of_block (a := ⟨B, 4, none⟩) hb).trans (hq2.b.fz 4)⟩
            have HKn : Hid (KeptQ who u W10) := hKn
            subst hv2
            clear hr2 hg2 hk2 hKn
            refine hK.out _ _ HKn.out (fun hHeld2 => ?_)
            clear hK K hHeld
            have hHeld := hHeld2
            clear hHeld2
            simp only [Act.put, List.setIfInBounds_toArray, List.set_cons_zero, List.set_cons_succ]
            refine takeM (i := 15) (d := 61) (v := .pointer (some ⟨B, 0, none⟩)) rfl rfl (by kernel_rfl) (by kernel_rfl) (by kernel_rfl) (fun _ _ _ h => h) (Or.inl ⟨by rfl, ?_⟩) (by assumption) ?_
            · intro X hSw
              obtain ⟨e1, e2, e3, e4, e5, e6, e7, e8, e9, e10, e11⟩ := HCL.out X hSw
              clear hSw
              go_simp
            simp only [Act.put, List.setIfInBounds_toArray, List.set_cons_zero, List.set_cons_succ]
            refine takeM (i := 16) (d := 62) (v := .pointer (some ⟨B, 4, none⟩)) rfl rfl (by kernel_rfl) (by kernel_rfl) (by kernel_rfl) (fun _ _ _ h => h) (Or.inl ⟨by rfl, ?_⟩) (by assumption) ?_
            · intro X hSw
              obtain ⟨e1, e2, e3, e4, e5, e6, e7, e8, e9, e10, e11⟩ := HCL.out X hSw
              clear hSw
              go_simp
            simp only [Act.put, List.setIfInBounds_toArray, List.set_cons_zero, List.set_cons_succ]
            refine wpAnyH_ready (rs := [17]) (by kernel_rfl) (by simp) ?_
            refine AllReadyH.cons rfl (fun K hK => ?_) AllReadyH.nil
            obtain ⟨c4, f4⟩ := HCn.out
            go_simp
            obtain ⟨W11, hW11⟩ : ∃ W11, W11 = World.setCell W10 ⟨B, 4, none⟩ (.slice p2 (m + 1) c2) := ⟨_, rfl⟩
            obtain ⟨who', hA⟩ := HFin.out W11 hW11
            have HA : Hid (AftT who u W11 B (Me.begin q ca cb ⟨k0, o1, o2, o3, o4, o5, o6, k7, k8⟩) (n + 1) who') := hA
            rw [← hW11]
            clear hW11 hA c4 f4
            refine hK.out _ _ HA.out.2.2 (fun hHeld2 => ?_)
            clear hK K hHeld hHeld2
            refine wpAnyH_done (by kernel_rfl) ?_ _
            go_wp2_with fail
            go_meet
            exact ⟨rfl, who', HA⟩
        · go_simp
          obtain ⟨W12, hW12⟩ : ∃ W12, W12 = World.alloc w5 (.map #[] 0) := ⟨_, rfl⟩
          obtain ⟨bv, hbv⟩ : ∃ bv, bv = w5.heap.size := ⟨_, rfl⟩
          have hbn : Below w5.heap.size w5 W12 := by rw [hW12]; exact below_alloc _ _
          have HBW12 : Hid (Below u.heap.size u W12) := Below.trans HBw5.out (Below.mono hbn (Below.size HBw5.out))
          have HMW12v : Hid (MapIn u bv W12) := by rw [hbv, hW12]; exact MapIn.new HBw5.out
          rw [← hW12, ← hbv]
          clear hW12 hbv hbn
          refine hK.out _ _ (KeptQ.ofBelow (HBW12.out)) (fun hHeld2 => ?_)
          clear hK K hHeld
          have hHeld := hHeld2
          clear hHeld2
          refine wpAnyH_ready (rs := [9, 11]) (by kernel_rfl) (by simp) ?_
          refine AllReadyH.cons rfl (fun K hK => ?_) (AllReadyH.cons rfl (fun K hK => ?_) AllReadyH.nil)
          · go_simp
            go_wp2_with fail
            refine Calls.mono (HKo.out W12) ?_
            rintro e' W13 ⟨rfl, hbn⟩
            have HBW13 : Hid (Below u.heap.size u W13) := Below.trans HBW12.out (Below.mono hbn (Below.size HBW12.out))
            have HMW13v : Hid (MapIn u bv W13) := MapIn.below HMW12v.out hbn
            clear hbn
            go_wp2
            refine hK.out _ _ (KeptQ.ofBelow (HBW13.out)) (fun hHeld2 => ?_)
            clear hK K hHeld
            have hHeld := hHeld2
            clear hHeld2
            refine wpAnyH_ready (rs := [11]) (by kernel_rfl) (by simp) ?_
            refine AllReadyH.cons rfl (fun K hK => ?_) AllReadyH.nil
            go_simp
            obtain ⟨W14, hW14⟩ : ∃ W14, W14 = World.alloc W13 (.map #[] 0) := ⟨_, rfl⟩
            obtain ⟨be, hbe⟩ : ∃ be, be = W13.heap.size := ⟨_, rfl⟩
            have hbn : Below W13.heap.size W13 W14 := by rw [hW14]; exact below_alloc _ _
            have HBW14 : Hid (Below u.heap.size u W14) := Below.trans HBW13.out (Below.mono hbn (Below.size HBW13.out))
            have HMW14e : Hid (MapIn u be W14) := by rw [hbe, hW14]; exact MapIn.new HBW13.out
            have HMW14v : Hid (MapIn u bv W14) := MapIn.below HMW13v.out hbn
            have HNe : Hid (bv ≠ be) := by have := MapIn.lt HMW13v.out; show bv ≠ be; omega
            rw [← hW14, ← hbe]
            clear hW14 hbe hbn
            refine hK.out _ _ (KeptQ.ofBelow (HBW14.out)) (fun hHeld2 => ?_)
            clear hK K hHeld
            have hHeld := hHeld2
            clear hHeld2
            refine takeM (i := 12) (d := 58) (v := .agg #[.int .i64 ca, .int .i64 cb, .int .i64 k0, .string o1, .string o2, .string o3, .string o4, .string o5, .string o6, .int .i64 k7, .int .i64 k8, .map (some bv), .map (some be), .string ⟨#[]⟩]) rfl rfl (by kernel_rfl) (by kernel_rfl) (by kernel_rfl) (fun _ _ _ h => h) (Or.inl ⟨by rfl, ?_⟩) (by assumption) ?_
            · intro X hSw
              obtain ⟨e1, e2, e3, e4, e5, e6, e7, e8, e9, e10, e11⟩ := HCL.out X hSw
              clear hSw
              go_simp
            simp only [Act.put, List.setIfInBounds_toArray, List.set_cons_zero, List.set_cons_succ]
            refine wpAnyH_ready (rs := [13]) (by kernel_rfl) (by simp) ?_
            refine AllReadyH.cons rfl (fun K hK => ?_) AllReadyH.nil
            go_simp
            obtain ⟨W15, hW15⟩ : ∃ W15, W15 = World.alloc W14 (.cells #[.int .i64 ca, .int .i64 cb, .int .i64 k0, .string o1, .string o2, .string o3, .string o4, .string o5, .string o6, .int .i64 k7, .int .i64 k8, .map (some bv), .map (some be), .string ⟨#[]⟩] 70) := ⟨_, rfl⟩
            obtain ⟨bs, hbs⟩ : ∃ bs, bs = W14.heap.size := ⟨_, rfl⟩
            have hbn : Below W14.heap.size W14 W15 := by rw [hW15]; exact below_alloc _ _
            have HBW15 : Hid (Below u.heap.size u W15) := Below.trans HBW14.out (Below.mono hbn (Below.size HBW14.out))
            have HMW15v : Hid (MapIn u bv W15) := MapIn.below HMW14v.out hbn
            have HMW15e : Hid (MapIn u be W15) := MapIn.below HMW14e.out hbn
            have HSr : Hid (∀ (j : Nat) x, ([.int .i64 ca, .int .i64 cb, .int .i64 k0, .string o1, .string o2, .string o3, .string o4, .string o5, .string o6, .int .i64 k7, .int .i64 k8, .map (some bv), .map (some be), .string ⟨#[]⟩] : List Value)[j]? = some x → W15.cell? ⟨bs, j, none⟩ = some x) := fun j x hx => by rw [hW15, hbs, World.cell?_alloc_mark]; simpa using hx
            have HSl : Hid (bs < W15.heap.size) := by show bs < _; rw [hW15, hbs]; simp
            rw [← hW15, ← hbs]
            clear hW15 hbs hbn
            refine hK.out _ _ (KeptQ.ofBelow (HBW15.out)) (fun hHeld2 => ?_)
            clear hK K hHeld
            have hHeld := hHeld2
            clear hHeld2
            have HRow : Hid (RowC W15 14 (.slice pp m cc) m (txsC vb eb (q.ans + 1) q.wait)) := by
              have := (HQ.out.2.below HQ.out.1.np HBW15.out).r.row
              rw [← HM.out] at this
              exact this
            have HSrc : Hid (Src Try.prog 14 63 (.slice (some ⟨bs, 0, none⟩) 1 1) 1 [.int .i64 ca, .int .i64 cb, .int .i64 k0, .string o1, .string o2, .string o3, .string o4, .string o5, .string o6, .int .i64 k7, .int .i64 k8, .map (some bv), .map (some be), .string ⟨#[]⟩] W15) := src_tx W15 [.int .i64 ca, .int .i64 cb, .int .i64 k0, .string o1, .string o2, .string o3, .string o4, .string o5, .string o6, .int .i64 k7, .int .i64 k8, .map (some bv), .map (some be), .string ⟨#[]⟩] HSr.out rfl (txC_one (Me.fresh ca cb ⟨k0, o1, o2, o3, o4, o5, o6, k7, k8⟩) bv be)
            refine wpAnyH_ready (rs := [14]) (by kernel_rfl) (by simp) ?_
            refine AllReadyH.cons rfl (fun K hK => ?_) AllReadyH.nil
            refine stepM 60 rfl rfl _ _ _ _ 70 rfl Try.underlying63 _ _ _ txInfoZ rfl (.slice pp m cc) m _ rfl HRow.out _ 1 _ rfl HSrc.out (by omega) (by unfold maxLen; omega) ?_
            intro v' W16 hr2 hg2 hk2
            obtain ⟨p2, c2, hv2, _, _⟩ := hr2.form
            have HFin : Hid (∀ F, F = W16.setCell ⟨B, 4, none⟩ v' → ∃ who', AftT who u F B (Me.begin q ca cb ⟨k0, o1, o2, o3, o4, o5, o6, k7, k8⟩) (n + 1) who') := fun F hF => AftT.app HQ.out.1 HQ.out.2 HBW15.out (MapIn.is HMW15v.out) (MapIn.is HMW15e.out) HNe.out ⟨MapIn.lo HMW15v.out, MapIn.lo HMW15e.out⟩ (by rw [← HM.out]; exact hr2) hg2 hk2 hF HOk2.out
            have hKn : KeptQ who u W16 := (KeptQ.ofBelow HBW15.out).grown hg2 (fun k hk _ => by have := HQ.out.2.r.wr k hk; omega)
            have HCn : Hid (W16.cell? ⟨B, 4, none⟩ = some (.slice pp m cc) ∧ W16.frozen? ⟨B, 4, none⟩ = false) := by
              have hq2 := HQ.out.2.below HQ.out.1.np HBW15.out
              have hb : W16.heap[B]? = W15.heap[B]? := hg2.block B (hq2.r.here B (by rw [hq2.wB]; omega)) (fun e => by have := HQ.out.2.r.wr B e.symm; rw [HQ.out.2.wB] at this; omega)
              exact ⟨(World.cell?_of_block (a := ⟨B, 4, none⟩) hb).trans hq2.b.c4, (World.frozen?_of_block (a := ⟨B, 4, none⟩) hb).trans (hq2.b.fz 4)⟩
            have HKn : Hid (KeptQ who u W16) := hKn
            subst hv2
            clear hr2 hg2 hk2 hKn
            refine hK.out _ _ HKn.out (fun hHeld2 => ?_)
            clear hK K hHeld
            have hHeld := hHeld2
            clear hHeld2
            simp only [Act.put, List.setIfInBounds_toArray, List.set_cons_zero, List.set_cons_succ]
            refine takeM (i := 15) (d := 61) (v := .pointer (some ⟨B, 0, none⟩)) rfl rfl (by kernel_rfl) (by kernel_rfl) (by kernel_rfl) (fun _ _ _ h => h) (Or.inl ⟨by rfl, ?_⟩) (by assumption) ?_
            · intro X hSw
              obtain ⟨e1, e2, e3, e4, e5, e6, e7, e8, e9, e10, e11⟩ := HCL.out X hSw
              clear hSw
              go_simp
            simp only [Act.put, List.setIfInBounds_toArray, List.set_cons_zero, List.set_cons_succ]
            refine takeM (i := 16) (d := 62) (v := .pointer (some ⟨B, 4, none⟩)) rfl rfl (by kernel_rfl) (by kernel_rfl) (by kernel_rfl) (fun _ _ _ h => h) (Or.inl ⟨by rfl, ?_⟩) (by assumption) ?_
            · intro X hSw
              obtain ⟨e1, e2, e3, e4, e5, e6, e7, e8, e9, e10, e11⟩ := HCL.out X hSw
              clear hSw
              go_simp
            simp only [Act.put, List.setIfInBounds_toArray, List.set_cons_zero, List.set_cons_succ]
            refine wpAnyH_ready (rs := [17]) (by kernel_rfl) (by simp) ?_
            refine AllReadyH.cons rfl (fun K hK => ?_) AllReadyH.nil
            obtain ⟨c4, f4⟩ := HCn.out
            go_simp
            obtain ⟨W17, hW17⟩ : ∃ W17, W17 = World.setCell W16 ⟨B, 4, none⟩ (.slice p2 (m + 1) c2) := ⟨_, rfl⟩
            obtain ⟨who', hA⟩ := HFin.out W17 hW17
            have HA : Hid (AftT who u W17 B (Me.begin q ca cb ⟨k0, o1, o2, o3, o4, o5, o6, k7, k8⟩) (n + 1) who') := hA
            rw [← hW17]
            clear hW17 hA c4 f4
            refine hK.out _ _ HA.out.2.2 (fun hHeld2 => ?_)
            clear hK K hHeld hHeld2
            refine wpAnyH_done (by kernel_rfl) ?_ _
            go_wp2_with fail
            go_meet
            exact ⟨rfl, who', HA⟩
          · go_simp
            obtain ⟨W18, hW18⟩ : ∃ W18, W18 = World.alloc W12 (.map #[] 0) := ⟨_, rfl⟩
            obtain ⟨be, hbe⟩ : ∃ be, be = W12.heap.size := ⟨_, rfl⟩
            have hbn : Below W12.heap.size W12 W18 := by rw [hW18]; exact below_alloc _ _
            have HBW18 : Hid (Below u.heap.size u W18) := Below.trans HBW12.out (Below.mono hbn (Below.size HBW12.out))
            have HMW18e : Hid (MapIn u be W18) := by rw [hbe, hW18]; exact MapIn.new HBW12.out
            have HMW18v : Hid (MapIn u bv W18) := MapIn.below HMW12v.out hbn
            have HNe : Hid (bv ≠ be) := by have := MapIn.lt HMW12v.out; show bv ≠ be; omega
            rw [← hW18, ← hbe]
            clear hW18 hbe hbn
            refine hK.out _ _ (KeptQ.ofBelow (HBW18.out)) (fun hHeld2 => ?_)
            clear hK K hHeld
            have hHeld := hHeld2
            clear hHeld2
            refine wpAnyH_ready (rs := [9]) (by kernel_rfl) (by simp) ?_
            refine AllReadyH.cons rfl (fun K hK => ?_) AllReadyH.nil
            go_simp
            go_wp2_with fail
            refine Calls.mono (HKo.out W18) ?_
            rintro e' W19 ⟨rfl, hbn⟩
            have HBW19 : Hid (Below u.heap.size u W19) := Below.trans HBW18.out (Below.mono hbn (Below.size HBW18.out))
            have HMW19v : Hid (MapIn u bv W19) := MapIn.below HMW18v.out hbn
            have HMW19e : Hid (MapIn u be W19) := MapIn.below HMW18e.out hbn
            clear hbn
            go_wp2
            refine hK.out _ _ (KeptQ.ofBelow (HBW19.out)) (fun hHeld2 => ?_)
            clear hK K hHeld
            have hHeld := hHeld2
            clear hHeld2
            refine takeM (i := 12) (d := 58) (v := .agg #[.int .i64 ca, .int .i64 cb, .int .i64 k0, .string o1, .string o2, .string o3, .string o4, .string o5, .string o6, .int .i64 k7, .int .i64 k8, .map (some bv), .map (some be), .string ⟨#[]⟩]) rfl rfl (by kernel_rfl) (by kernel_rfl) (by kernel_rfl) (fun _ _ _ h => h) (Or.inl ⟨by rfl, ?_⟩) (by assumption) ?_
            · intro X hSw
              obtain ⟨e1, e2, e3, e4, e5, e6, e7, e8, e9, e10, e11⟩ := HCL.out X hSw
              clear hSw
              go_simp
            simp only [Act.put, List.setIfInBounds_toArray, List.set_cons_zero, List.set_cons_succ]
            refine wpAnyH_ready (rs := [13]) (by kernel_rfl) (by simp) ?_
            refine AllReadyH.cons rfl (fun K hK => ?_) AllReadyH.nil
            go_simp
            obtain ⟨W20, hW20⟩ : ∃ W20, W20 = World.alloc W19 (.cells #[.int .i64 ca, .int .i64 cb, .int .i64 k0, .string o1, .string o2, .string o3, .string o4, .string o5, .string o6, .int .i64 k7, .int .i64 k8, .map (some bv), .map (some be), .string ⟨#[]⟩] 70) := ⟨_, rfl⟩
            obtain ⟨bs, hbs⟩ : ∃ bs, bs = W19.heap.size := ⟨_, rfl⟩
            have hbn : Below W19.heap.size W19 W20 := by rw [hW20]; exact below_alloc _ _
            have HBW20 : Hid (Below u.heap.size u W20) := Below.trans HBW19.out (Below.mono hbn (Below.size HBW19.out))
            have HMW20v : Hid (MapIn u bv W20) := MapIn.below HMW19v.out hbn
            have HMW20e : Hid (MapIn u be W20) := MapIn.below HMW19e.out hbn
            have HSr : Hid (∀ (j : Nat) x, ([.int .i64 ca, .int .i64 cb, .int .i64 k0, .string o1, .string o2, .string o3, .string o4, .string o5, .string o6, .int .i64 k7, .int .i64 k8, .map (some bv), .map (some be), .string ⟨#[]⟩] : List Value)[j]? = some x → W20.cell? ⟨bs, j, none⟩ = some x) := fun j x hx => by rw [hW20, hbs, World.cell?_alloc_mark]; simpa using hx
            have HSl : Hid (bs < W20.heap.size) := by show bs < _; rw [hW20, hbs]; simp
            rw [← hW20, ← hbs]
            clear hW20 hbs hbn
            refine hK.out _ _ (KeptQ.ofBelow (HBW20.out)) (fun hHeld2 => ?_)
            clear hK K hHeld
            have hHeld := hHeld2
            clear hHeld2
            have HRow : Hid (RowC W20 14 (.slice pp m cc) m (txsC vb eb (q.ans + 1) q.wait)) := by
              have := (HQ.out.2.below HQ.out.1.np HBW20.out).r.row
              rw [← HM.out] at this
              exact this
            have HSrc : Hid (Src Try.prog 14 63 (.slice (some ⟨bs, 0, none⟩) 1 1) 1 [.int .i64 ca, .int .i64 cb, .int .i64 k0, .string o1, .string o2, .string o3, .string o4, .string o5, .string o6, .int .i64 k7, .int .i64 k8, .map (some bv), .map (some be), .string ⟨#[]⟩] W20) := src_tx W20 [.int .i64 ca, .int .i64 cb, .int .i64 k0, .string o1, .string o2, .string o3, .string o4, .string o5, .string o6, .int .i64 k7, .int .i64 k8, .map (some bv), .map (some be), .string ⟨#[]⟩] HSr.out rfl (txC_one (Me.fresh ca cb ⟨k0, o1, o2, o3, o4, o5, o6, k7, k8⟩) bv be)
            refine wpAnyH_ready (rs := [14]) (by kernel_rfl) (by simp) ?_
            refine AllReadyH.cons rfl (fun K hK => ?_) AllReadyH.nil
            refine stepM 60 rfl rfl _ _ _ _ 70 rfl Try.underlying63 _ _ _ txInfoZ rfl (.slice pp m cc) m _ rfl HRow.out _ 1 _ rfl HSrc.out (by omega) (by unfold maxLen; omega) ?_
            intro v' W21 hr2 hg2 hk2
            obtain ⟨p2, c2, hv2, _, _⟩ := hr2.form
            have HFin : Hid (∀ F, F = W21.setCell ⟨B, 4, none⟩ v' → ∃ who', AftT who u F B (Me.begin q ca cb ⟨k0, o1, o2, o3, o4, o5, o6, k7, k8⟩) (n + 1) who') := fun F hF => AftT.app HQ.out.1 HQ.out.2 HBW20.out (MapIn.is HMW20v.out) (MapIn.is HMW20e.out) HNe.out ⟨MapIn.lo HMW20v.out, MapIn.lo HMW20e.out⟩ (by rw [← HM.out]; exact hr2) hg2 hk2 hF HOk2.out
            have hKn : KeptQ who u W21 := (KeptQ.ofBelow HBW20.out).grown hg2 (fun k hk _ => by have := HQ.out.2.r.wr k hk; omega)
            have HCn : Hid (W21.cell? ⟨B, 4, none⟩ = some (.slice pp m cc) ∧ W21.frozen? ⟨B, 4, none⟩ = false) := by
              have hq2 := HQ.out.2.below HQ.out.1.np HBW20.out
              have hb : W21.heap[B]? = W20.heap[B]? := hg2.block B (hq2.r.here B (by rw [hq2.wB]; omega)) (fun e => by have := HQ.out.2.r.wr B e.symm; rw [HQ.out.2.wB] at this; omega)
              exact ⟨(World.cell?_of_block (a := ⟨B, 4, none⟩) hb).trans hq2.b.c4, (World.frozen?_of_block (a := ⟨B, 4, none⟩) hb).trans (hq2.b.fz 4)⟩
            have HKn : Hid (KeptQ who u W21) := hKn
            subst hv2
            clear hr2 hg2 hk2 hKn
            refine hK.out _ _ HKn.out (fun hHeld2 => ?_)
            clear hK K hHeld
            have hHeld := hHeld2
            clear hHeld2
            simp only [Act.put, List.setIfInBounds_toArray, List.set_cons_zero, List.set_cons_succ]
            refine takeM (i := 15) (d := 61) (v := .pointer (some ⟨B, 0, none⟩)) rfl rfl (by kernel_rfl) (by kernel_rfl) (by kernel_rfl) (fun _ _ _ h => h) (Or.inl ⟨by rfl, ?_⟩) (by assumption) ?_
            · intro X hSw
              obtain ⟨e1, e2, e3, e4, e5, e6, e7, e8, e9, e10, e11⟩ := HCL.out X hSw
              clear hSw
              go_simp
            simp only [Act.put, List.setIfInBounds_toArray, List.set_cons_zero, List.set_cons_succ]
            refine takeM (i := 16) (d := 62) (v := .pointer (some ⟨B, 4, none⟩)) rfl rfl (by kernel_rfl) (by kernel_rfl) (by kernel_rfl) (fun _ _ _ h => h) (Or.inl ⟨by rfl, ?_⟩) (by assumption) ?_
            · intro X hSw
              obtain ⟨e1, e2, e3, e4, e5, e6, e7, e8, e9, e10, e11⟩ := HCL.out X hSw
              clear hSw
              go_simp
            simp only [Act.put, List.setIfInBounds_toArray, List.set_cons_zero, List.set_cons_succ]
            refine wpAnyH_ready (rs := [17]) (by kernel_rfl) (by simp) ?_
            refine AllReadyH.cons rfl (fun K hK => ?_) AllReadyH.nil
            obtain ⟨c4, f4⟩ := HCn.out
            go_simp
            obtain ⟨W22, hW22⟩ : ∃ W22, W22 = World.setCell W21 ⟨B, 4, none⟩ (.slice p2 (m + 1) c2) := ⟨_, rfl⟩
            obtain ⟨who', hA⟩ := HFin.out W22 hW22
            have HA : Hid (AftT who u W22 B (Me.begin q ca cb ⟨k0, o1, o2, o3, o4, o5, o6, k7, k8⟩) (n + 1) who') := hA
            rw [← hW22]
            clear hW22 hA c4 f4
            refine hK.out _ _ HA.out.2.2 (fun hHeld2 => ?_)
            clear hK K hHeld hHeld2
            refine wpAnyH_done (by kernel_rfl) ?_ _
            go_wp2_with fail
            go_meet
            exact ⟨rfl, who', HA⟩
        · go_simp
          obtain ⟨W23, hW23⟩ : ∃ W23, W23 = World.alloc w5 (.map #[] 0) := ⟨_, rfl⟩
          obtain ⟨be, hbe⟩ : ∃ be, be = w5.heap.size := ⟨_, rfl⟩
          have hbn : Below w5.heap.size w5 W23 := by rw [hW23]; exact below_alloc _ _
          have HBW23 : Hid (Below u.heap.size u W23) := Below.trans HBw5.out (Below.mono hbn (Below.size HBw5.out))
          have HMW23e : Hid (MapIn u be W23) := by rw [hbe, hW23]; exact MapIn.new HBw5.out
          rw [← hW23, ← hbe]
          clear hW23 hbe hbn
          refine hK.out _ _ (KeptQ.ofBelow (HBW23.out)) (fun hHeld2 => ?_)
          clear hK K hHeld
          have hHeld := hHeld2
          clear hHeld2
          refine wpAnyH_ready (rs := [9, 10]) (by kernel_rfl) (by simp) ?_
          refine AllReadyH.cons rfl (fun K hK => ?_) (AllReadyH.cons rfl (fun K hK => ?_) AllReadyH.nil)
          · go_simp
            go_wp2_with fail
            refine Calls.mono (HKo.out W23) ?_
            rintro e' W24 ⟨rfl, hbn⟩
            have HBW24 : Hid (Below u.heap.size u W24) := Below.trans HBW23.out (Below.mono hbn (Below.size HBW23.out))
            have HMW24e : Hid (MapIn u be W24) := MapIn.below HMW23e.out hbn
            clear hbn
            go_wp2
            refine hK.out _ _ (KeptQ.ofBelow (HBW24.out)) (fun hHeld2 => ?_)
            clear hK K hHeld
            have hHeld := hHeld2
            clear hHeld2
            refine wpAnyH_ready (rs := [10]) (by kernel_rfl) (by simp) ?_
            refine AllReadyH.cons rfl (fun K hK => ?_) AllReadyH.nil
            go_simp
            obtain ⟨W25, hW25⟩ : ∃ W25, W25 = World.alloc W24 (.map #[] 0) := ⟨_, rfl⟩
            obtain ⟨bv, hbv⟩ : ∃ bv, bv = W24.heap.size := ⟨_, rfl⟩
            have hbn : Below W24.heap.size W24 W25 := by rw [hW25]; exact below_alloc _ _
            have HBW25 : Hid (Below u.heap.size u W25) := Below.trans HBW24.out (Below.mono hbn (Below.size HBW24.out))
            have HMW25v : Hid (MapIn u bv W25) := by rw [hbv, hW25]; exact MapIn.new HBW24.out
            have HMW25e : Hid (MapIn u be W25) := MapIn.below HMW24e.out hbn
            have HNe : Hid (bv ≠ be) := by have := MapIn.lt HMW24e.out; show bv ≠ be; omega
            rw [← hW25, ← hbv]
            clear hW25 hbv hbn
            refine hK.out _ _ (KeptQ.ofBelow (HBW25.out)) (fun hHeld2 => ?_)
            clear hK K hHeld
            have hHeld := hHeld2
            clear hHeld2
            refine takeM (i := 12) (d := 58) (v := .agg #[.int .i64 ca, .int .i64 cb, .int .i64 k0, .string o1, .string o2, .string o3, .string o4, .string o5, .string o6, .int .i64 k7, .int .i64 k8, .map (some bv), .map (some be), .string ⟨#[]⟩]) rfl rfl (by kernel_rfl) (by kernel_rfl) (by kernel_rfl) (fun _ _ _ h => h) (Or.inl ⟨by rfl, ?_⟩) (by assumption) ?_
            · intro X hSw
              obtain ⟨e1, e2, e3, e4, e5, e6, e7, e8, e9, e10, e11⟩ := HCL.out X hSw
              clear hSw
              go_simp
            simp only [Act.put, List.setIfInBounds_toArray, List.set_cons_zero, List.set_cons_succ]
            refine wpAnyH_ready (rs := [13]) (by kernel_rfl) (by simp) ?_
            refine AllReadyH.cons rfl (fun K hK => ?_) AllReadyH.nil
            go_simp
            obtain ⟨W26, hW26⟩ : ∃ W26, W26 = World.alloc W25 (.cells #[.int .i64 ca, .int .i64 cb, .int .i64 k0, .string o1, .string o2, .string o3, .string o4, .string o5, .string o6, .int .i64 k7, .int .i64 k8, .map (some bv), .map (some be), .string ⟨#[]⟩] 70) := ⟨_, rfl⟩
            obtain ⟨bs, hbs⟩ : ∃ bs, bs = W25.heap.size := ⟨_, rfl⟩
            have hbn : Below W25.heap.size W25 W26 := by rw [hW26]; exact below_alloc _ _
            have HBW26 : Hid (Below u.heap.size u W26) := Below.trans HBW25.out (Below.mono hbn (Below.size HBW25.out))
            have HMW26v : Hid (MapIn u bv W26) := MapIn.below HMW25v.out hbn
            have HMW26e : Hid (MapIn u be W26) := MapIn.below HMW25e.out hbn
            have HSr : Hid (∀ (j : Nat) x, ([.int .i64 ca, .int .i64 cb, .int .i64 k0, .string o1, .string o2, .string o3, .string o4, .string o5, .string o6, .int .i64 k7, .int .i64 k8, .map (some bv), .map (some be), .string ⟨#[]⟩] : List Value)[j]? = some x → W26.cell? ⟨bs, j, none⟩ = some x) := fun j x hx => by rw [hW26, hbs, World.cell?_alloc_mark]; simpa using hx
            have HSl : Hid (bs < W26.heap.size) := by show bs < _; rw [hW26, hbs]; simp
            rw [← hW26, ← hbs]
            clear hW26 hbs hbn
            refine hK.out _ _ (KeptQ.ofBelow (HBW26.out)) (fun hHeld2 => ?_)
            clear hK K hHeld
            have hHeld := hHeld2
            clear hHeld2
            have HRow : Hid (RowC W26 14 (.slice pp m cc) m (txsC vb eb (q.ans + 1) q.wait)) := by
              have := (HQ.out.2.below HQ.out.1.np HBW26.out).r.row
              rw [← HM.out] at this
              exact this
            have HSrc : Hid (Src Try.prog 14 63 (.slice (some ⟨bs, 0, none⟩) 1 1) 1 [.int .i64 ca, .int .i64 cb, .int .i64 k0, .string o1, .string o2, .string o3, .string o4, .string o5, .string o6, .int .i64 k7, .int .i64 k8, .map (some bv), .map (some be), .string ⟨#[]⟩] W26) := src_tx W26 [.int .i64 ca, .int .i64 cb, .int .i64 k0, .string o1, .string o2, .string o3, .string o4, .string o5, .string o6, .int .i64 k7, .int .i64 k8, .map (some bv), .map (some be), .string ⟨#[]⟩] HSr.out rfl (txC_one (Me.fresh ca cb ⟨k0, o1, o2, o3, o4, o5, o6, k7, k8⟩) bv be)
            refine wpAnyH_ready (rs := [14]) (by kernel_rfl) (by simp) ?_
            refine AllReadyH.cons rfl (fun K hK => ?_) AllReadyH.nil
            refine stepM 60 rfl rfl _ _ _ _ 70 rfl Try.underlying63 _ _ _ txInfoZ rfl (.slice pp m cc) m _ rfl HRow.out _ 1 _ rfl HSrc.out (by omega) (by unfold maxLen; omega) ?_
            intro v' W27 hr2 hg2 hk2
            obtain ⟨p2, c2, hv2, _, _⟩ := hr2.form
            have HFin : Hid (∀ F, F = W27.setCell ⟨B, 4, none⟩ v' → ∃ who', AftT who u F B (Me.begin q ca cb ⟨k0, o1, o2, o3, o4, o5, o6, k7, k8⟩) (n + 1) who') := fun F hF => AftT.app HQ.out.1 HQ.out.2 HBW26.out (MapIn.is HMW26v.out) (MapIn.is HMW26e.out) HNe.out ⟨MapIn.lo HMW26v.out, MapIn.lo HMW26e.out⟩ (by rw [← HM.out]; exact hr2) hg2 hk2 hF HOk2.out
            have hKn : KeptQ who u W27 := (KeptQ.ofBelow HBW26.out).grown hg2 (fun k hk _ => by have := HQ.out.2.r.wr k hk; omega)
            have HCn : Hid (W27.cell? ⟨B, 4, none⟩ = some (.slice pp m cc) ∧ W27.frozen? ⟨B, 4, none⟩ = false) := by
              have hq2 := HQ.out.2.below HQ.out.1.np HBW26.out
              have hb : W27.heap[B]? = W26.heap[B]? := hg2.block B (hq2.r.here B (by rw [hq2.wB]; omega)) (fun e => by have := HQ.out.2.r.wr B e.symm; rw [HQ.out.2.wB] at this; omega)
              exact ⟨(World.cell?_of_block (a := ⟨B, 4, none⟩) hb).trans hq2.b.c4, (World.frozen?_of_block (a := ⟨B, 4, none⟩) hb).trans (hq2.b.fz 4)⟩
            have HKn : Hid (KeptQ who u W27) := hKn
            subst hv2
            clear hr2 hg2 hk2 hKn
            refine hK.out _ _ HKn.out (fun hHeld2 => ?_)
            clear hK K hHeld
            have hHeld := hHeld2
            clear hHeld2
            simp only [Act.put, List.setIfInBounds_toArray, List.set_cons_zero, List.set_cons_succ]
            refine takeM (i := 15) (d := 61) (v := .pointer (some ⟨B, 0, none⟩)) rfl rfl (by kernel_rfl) (by kernel_rfl) (by kernel_rfl) (fun _ _ _ h => h) (Or.inl ⟨by rfl, ?_⟩) (by assumption) ?_
            · intro X hSw
              obtain ⟨e1, e2, e3, e4, e5, e6, e7, e8, e9, e10, e11⟩ := HCL.out X hSw
              clear hSw
              go_simp
            simp only [Act.put, List.setIfInBounds_toArray, List.set_cons_zero, List.set_cons_succ]
            refine takeM (i := 16) (d := 62) (v := .pointer (some ⟨B, 4, none⟩)) rfl rfl (by kernel_rfl) (by kernel_rfl) (by kernel_rfl) (fun _ _ _ h => h) (Or.inl ⟨by rfl, ?_⟩) (by assumption) ?_
            · intro X hSw
              obtain ⟨e1, e2, e3, e4, e5, e6, e7, e8, e9, e10, e11⟩ := HCL.out X hSw
              clear hSw
              go_simp
            simp only [Act.put, List.setIfInBounds_toArray, List.set_cons_zero, List.set_cons_succ]
            refine wpAnyH_ready (rs := [17]) (by kernel_rfl) (by simp) ?_
            refine AllReadyH.cons rfl (fun K hK => ?_) AllReadyH.nil
            obtain ⟨c4, f4⟩ := HCn.out
            go_simp
            obtain ⟨W28, hW28⟩ : ∃ W28, W28 = World.setCell W27 ⟨B, 4, none⟩ (.slice p2 (m + 1) c2) := ⟨_, rfl⟩
            obtain ⟨who', hA⟩ := HFin.out W28 hW28
            have HA : Hid (AftT who u W28 B (Me.begin q ca cb ⟨k0, o1, o2, o3, o4, o5, o6, k7, k8⟩) (n + 1) who') := hA
            rw [← hW28]
            clear hW28 hA c4 f4
            refine hK.out _ _ HA.out.2.2 (fun hHeld2 => ?_)
            clear hK K hHeld hHeld2
            refine wpAnyH_done (by kernel_rfl) ?_ _
            go_wp2_with fail
            go_meet
            exact ⟨rfl, who', HA⟩
          · go_simp
            obtain ⟨W29, hW29⟩ : ∃ W29, W29 = World.alloc W23 (.map #[] 0) := ⟨_, rfl⟩
            obtain ⟨bv, hbv⟩ : ∃ bv, bv = W23.heap.size := ⟨_, rfl⟩
            have hbn : Below W23.heap.size W23 W29 := by rw [hW29]; exact below_alloc _ _
            have HBW29 : Hid (Below u.heap.size u W29) := Below.trans HBW23.out (Below.mono hbn (Below.size HBW23.out))
            have HMW29v : Hid (MapIn u bv W29) := by rw [hbv, hW29]; exact MapIn.new HBW23.out
            have HMW29e : Hid (MapIn u be W29) := MapIn.below HMW23e.out hbn
            have HNe : Hid (bv ≠ be) := by have := MapIn.lt HMW23e.out; show bv ≠ be; omega
            rw [← hW29, ← hbv]
            clear hW29 hbv hbn
            refine hK.out _ _ (KeptQ.ofBelow (HBW29.out)) (fun hHeld2 => ?_)
            clear hK K hHeld
            have hHeld := hHeld2
            clear hHeld2
            refine wpAnyH_ready (rs := [9]) (by kernel_rfl) (by simp) ?_
            refine AllReadyH.cons rfl (fun K hK => ?_) AllReadyH.nil
            go_simp
            go_wp2_with fail
            refine Calls.mono (HKo.out W29) ?_
            rintro e' W30 ⟨rfl, hbn⟩
            have HBW30 : Hid (Below u.heap.size u W30) := Below.trans HBW29.out (Below.mono hbn (Below.size HBW29.out))
            have HMW30v : Hid (MapIn u bv W30) := MapIn.below HMW29v.out hbn
            have HMW30e : Hid (MapIn u be W30) := MapIn.below HMW29e.out hbn
            clear hbn
            go_wp2
            refine hK.out _ _ (KeptQ.ofBelow (HBW30.out)) (fun hHeld2 => ?_)
            clear hK K hHeld
            have hHeld := hHeld2
            clear hHeld2
            refine takeM (i := 12) (d := 58) (v := .agg #[.int .i64 ca, .int .i64 cb, .int .i64 k0, .string o1, .string o2, .string o3, .string o4, .string o5, .string o6, .int .i64 k7, .int .i64 k8, .map (some bv), .map (some be), .string ⟨#[]⟩]) rfl rfl (by kernel_rfl) (by kernel_rfl) (by kernel_rfl) (fun _ _ _ h => h) (Or.inl ⟨by rfl, ?_⟩) (by assumption) ?_
            · intro X hSw
              obtain ⟨e1, e2, e3, e4, e5, e6, e7, e8, e9, e10, e11⟩ := HCL.out X hSw
              clear hSw
              go_simp
            simp only [Act.put, List.setIfInBounds_toArray, List.set_cons_zero, List.set_cons_succ]
            refine wpAnyH_ready (rs := [13]) (by kernel_rfl) (by simp) ?_
            refine AllReadyH.cons rfl (fun K hK => ?_) AllReadyH.nil
            go_simp
            obtain ⟨W31, hW31⟩ : ∃ W31, W31 = World.alloc W30 (.cells #[.int .i64 ca, .int .i64 cb, .int .i64 k0, .string o1, .string o2, .string o3, .string o4, .string o5, .string o6, .int .i64 k7, .int .i64 k8, .map (some bv), .map (some be), .string ⟨#[]⟩] 70) := ⟨_, rfl⟩
            obtain ⟨bs, hbs⟩ : ∃ bs, bs = W30.heap.size := ⟨_, rfl⟩
            have hbn : Below W30.heap.size W30 W31 := by rw [hW31]; exact below_alloc _ _
            have HBW31 : Hid (Below u.heap.size u W31) := Below.trans HBW30.out (Below.mono hbn (Below.size HBW30.out))
            have HMW31v : Hid (MapIn u bv W31) := MapIn.below HMW30v.out hbn
            have HMW31e : Hid (MapIn u be W31) := MapIn.below HMW30e.out hbn
            have HSr : Hid (∀ (j : Nat) x, ([.int .i64 ca, .int .i64 cb, .int .i64 k0, .string o1, .string o2, .string o3, .string o4, .string o5, .string o6, .int .i64 k7, .int .i64 k8, .map (some bv), .map (some be), .string ⟨#[]⟩] : List Value)[j]? = some x → W31.cell? ⟨bs, j, none⟩ = some x) := fun j x hx => by rw [hW31, hbs, World.cell?_alloc_mark]; simpa using hx
            have HSl : Hid (bs < W31.heap.size) := by show bs < _; rw [hW31, hbs]; simp
            rw [← hW31, ← hbs]
            clear hW31 hbs hbn
            refine hK.out _ _ (KeptQ.ofBelow (HBW31.out)) (fun hHeld2 => ?_)
            clear hK K hHeld
            have hHeld := hHeld2
            clear hHeld2
            have HRow : Hid (RowC W31 14 (.slice pp m cc) m (txsC vb eb (q.ans + 1) q.wait)) := by
              have := (HQ.out.2.below HQ.out.1.np HBW31.out).r.row
              rw [← HM.out] at this
              exact this
            have HSrc : Hid (Src Try.prog 14 63 (.slice (some ⟨bs, 0, none⟩) 1 1) 1 [.int .i64 ca, .int .i64 cb, .int .i64 k0, .string o1, .string o2, .string o3, .string o4, .string o5, .string o6, .int .i64 k7, .int .i64 k8, .map (some bv), .map (some be), .string ⟨#[]⟩] W31) := src_tx W31 [.int .i64 ca, .int .i64 cb, .int .i64 k0, .string o1, .string o2, .string o3, .string o4, .string o5, .string o6, .int .i64 k7, .int .i64 k8, .map (some bv), .map (some be), .string ⟨#[]⟩] HSr.out rfl (txC_one (Me.fresh ca cb ⟨k0, o1, o2, o3, o4, o5, o6, k7, k8⟩) bv be)
            refine wpAnyH_ready (rs := [14]) (by kernel_rfl) (by simp) ?_
            refine AllReadyH.cons rfl (fun K hK => ?_) AllReadyH.nil
            refine stepM 60 rfl rfl _ _ _ _ 70 rfl Try.underlying63 _ _ _ txInfoZ rfl (.slice pp m cc) m _ rfl HRow.out _ 1 _ rfl HSrc.out (by omega) (by unfold maxLen; omega) ?_
            intro v' W32 hr2 hg2 hk2
            obtain ⟨p2, c2, hv2, _, _⟩ := hr2.form
            have HFin : Hid (∀ F, F = W32.setCell ⟨B, 4, none⟩ v' → ∃ who', AftT who u F B (Me.begin q ca cb ⟨k0, o1, o2, o3, o4, o5, o6, k7, k8⟩) (n + 1) who') := fun F hF => AftT.app HQ.out.1 HQ.out.2 HBW31.out (MapIn.is HMW31v.out) (MapIn.is HMW31e.out) HNe.out ⟨MapIn.lo HMW31v.out, MapIn.lo HMW31e.out⟩ (by rw [← HM.out]; exact hr2) hg2 hk2 hF HOk2.out
            have hKn : KeptQ who u W32 := (KeptQ.ofBelow HBW31.out).grown hg2 (fun k hk _ => by have := HQ.out.2.r.wr k hk; omega)
            have HCn : Hid (W32.cell? ⟨B, 4, none⟩ = some (.slice pp m cc) ∧ W32.frozen? ⟨B, 4, none⟩ = false) := by
              have hq2 := HQ.out.2.below HQ.out.1.np HBW31.out
              have hb : W32.heap[B]? = W31.heap[B]? := hg2.block B (hq2.r.here B (by rw [hq2.wB]; omega)) (fun e => by have := HQ.out.2.r.wr B e.symm; rw [HQ.out.2.wB] at this; omega)
              exact ⟨(World.cell?_of_block (a := ⟨B, 4, none⟩) hb).trans hq2.b.c4, (World.frozen?_of_block (a := ⟨B, 4, none⟩) hb).trans (hq2.b.fz 4)⟩
            have HKn : Hid (KeptQ who u W32) := hKn
            subst hv2
            clear hr2 hg2 hk2 hKn
            refine hK.out _ _ HKn.out (fun hHeld2 => ?_)
            clear hK K hHeld
            have hHeld := hHeld2
            clear hHeld2
            simp only [Act.put, List.setIfInBounds_toArray, List.set_cons_zero, List.set_cons_succ]
            refine takeM (i := 15) (d := 61) (v := .pointer (some ⟨B, 0, none⟩)) rfl rfl (by kernel_rfl) (by kernel_rfl) (by kernel_rfl) (fun _ _ _ h => h) (Or.inl ⟨by rfl, ?_⟩) (by assumption) ?_
            · intro X hSw
              obtain ⟨e1, e2, e3, e4, e5, e6, e7, e8, e9, e10, e11⟩ := HCL.out X hSw
              clear hSw
              go_simp
            simp only [Act.put, List.setIfInBounds_toArray, List.set_cons_zero, List.set_cons_succ]
            refine takeM (i := 16) (d := 62) (v := .pointer (some ⟨B, 4, none⟩)) rfl rfl (by kernel_rfl) (by kernel_rfl) (by kernel_rfl) (fun _ _ _ h => h) (Or.inl ⟨by rfl, ?_⟩) (by assumption) ?_
            · intro X hSw
              obtain ⟨e1, e2, e3, e4, e5, e6, e7, e8, e9, e10, e11⟩ := HCL.out X hSw
              clear hSw
              go_simp
            simp only [Act.put, List.setIfInBounds_toArray, List.set_cons_zero, List.set_cons_succ]
            refine wpAnyH_ready (rs := [17]) (by kernel_rfl) (by simp) ?_
            refine AllReadyH.cons rfl (fun K hK => ?_) AllReadyH.nil
            obtain ⟨c4, f4⟩ := HCn.out
            go_simp
            obtain ⟨W33, hW33⟩ : ∃ W33, W33 = World.setCell W32 ⟨B, 4, none⟩ (.slice p2 (m + 1) c2) := ⟨_, rfl⟩
            obtain ⟨who', hA⟩ := HFin.out W33 hW33
            have HA : Hid (AftT who u W33 B (Me.begin q ca cb ⟨k0, o1, o2, o3, o4, o5, o6, k7, k8⟩) (n + 1) who') := hA
            rw [← hW33]
            clear hW33 hA c4 f4
            refine hK.out _ _ HA.out.2.2 (fun hHeld2 => ?_)
            clear hK K hHeld hHeld2
            refine wpAnyH_done (by kernel_rfl) ?_ _
            go_wp2_with fail
            go_meet
            exact ⟨rfl, who', HA⟩
      · go_simp
        go_wp2_with fail
        refine Calls.mono (HKo.out w5) ?_
        rintro e' W34 ⟨rfl, hbn⟩
        have HBW34 : Hid (Below u.heap.size u W34) := Below.trans HBw5.out (Below.mono hbn (Below.size HBw5.out))
        clear hbn
        go_wp2
        refine hK.out _ _ (KeptQ.ofBelow (HBW34.out)) (fun hHeld2 => ?_)
        clear hK K hHeld
        have hHeld := hHeld2
        clear hHeld2
        refine wpAnyH_ready (rs := [4, 10, 11]) (by kernel_rfl) (by simp) ?_
        refine AllReadyH.cons rfl (fun K hK => ?_) (AllReadyH.cons rfl (fun K hK => ?_) (AllReadyH.cons rfl (fun K hK => ?_) AllReadyH.nil))
        · have y4 := (HQ4.out W34 HBW34.out).2
          go_simp
          refine hK.out _ _ (KeptQ.ofBelow (HBW34.out)) (fun hHeld2 => ?_)
          clear hK K hHeld
          have hHeld := hHeld2
          clear hHeld2
          clear y4
          refine wpAnyH_ready (rs := [10, 11]) (by kernel_rfl) (by simp) ?_
          refine AllReadyH.cons rfl (fun K hK => ?_) (AllReadyH.cons rfl (fun K hK => ?_) AllReadyH.nil)
          · go_simp
            obtain ⟨W35, hW35⟩ : ∃ W35, W35 = World.alloc W34 (.map #[] 0) := ⟨_, rfl⟩
            obtain ⟨bv, hbv⟩ : ∃ bv, bv = W34.heap.size := ⟨_, rfl⟩
            have hbn : Below W34.heap.size W34 W35 := by rw [hW35]; exact below_alloc _ _
            have HBW35 : Hid (Below u.heap.size u W35) := Below.trans HBW34.out (Below.mono hbn (Below.size HBW34.out))
            have HMW35v : Hid (MapIn u bv W35) := by rw [hbv, hW35]; exact MapIn.new HBW34.out
            rw [← hW35, ← hbv]
            clear hW35 hbv hbn
            refine hK.out _ _ (KeptQ.ofBelow (HBW35.out)) (fun hHeld2 => ?_)
            clear hK K hHeld
            have hHeld := hHeld2
            clear hHeld2
            refine wpAnyH_ready (rs := [11]) (by kernel_rfl) (by simp) ?_
            refine AllReadyH.cons rfl (fun K hK => ?_) AllReadyH.nil
            go_simp
            obtain ⟨W36, hW36⟩ : ∃ W36, W36 = World.alloc W35 (.map #[] 0) := ⟨_, rfl⟩
            obtain ⟨be, hbe⟩ : ∃ be, be = W35.heap.size := ⟨_, rfl⟩
            have hbn : Below W35.heap.size W35 W36 := by rw [hW36]; exact below_alloc _ _
            have HBW36 : Hid (Below u.heap.size u W36) := Below.trans HBW35.out (Below.mono hbn (Below.size HBW35.out))
            have HMW36e : Hid (MapIn u be W36) := by rw [hbe, hW36]; exact MapIn.new HBW35.out
            have HMW36v : Hid (MapIn u bv W36) := MapIn.below HMW35v.out hbn
            have HNe : Hid (bv ≠ be) := by have := MapIn.lt HMW35v.out; show bv ≠ be; omega
            rw [← hW36, ← hbe]
            clear hW36 hbe hbn
            refine hK.out _ _ (KeptQ.ofBelow (HBW36.out)) (fun hHeld2 => ?_)
            clear hK K hHeld
            have hHeld := hHeld2
            clear hHeld2
            refine takeM (i := 12) (d := 58) (v := .agg #[.int .i64 ca, .int .i64 cb, .int .i64 k0, .string o1, .string o2, .string o3, .string o4, .string o5, .string o6, .int .i64 k7, .int .i64 k8, .map (some bv), .map (some be), .string ⟨#[]⟩]) rfl rfl (by kernel_rfl) (by kernel_rfl) (by kernel_rfl) (fun _ _ _ h => h) (Or.inl ⟨by rfl, ?_⟩) (by assumption) ?_
            · intro X hSw
              obtain ⟨e1, e2, e3, e4, e5, e6, e7, e8, e9, e10, e11⟩ := HCL.out X hSw
              clear hSw
              go_simp
            simp only [Act.put, List.setIfInBounds_toArray, List.set_cons_zero, List.set_cons_succ]
            refine wpAnyH_ready (rs := [13]) (by kernel_rfl) (by simp) ?_
            refine AllReadyH.cons rfl (fun K hK => ?_) AllReadyH.nil
            go_simp
            obtain ⟨W37, hW37⟩ : ∃ W37, W37 = World.alloc W36 (.cells #[.int .i64 ca, .int .i64 cb, .int .i64 k0, .string o1, .string o2, .string o3, .string o4, .string o5, .string o6, .int .i64 k7, .int .i64 k8, .map (some bv), .map (some be), .string ⟨#[]⟩] 70) := ⟨_, rfl⟩
            obtain ⟨bs, hbs⟩ : ∃ bs, bs = W36.heap.size := ⟨_, rfl⟩
            have hbn : Below W36.heap.size W36 W37 := by rw [hW37]; exact below_alloc _ _
            have HBW37 : Hid (Below u.heap.size u W37) := Below.trans HBW36.out (Below.mono hbn (Below.size HBW36.out))
            have HMW37v : Hid (MapIn u bv W37) := MapIn.below HMW36v.out hbn
            have HMW37e : Hid (MapIn u be W37) := MapIn.below HMW36e.out hbn
            have HSr : Hid (∀ (j : Nat) x, ([.int .i64 ca, .int .i64 cb, .int .i64 k0, .string o1, .string o2, .string o3, .string o4, .string o5, .string o6, .int .i64 k7, .int .i64 k8, .map (some bv), .map (some be), .string ⟨#[]⟩] : List Value)[j]? = some x → W37.cell? ⟨bs, j, none⟩ = some x) := fun j x hx => by rw [hW37, hbs, World.cell?_alloc_mark]; simpa using hx
            have HSl : Hid (bs < W37.heap.size) := by show bs < _; rw [hW37, hbs]; simp
            rw [← hW37, ← hbs]
            clear hW37 hbs hbn
            refine hK.out _ _ (KeptQ.ofBelow (HBW37.out)) (fun hHeld2 => ?_)
            clear hK K hHeld
            have hHeld := hHeld2
            clear hHeld2
            have HRow : Hid (RowC W37 14 (.slice pp m cc) m (txsC vb eb (q.ans + 1) q.wait)) := by
              have := (HQ.out.2.below HQ.out.1.np HBW37.out).r.row
              rw [← HM.out] at this
              exact this
            have HSrc : Hid (Src Try.prog 14 63 (.slice (some ⟨bs, 0, none⟩) 1 1) 1 [.int .i64 ca, .int .i64 cb, .int .i64 k0, .string o1, .string o2, .string o3, .string o4, .string o5, .string o6, .int .i64 k7, .int .i64 k8, .map (some bv), .map (some be), .string ⟨#[]⟩] W37) := src_tx W37 [.int .i64 ca, .int .i64 cb, .int .i64 k0, .string o1, .string o2, .string o3, .string o4, .string o5, .string o6, .int .i64 k7, .int .i64 k8, .map (some bv), .map (some be), .string ⟨#[]⟩] HSr.out rfl (txC_one (Me.fresh ca cb ⟨k0, o1, o2, o3, o4, o5, o6, k7, k8⟩) bv be)
            refine wpAnyH_ready (rs := [14]) (by kernel_rfl) (by simp) ?_
            refine AllReadyH.cons rfl (fun K hK => ?_) AllReadyH.nil
            refine stepM 60 rfl rfl _ _ _ _ 70 rfl Try.underlying63 _ _ _ txInfoZ rfl (.slice pp m cc) m _ rfl HRow.out _ 1 _ rfl HSrc.out (by omega) (by unfold maxLen; omega) ?_
            intro v' W38 hr2 hg2 hk2
            obtain ⟨p2, c2, hv2, _, _⟩ := hr2.form
            have HFin : Hid (∀ F, F = W38.setCell ⟨B, 4, none⟩ v' → ∃ who', AftT who u F B (Me.begin q ca cb ⟨k0, o1, o2, o3, o4, o5, o6, k7, k8⟩) (n + 1) who') := fun F hF => AftT.app HQ.out.1 HQ.out.2 HBW37.out (MapIn.is HMW37v.out) (MapIn.is HMW37e.out) HNe.out ⟨MapIn.lo HMW37v.out, MapIn.lo HMW37e.out⟩ (by rw [← HM.out]; exact hr2) hg2 hk2 hF HOk2.out
            have hKn : KeptQ who u W38 := (KeptQ.ofBelow HBW37.out).grown hg2 (fun k hk _ => by have := HQ.out.2.r.wr k hk; omega)
            have HCn : Hid (W38.cell? ⟨B, 4, none⟩ = some (.slice pp m cc) ∧ W38.frozen? ⟨B, 4, none⟩ = false) := by
              have hq2 := HQ.out.2.below HQ.out.1.np HBW37.out
              have hb : W38.heap[B]? = W37.heap[B]? := hg2.block B (hq2.r.here B (by rw [hq2.wB]; omega)) (fun e => by have := HQ.out.2.r.wr B e.symm; rw [HQ.out.2.wB] at this; omega)
              exact ⟨(World.cell?_of_block (a := ⟨B, 4, none⟩) hb).trans hq2.b.c4, (World.frozen?_of_block (a := ⟨B, 4, none⟩) hb).trans (hq2.b.fz 4)⟩
            have HKn : Hid (KeptQ who u W38) := hKn
            subst hv2
            clear hr2 hg2 hk2 hKn
            refine hK.out _ _ HKn.out (fun hHeld2 => ?_)
            clear hK K hHeld
            have hHeld := hHeld2
            clear hHeld2
            simp only [Act.put, List.setIfInBounds_toArray, List.set_cons_zero, List.set_cons_succ]
            refine takeM (i := 15) (d := 61) (v := .pointer (some ⟨B, 0, none⟩)) rfl rfl (by kernel_rfl) (by kernel_rfl) (by kernel_rfl) (fun _ _ _ h => h) (Or.inl ⟨by rfl, ?_⟩) (by assumption) ?_
            · intro X hSw
              obtain ⟨e1, e2, e3, e4, e5, e6, e7, e8, e9, e10, e11⟩ := HCL.out X hSw
              clear hSw
              go_simp
            simp only [Act.put, List.setIfInBounds_toArray, List.set_cons_zero, List.set_cons_succ]
            refine takeM (i := 16) (d := 62) (v := .pointer (some ⟨B, 4, none⟩)) rfl rfl (by kernel_rfl) (by kernel_rfl) (by kernel_rfl) (fun _ _ _ h => h) (Or.inl ⟨by rfl, ?_⟩) (by assumption) ?_
            · intro X hSw
              obtain ⟨e1, e2, e3, e4, e5, e6, e7, e8, e9, e10, e11⟩ := HCL.out X hSw
              clear hSw
              go_simp
            simp only [Act.put, List.setIfInBounds_toArray, List.set_cons_zero, List.set_cons_succ]
            refine wpAnyH_ready (rs := [17]) (by kernel_rfl) (by simp) ?_
            refine AllReadyH.cons rfl (fun K hK => ?_) AllReadyH.nil
            obtain ⟨c4, f4⟩ := HCn.out
            go_simp
            obtain ⟨W39, hW39⟩ : ∃ W39, W39 = World.setCell W38 ⟨B, 4, none⟩ (.slice p2 (m + 1) c2) := ⟨_, rfl⟩
            obtain ⟨who', hA⟩ := HFin.out W39 hW39
            have HA : Hid (AftT who u W39 B (Me.begin q ca cb ⟨k0, o1, o2, o3, o4, o5, o6, k7, k8⟩) (n + 1) who') := hA
            rw [← hW39]
            clear hW39 hA c4 f4
            refine hK.out _ _ HA.out.2.2 (fun hHeld2 => ?_)
            clear hK K hHeld hHeld2
            refine wpAnyH_done (by kernel_rfl) ?_ _
            go_wp2_with fail
            go_meet
            exact ⟨rfl, who', HA⟩
          · go_simp
            obtain ⟨W40, hW40⟩ : ∃ W40, W40 = World.alloc W34 (.map #[] 0) := ⟨_, rfl⟩
            obtain ⟨be, hbe⟩ : ∃ be, be = W34.heap.size := ⟨_, rfl⟩
            have hbn : Below W34.heap.size W34 W40 := by rw [hW40]; exact below_alloc _ _
            have HBW40 : Hid (Below u.heap.size u W40) := Below.trans HBW34.out (Below.mono hbn (Below.size HBW34.out))
            have HMW40e : Hid (MapIn u be W40) := by rw [hbe, hW40]; exact MapIn.new HBW34.out
            rw [← hW40, ← hbe]
            clear hW40 hbe hbn
            refine hK.out _ _ (KeptQ.ofBelow (HBW40.out)) (fun hHeld2 => ?_)
            clear hK K hHeld
            have hHeld := hHeld2
            clear hHeld2
            refine wpAnyH_ready (rs := [10]) (by kernel_rfl) (by simp) ?_
            refine AllReadyH.cons rfl (fun K hK => ?_) AllReadyH.nil
            go_simp
            obtain ⟨W41, hW41⟩ : ∃ W41, W41 = World.alloc W40 (.map #[] 0) := ⟨_, rfl⟩
            obtain ⟨bv, hbv⟩ : ∃ bv, bv = W40.heap.size := ⟨_, rfl⟩
            have hbn : Below W40.heap.size W40 W41 := by rw [hW41]; exact below_alloc _ _
            have HBW41 : Hid (Below u.heap.size u W41) := Below.trans HBW40.out (Below.mono hbn (Below.size HBW40.out))
            have HMW41v : Hid (MapIn u bv W41) := by rw [hbv, hW41]; exact MapIn.new HBW40.out
            have HMW41e : Hid (MapIn u be W41) := MapIn.below HMW40e.out hbn
            have HNe : Hid (bv ≠ be) := by have := MapIn.lt HMW40e.out; show bv ≠ be; omega
            rw [← hW41, ← hbv]
            clear hW41 hbv hbn
            refine hK.out _ _ (KeptQ.ofBelow (HBW41.out)) (fun hHeld2 => ?_)
            clear hK K hHeld
            have hHeld := hHeld2
            clear hHeld2
            refine takeM (i := 12) (d := 58) (v := .agg #[.int .i64 ca, .int .i64 cb, .int .i64 k0, .string o1, .string o2, .string o3, .string o4, .string o5, .string o6, .int .i64 k7, .int .i64 k8, .map (some bv), .map (some be), .string ⟨#[]⟩]) rfl rfl (by kernel_rfl) (by kernel_rfl) (by kernel_rfl) (fun _ _ _ h => h) (Or.inl ⟨by rfl, ?_⟩) (by assumption) ?_
            · intro X hSw
              obtain ⟨e1, e2, e3, e4, e5, e6, e7, e8, e9, e10, e11⟩ := HCL.out X hSw
              clear hSw
              go_simp
            simp only [Act.put, List.setIfInBounds_toArray, List.set_cons_zero, List.set_cons_succ]
            refine wpAnyH_ready (rs := [13]) (by kernel_rfl) (by simp) ?_
            refine AllReadyH.cons rfl (fun K hK => ?_) AllReadyH.nil
            go_simp
            obtain ⟨W42, hW42⟩ : ∃ W42, W42 = World.alloc W41 (.cells #[.int .i64 ca, .int .i64 cb, .int .i64 k0, .string o1, .string o2, .string o3, .string o4, .string o5, .string o6, .int .i64 k7, .int .i64 k8, .map (some bv), .map (some be), .string ⟨#[]⟩] 70) := ⟨_, rfl⟩
            obtain ⟨bs, hbs⟩ : ∃ bs, bs = W41.heap.size := ⟨_, rfl⟩
            have hbn : Below W41.heap.size W41 W42 := by rw [hW42]; exact below_alloc _ _
            have HBW42 : Hid (Below u.heap.size u W42) := Below.trans HBW41.out (Below.mono hbn (Below.size HBW41.out))
            have HMW42v : Hid (MapIn u bv W42) := MapIn.below HMW41v.out hbn
            have HMW42e : Hid (MapIn u be W42) := MapIn.below HMW41e.out hbn
            have HSr : Hid (∀ (j : Nat) x, ([.int .i64 ca, .int .i64 cb, .int .i64 k0, .string o1, .string o2, .string o3, .string o4, .string o5, .string o6, .int .i64 k7, .int .i64 k8, .map (some bv), .map (some be), .string ⟨#[]⟩] : List Value)[j]? = some x → W42.cell? ⟨bs, j, none⟩ = some x) := fun j x hx => by rw [hW42, hbs, World.cell?_alloc_mark]; simpa using hx
            have HSl : Hid (bs < W42.heap.size) := by show bs < _; rw [hW42, hbs]; simp
            rw [← hW42, ← hbs]
            clear hW42 hbs hbn
            refine hK.out _ _ (KeptQ.ofBelow (HBW42.out)) (fun hHeld2 => ?_)
            clear hK K hHeld
            have hHeld := hHeld2
            clear hHeld2
            have HRow : Hid (RowC W42 14 (.slice pp m cc) m (txsC vb eb (q.ans + 1) q.wait)) := by
              have := (HQ.out.2.below HQ.out.1.np HBW42.out).r.row
              rw [← HM.out] at this
              exact this
            have HSrc : Hid (Src Try.prog 14 63 (.slice (some ⟨bs, 0, none⟩) 1 1) 1 [.int .i64 ca, .int .i64 cb, .int .i64 k0, .string o1, .string o2, .string o3, .string o4, .string o5, .string o6, .int .i64 k7, .int .i64 k8, .map (some bv), .map (some be), .string ⟨#[]⟩] W42) := src_tx W42 [.int .i64 ca, .int .i64 cb, .int .i64 k0, .string o1, .string o2, .string o3, .string o4, .string o5, .string o6, .int .i64 k7, .int .i64 k8, .map (some bv), .map (some be), .string ⟨#[]⟩] HSr.out rfl (txC_one (Me.fresh ca cb ⟨k0, o1, o2, o3, o4, o5, o6, k7, k8⟩) bv be)
            refine wpAnyH_ready (rs := [14]) (by kernel_rfl) (by simp) ?_
            refine AllReadyH.cons rfl (fun K hK => ?_) AllReadyH.nil
            refine stepM 60 rfl rfl _ _ _ _ 70 rfl Try.underlying63 _ _ _ txInfoZ rfl (.slice pp m cc) m _ rfl HRow.out _ 1 _ rfl HSrc.out (by omega) (by unfold maxLen; omega) ?_
            intro v' W43 hr2 hg2 hk2
            obtain ⟨p2, c2, hv2, _, _⟩ := hr2.form
            have HFin : Hid (∀ F, F = W43.setCell ⟨B, 4, none⟩ v' → ∃ who', AftT who u F B (Me.begin q ca cb ⟨k0, o1, o2, o3, o4, o5, o6, k7, k8⟩) (n + 1) who') := fun F hF => AftT.app HQ.out.1 HQ.out.2 HBW42.out (MapIn.is HMW42v.out) (MapIn.is HMW42e.out) HNe.out ⟨MapIn.lo HMW42v.out, MapIn.lo HMW42e.out⟩ (by rw [← HM.out]; exact hr2) hg2 hk2 hF HOk2.out
            have hKn : KeptQ who u W43 := (KeptQ.ofBelow HBW42.out).grown hg2 (fun k hk _ => by have := HQ.out.2.r.wr k hk; omega)
            have HCn : Hid (W43.cell? ⟨B, 4, none⟩ = some (.slice pp m cc) ∧ W43.frozen? ⟨B, 4, none⟩ = false) := by
              have hq2 := HQ.out.2.below HQ.out.1.np HBW42.out
              have hb : W43.heap[B]? = W42.heap[B]? := hg2.block B (hq2.r.here B (by rw [hq2.wB]; omega)) (fun e => by have := HQ.out.2.r.wr B e.symm; rw [HQ.out.2.wB] at this; omega)
              exact ⟨(World.cell?_of_block (a := ⟨B, 4, none⟩) hb).trans hq2.b.c4, (World.frozen?_of_block (a := ⟨B, 4, none⟩) hb).trans (hq2.b.fz 4)⟩
            have HKn : Hid (KeptQ who u W43) := hKn
            subst hv2
            clear hr2 hg2 hk2 hKn
            refine hK.out _ _ HKn.out (fun hHeld2 => ?_)
            clear hK K hHeld
            have hHeld := hHeld2
            clear hHeld2
            simp only [Act.put, List.setIfInBounds_toArray, List.set_cons_zero, List.set_cons_succ]
            refine takeM (i := 15) (d := 61) (v := .pointer (some ⟨B, 0, none⟩)) rfl rfl (by kernel_rfl) (by kernel_rfl) (by kernel_rfl) (fun _ _ _ h => h) (Or.inl ⟨by rfl, ?_⟩) (by assumption) ?_
            · intro X hSw
              obtain ⟨e1, e2, e3, e4, e5, e6, e7, e8, e9, e10, e11⟩ := HCL.out X hSw
              clear hSw
              go_simp
            simp only [Act.put, List.setIfInBounds_toArray, List.set_cons_zero, List.set_cons_succ]
            refine takeM (i := 16) (d := 62) (v := .pointer (some ⟨B, 4, none⟩)) rfl rfl (by kernel_rfl) (by kernel_rfl) (by kernel_rfl) (fun _ _ _ h => h) (Or.inl ⟨by rfl, ?_⟩) (by assumption) ?_
            · intro X hSw
              obtain ⟨e1, e2, e3, e4, e5, e6, e7, e8, e9, e10, e11⟩ := HCL.out X hSw
              clear hSw
              go_simp
            simp only [Act.put, List.setIfInBounds_toArray, List.set_cons_zero, List.set_cons_succ]
            refine wpAnyH_ready (rs := [17]) (by kernel_rfl) (by simp) ?_
            refine AllReadyH.cons rfl (fun K hK => ?_) AllReadyH.nil
            obtain ⟨c4, f4⟩ := HCn.out
            go_simp
            obtain ⟨W44, hW44⟩ : ∃ W44, W44 = World.setCell W43 ⟨B, 4, none⟩ (.slice p2 (m + 1) c2) := ⟨_, rfl⟩
            obtain ⟨who', hA⟩ := HFin.out W44 hW44
            have HA : Hid (AftT who u W44 B (Me.begin q ca cb ⟨k0, o1, o2, o3, o4, o5, o6, k7, k8⟩) (n + 1) who') := hA
            rw [← hW44]
            clear hW44 hA c4 f4
            refine hK.out _ _ HA.out.2.2 (fun hHeld2 => ?_)
            clear hK K hHeld hHeld2
            refine wpAnyH_done (by kernel_rfl) ?_ _
            go_wp2_with fail
            go_meet
            exact ⟨rfl, who', HA⟩
        · go_simp
          obtain ⟨W45, hW45⟩ : ∃ W45, W45 = World.alloc W34 (.map #[] 0) := ⟨_, rfl⟩
          obtain ⟨bv, hbv⟩ : ∃ bv, bv = W34.heap.size := ⟨_, rfl⟩
          have hbn : Below W34.heap.size W34 W45 := by rw [hW45]; exact below_alloc _ _
          have HBW45 : Hid (Below u.heap.size u W45) := Below.trans HBW34.out (Below.mono hbn (Below.size HBW34.out))
          have HMW45v : Hid (MapIn u bv W45) := by rw [hbv, hW45]; exact MapIn.new HBW34.out
          rw [← hW45, ← hbv]
          clear hW45 hbv hbn
          refine hK.out _ _ (KeptQ.ofBelow (HBW45.out)) (fun hHeld2 => ?_)
          clear hK K hHeld
          have hHeld := hHeld2
          clear hHeld2
          refine wpAnyH_ready (rs := [4, 11]) (by kernel_rfl) (by simp) ?_
          refine AllReadyH.cons rfl (fun K hK => ?_) (AllReadyH.cons rfl (fun K hK => ?_) AllReadyH.nil)
          · have y4 := (HQ4.out W45 HBW45.out).2
            go_simp
            refine hK.out _ _ (KeptQ.ofBelow (HBW45.out)) (fun hHeld2 => ?_)
            clear hK K hHeld
            have hHeld := hHeld2
            clear hHeld2
            clear y4
            refine wpAnyH_ready (rs := [11]) (by kernel_rfl) (by simp) ?_
            refine AllReadyH.cons rfl (fun K hK => ?_) AllReadyH.nil
            go_simp
            obtain ⟨W46, hW46⟩ : ∃ W46, W46 = World.alloc W45 (.map #[] 0) := ⟨_, rfl⟩
            obtain ⟨be, hbe⟩ : ∃ be, be = W45.heap.size := ⟨_, rfl⟩
            have hbn : Below W45.heap.size W45 W46 := by rw [hW46]; exact below_alloc _ _
            have HBW46 : Hid (Below u.heap.size u W46) := Below.trans HBW45.out (Below.mono hbn (Below.size HBW45.out))
            have HMW46e : Hid (MapIn u be W46) := by rw [hbe, hW46]; exact MapIn.new HBW45.out
            have HMW46v : Hid (MapIn u bv W46) := MapIn.below HMW45v.out hbn
            have HNe : Hid (bv ≠ be) := by have := MapIn.lt HMW45v.out; show bv ≠ be; omega
            rw [← hW46, ← hbe]
            clear hW46 hbe hbn
            refine hK.out _ _ (KeptQ.ofBelow (HBW46.out)) (fun hHeld2 => ?_)
            clear hK K hHeld
            have hHeld := hHeld2
            clear hHeld2
            refine takeM (i := 12) (d := 58) (v := .agg #[.int .i64 ca, .int .i64 cb, .int .i64 k0, .string o1, .string o2, .string o3, .string o4, .string o5, .string o6, .int .i64 k7, .int .i64 k8, .map (some bv), .map (some be), .string ⟨#[]⟩]) rfl rfl (by kernel_rfl) (by kernel_rfl) (by kernel_rfl) (fun _ _ _ h => h) (Or.inl ⟨by rfl, ?_⟩) (by assumption) ?_
            · intro X hSw
              obtain ⟨e1, e2, e3, e4, e5, e6, e7, e8, e9, e10, e11⟩ := HCL.out X hSw
              clear hSw
              go_simp
            simp only [Act.put, List.setIfInBounds_toArray, List.set_cons_zero, List.set_cons_succ]
            refine wpAnyH_ready (rs := [13]) (by kernel_rfl) (by simp) ?_
            refine AllReadyH.cons rfl (fun K hK => ?_) AllReadyH.nil
            go_simp
            obtain ⟨W47, hW47⟩ : ∃ W47, W47 = World.alloc W46 (.cells #[.int .i64 ca, .int .i64 cb, .int .i64 k0, .string o1, .string o2, .string o3, .string o4, .string o5, .string o6, .int .i64 k7, .int .i64 k8, .map (some bv), .map (some be), .string ⟨#[]⟩] 70) := ⟨_, rfl⟩
            obtain ⟨bs, hbs⟩ : ∃ bs, bs = W46.heap.size := ⟨_, rfl⟩
            have hbn : Below W46.heap.size W46 W47 := by rw [hW47]; exact below_alloc _ _
            have HBW47 : Hid (Below u.heap.size u W47) := Below.trans HBW46.out (Below.mono hbn (Below.size HBW46.out))
            have HMW47v : Hid (MapIn u bv W47) := MapIn.below HMW46v.out hbn
            have HMW47e : Hid (MapIn u be W47) := MapIn.below HMW46e.out hbn
            have HSr : Hid (∀ (j : Nat) x, ([.int .i64 ca, .int .i64 cb, .int .i64 k0, .string o1, .string o2, .string o3, .string o4, .string o5, .string o6, .int .i64 k7, .int .i64 k8, .map (some bv), .map (some be), .string ⟨#[]⟩] : List Value)[j]? = some x → W47.cell? ⟨bs, j, none⟩ = some x) := fun j x hx => by rw [hW47, hbs, World.cell?_alloc_mark]; simpa using hx
            have HSl : Hid (bs < W47.heap.size) := by show bs < _; rw [hW47, hbs]; simp
            rw [← hW47, ← hbs]
            clear hW47 hbs hbn
            refine hK.out _ _ (KeptQ.ofBelow (HBW47.out)) (fun hHeld2 => ?_)
            clear hK K hHeld
            have hHeld := hHeld2
            clear hHeld2
            have HRow : Hid (RowC W47 14 (.slice pp m cc) m (txsC vb eb (q.ans + 1) q.wait)) := by
              have := (HQ.out.2.below HQ.out.1.np HBW47.out).r.row
              rw [← HM.out] at this
              exact this
            have HSrc : Hid (Src Try.prog 14 63 (.slice (some ⟨bs, 0, none⟩) 1 1) 1 [.int .i64 ca, .int .i64 cb, .int .i64 k0, .string o1, .string o2, .string o3, .string o4, .string o5, .string o6, .int .i64 k7, .int .i64 k8, .map (some bv), .map (some be), .string ⟨#[]⟩] W47) := src_tx W47 [.int .i64 ca, .int .i64 cb, .int .i64 k0, .string o1, .string o2, .string o3, .string o4, .string o5, .string o6, .int .i64 k7, .int .i64 k8, .map (some bv), .map (some be), .string ⟨#[]⟩] HSr.out rfl (txC_one (Me.fresh ca cb ⟨k0, o1, o2, o3, o4, o5, o6, k7, k8⟩) bv be)
            refine wpAnyH_ready (rs := [14]) (by kernel_rfl) (by simp) ?_
            refine AllReadyH.cons rfl (fun K hK => ?_) AllReadyH.nil
            refine stepM 60 rfl rfl _ _ _ _ 70 rfl Try.underlying63 _ _ _ txInfoZ rfl (.slice pp m cc) m _ rfl HRow.out _ 1 _ rfl HSrc.out (by omega) (by unfold maxLen; omega) ?_
            intro v' W48 hr2 hg2 hk2
            obtain ⟨p2, c2, hv2, _, _⟩ := hr2.form
            have HFin : Hid (∀ F, F = W48.setCell ⟨B, 4, none⟩ v' → ∃ who', AftT who u F B (Me.begin q ca cb ⟨k0, o1, o2, o3, o4, o5, o6, k7, k8⟩) (n + 1) who') := fun F hF => AftT.app HQ.out.1 HQ.out.2 HBW47.out (MapIn.is HMW47v.out) (MapIn.is HMW47e.out) HNe.out ⟨MapIn.lo HMW47v.out, MapIn.lo HMW47e.out⟩ (by rw [← HM.out]; exact hr2) hg2 hk2 hF HOk2.out
            have hKn : KeptQ who u W48 := (KeptQ.ofBelow HBW47.out).grown hg2 (fun k hk _ => by have := HQ.out.2.r.wr k hk; omega)
            have HCn : Hid (W48.cell? ⟨B, 4, none⟩ = some (.slice pp m cc) ∧ W48.frozen? ⟨B, 4, none⟩ = false) := by
              have hq2 := HQ.out.2.below HQ.out.1.np HBW47.out
              have hb : W48.heap[B]? = W47.heap[B]? := hg2.block B (hq2.r.here B (by rw [hq2.wB]; omega)) (fun e => by have := HQ.out.2.r.wr B e.symm; rw [HQ.out.2.wB] at this; omega)
              exact ⟨(World.cell?_of_block (a := ⟨B, 4, none⟩) hb).trans hq2.b.c4, (World.frozen?_of_block (a := ⟨B, 4, none⟩) hb).trans (hq2.b.fz 4)⟩
            have HKn : Hid (KeptQ who u W48) := hKn
            subst hv2
            clear hr2 hg2 hk2 hKn
            refine hK.out _ _ HKn.out (fun hHeld2 => ?_)
            clear hK K hHeld
            have hHeld := hHeld2
            clear hHeld2
            simp only [Act.put, List.setIfInBounds_toArray, List.set_cons_zero, List.set_cons_succ]
            refine takeM (i := 15) (d := 61) (v := .pointer (some ⟨B, 0, none⟩)) rfl rfl (by kernel_rfl) (by kernel_rfl) (by kernel_rfl) (fun _ _ _ h => h) (Or.inl ⟨by rfl, ?_⟩) (by assumption) ?_
            · intro X hSw
              obtain ⟨e1, e2, e3, e4, e5, e6, e7, e8, e9, e10, e11⟩ := HCL.out X hSw
              clear hSw
              go_simp
            simp only [Act.put, List.setIfInBounds_toArray, List.set_cons_zero, List.set_cons_succ]
            refine takeM (i := 16) (d := 62) (v := .pointer (some ⟨B, 4, none⟩)) rfl rfl (by kernel_rfl) (by kernel_rfl) (by kernel_rfl) (fun _ _ _ h => h) (Or.inl ⟨by rfl, ?_⟩) (by assumption) ?_
            · intro X hSw
              obtain ⟨e1, e2, e3, e4, e5, e6, e7, e8, e9, e10, e11⟩ := HCL.out X hSw
              clear hSw
              go_simp
            simp only [Act.put, List.setIfInBounds_toArray, List.set_cons_zero, List.set_cons_succ]
            refine wpAnyH_ready (rs := [17]) (by kernel_rfl) (by simp) ?_
            refine AllReadyH.cons rfl (fun K hK => ?_) AllReadyH.nil
            obtain ⟨c4, f4⟩ := HCn.out
            go_simp
            obtain ⟨W49, hW49⟩ : ∃ W49, W49 = World.setCell W48 ⟨B, 4, none⟩ (.slice p2 (m + 1) c2) := ⟨_, rfl⟩
            obtain ⟨who', hA⟩ := HFin.out W49 hW49
            have HA : Hid (AftT who u W49 B (Me.begin q ca cb ⟨k0, o1, o2, o3, o4, o5, o6, k7, k8⟩) (n + 1) who') := hA
            rw [← hW49]
            clear hW49 hA c4 f4
            refine hK.out _ _ HA.out.2.2 (fun hHeld2 => ?_)
            clear hK K hHeld hHeld2
            refine wpAnyH_done (by kernel_rfl) ?_ _
            go_wp2_with fail
            go_meet
            exact ⟨rfl, who', HA⟩
          · go_simp
            obtain ⟨W50, hW50⟩ : ∃ W50, W50 = World.alloc W45 (.map #[] 0) := ⟨_, rfl⟩
            obtain ⟨be, hbe⟩ : ∃ be, be = W45.heap.size := ⟨_, rfl⟩
            have hbn : Below W45.heap.size W45 W50 := by rw [hW50]; exact below_alloc _ _
            have HBW50 : Hid (Below u.heap.size u W50) := Below.trans HBW45.out (Below.mono hbn (Below.size HBW45.out))
            have HMW50e : Hid (MapIn u be W50) := by rw [hbe, hW50]; exact MapIn.new HBW45.out
            have HMW50v : Hid (MapIn u bv W50) := MapIn.below HMW45v.out hbn
            have HNe : Hid (bv ≠ be) := by have := MapIn.lt HMW45v.out; show bv ≠ be; omega
            rw [← hW50, ← hbe]
            clear hW50 hbe hbn
            refine hK.out _ _ (KeptQ.ofBelow (HBW50.out)) (fun hHeld2 => ?_)
            clear hK K hHeld
            have hHeld := hHeld2
            clear hHeld2
            refine takeM (i := 12) (d := 58) (v := .agg #[.int .i64 ca, .int .i64 cb, .int .i64 k0, .string o1, .string o2, .string o3, .string o4, .string o5, .string o6, .int .i64 k7, .int .i64 k8, .map (some bv), .map (some be), .string ⟨#[]⟩]) rfl rfl (by kernel_rfl) (by kernel_rfl) (by kernel_rfl) (fun _ _ _ h => h) (Or.inl ⟨by rfl, ?_⟩) (by assumption) ?_
            · intro X hSw
              obtain ⟨e1, e2, e3, e4, e5, e6, e7, e8, e9, e10, e11⟩ := HCL.out X hSw
              clear hSw
              go_simp
            simp only [Act.put, List.setIfInBounds_toArray, List.set_cons_zero, List.set_cons_succ]
            refine wpAnyH_ready (rs := [4, 13]) (by kernel_rfl) (by simp) ?_
            refine AllReadyH.cons rfl (fun K hK => ?_) (AllReadyH.cons rfl (fun K hK => ?_) AllReadyH.nil)
            · have y4 := (HQ4.out W50 HBW50.out).2
              go_simp
              refine hK.out _ _ (KeptQ.ofBelow (HBW50.out)) (fun hHeld2 => ?_)
              clear hK K hHeld
              have hHeld := hHeld2
              clear hHeld2
              clear y4
              refine wpAnyH_ready (rs := [13]) (by kernel_rfl) (by simp) ?_
              refine AllReadyH.cons rfl (fun K hK => ?_) AllReadyH.nil
              go_simp
              obtain ⟨W51, hW51⟩ : ∃ W51, W51 = World.alloc W50 (.cells #[.int .i64 ca, .int .i64 cb, .int .i64 k0, .string o1, .string o2, .string o3, .string o4, .string o5, .string o6, .int .i64 k7, .int .i64 k8, .map (some bv), .map (some be), .string ⟨#[]⟩] 70) := ⟨_, rfl⟩
              obtain ⟨bs, hbs⟩ : ∃ bs, bs = W50.heap.size := ⟨_, rfl⟩
              have hbn : Below W50.heap.size W50 W51 := by rw [hW51]; exact below_alloc _ _
              have HBW51 : Hid (Below u.heap.size u W51) := Below.trans HBW50.out (Below.mono hbn (Below.size HBW50.out))
              have HMW51v : Hid (MapIn u bv W51) := MapIn.below HMW50v.out hbn
              have HMW51e : Hid (MapIn u be W51) := MapIn.below HMW50e.out hbn
              have HSr : Hid (∀ (j : Nat) x, ([.int .i64 ca, .int .i64 cb, .int .i64 k0, .string o1, .string o2, .string o3, .string o4, .string o5, .string o6, .int .i64 k7, .int .i64 k8, .map (some bv), .map (some be), .string ⟨#[]⟩] : List Value)[j]? = some x → W51.cell? ⟨bs, j, none⟩ = some x) := fun j x hx => by rw [hW51, hbs, World.cell?_alloc_mark]; simpa using hx
              have HSl : Hid (bs < W51.heap.size) := by show bs < _; rw [hW51, hbs]; simp
              rw [← hW51, ← hbs]
              clear hW51 hbs hbn
              refine hK.out _ _ (KeptQ.ofBelow (HBW51.out)) (fun hHeld2 => ?_)
              clear hK K hHeld
              have hHeld := hHeld2
              clear hHeld2
              have HRow : Hid (RowC W51 14 (.slice pp m cc) m (txsC vb eb (q.ans + 1) q.wait)) := by
                have := (HQ.out.2.below HQ.out.1.np HBW51.out).r.row
                rw [← HM.out] at this
                exact this
              have HSrc : Hid (Src Try.prog 14 63 (.slice (some ⟨bs, 0, none⟩) 1 1) 1 [.int .i64 ca, .int .i64 cb, .int .i64 k0, .string o1, .string o2, .string o3, .string o4, .string o5, .string o6, .int .i64 k7, .int .i64 k8, .map (some bv), .map (some be), .string ⟨#[]⟩] W51) := src_tx W51 [.int .i64 ca, .int .i64 cb, .int .i64 k0, .string o1, .string o2, .string o3, .string o4, .string o5, .string o6, .int .i64 k7, .int .i64 k8, .map (some bv), .map (some be), .string ⟨#[]⟩] HSr.out rfl (txC_one (Me.fresh ca cb ⟨k0, o1, o2, o3, o4, o5, o6, k7, k8⟩) bv be)
              refine wpAnyH_ready (rs := [14]) (by kernel_rfl) (by simp) ?_
              refine AllReadyH.cons rfl (fun K hK => ?_) AllReadyH.nil
              refine stepM 60 rfl rfl _ _ _ _ 70 rfl Try.underlying63 _ _ _ txInfoZ rfl (.slice pp m cc) m _ rfl HRow.out _ 1 _ rfl HSrc.out (by omega) (by unfold maxLen; omega) ?_
              intro v' W52 hr2 hg2 hk2
              obtain ⟨p2, c2, hv2, _, _⟩ := hr2.form
              have HFin : Hid (∀ F, F = W52.setCell ⟨B, 4, none⟩ v' → ∃ who', AftT who u F B (Me.begin q ca cb ⟨k0, o1, o2, o3, o4, o5, o6, k7, k8⟩) (n + 1) who') := fun F hF => AftT.app HQ.out.1 HQ.out.2 HBW51.out (MapIn.is HMW51v.out) (MapIn.is HMW51e.out) HNe.out ⟨MapIn.lo HMW51v.out, MapIn.lo HMW51e.out⟩ (by rw [← HM.out]; exact hr2) hg2 hk2 hF HOk2.out
              have hKn : KeptQ who u W52 := (KeptQ.ofBelow HBW51.out).grown hg2 (fun k hk _ => by have := HQ.out.2.r.wr k hk; omega)
              have HCn : Hid (W52.cell? ⟨B, 4, none⟩ = some (.slice pp m cc) ∧ W52.frozen? ⟨B, 4, none⟩ = false) := by
                have hq2 := HQ.out.2.below HQ.out.1.np HBW51.out
                have hb : W52.heap[B]? = W51.heap[B]? := hg2.block B (hq2.r.here B (by rw [hq2.wB]; omega)) (fun e => by have := HQ.out.2.r.wr B e.symm; rw [HQ.out.2.wB] at this; omega)
                exact ⟨(World.cell?_of_block (a := ⟨B, 4, none⟩) hb).trans hq2.b.c4, (World.frozen?_of_block (a := ⟨B, 4, none⟩) hb).trans (hq2.b.fz 4)⟩
              have HKn : Hid (KeptQ who u W52) := hKn
              subst hv2
              clear hr2 hg2 hk2 hKn
              refine hK.out _ _ HKn.out (fun hHeld2 => ?_)
              clear hK K hHeld
              have hHeld := hHeld2
              clear hHeld2
              simp only [Act.put, List.setIfInBounds_toArray, List.set_cons_zero, List.set_cons_succ]
              refine takeM (i := 15) (d := 61) (v := .pointer (some ⟨B, 0, none⟩)) rfl rfl (by kernel_rfl) (by kernel_rfl) (by kernel_rfl) (fun _ _ _ h => h) (Or.inl ⟨by rfl, ?_⟩) (by assumption) ?_
              · intro X hSw
                obtain ⟨e1, e2, e3, e4, e5, e6, e7, e8, e9, e10, e11⟩ := HCL.out X hSw
                clear hSw
                go_simp
              simp only [Act.put, List.setIfInBounds_toArray, List.set_cons_zero, List.set_cons_succ]
              refine takeM (i := 16) (d := 62) (v := .pointer (some ⟨B, 4, none⟩)) rfl rfl (by kernel_rfl) (by kernel_rfl) (by kernel_rfl) (fun _ _ _ h => h) (Or.inl ⟨by rfl, ?_⟩) (by assumption) ?_
              · intro X hSw
                obtain ⟨e1, e2, e3, e4, e5, e6, e7, e8, e9, e10, e11⟩ := HCL.out X hSw
                clear hSw
                go_simp
              simp only [Act.put, List.setIfInBounds_toArray, List.set_cons_zero, List.set_cons_succ]
              refine wpAnyH_ready (rs := [17]) (by kernel_rfl) (by simp) ?_
              refine AllReadyH.cons rfl (fun K hK => ?_) AllReadyH.nil
              obtain ⟨c4, f4⟩ := HCn.out
              go_simp
              obtain ⟨W53, hW53⟩ : ∃ W53, W53 = World.setCell W52 ⟨B, 4, none⟩ (.slice p2 (m + 1) c2) := ⟨_, rfl⟩
              obtain ⟨who', hA⟩ := HFin.out W53 hW53
              have HA : Hid (AftT who u W53 B (Me.begin q ca cb ⟨k0, o1, o2, o3, o4, o5, o6, k7, k8⟩) (n + 1) who') := hA
              rw [← hW53]
              clear hW53 hA c4 f4
              refine hK.out _ _ HA.out.2.2 (fun hHeld2 => ?_)
              clear hK K hHeld hHeld2
              refine wpAnyH_done (by kernel_rfl) ?_ _
              go_wp2_with fail
              go_meet
              exact ⟨rfl, who', HA⟩
            · go_simp
              obtain ⟨W54, hW54⟩ : ∃ W54, W54 = World.alloc W50 (.cells #[.int .i64 ca, .int .i64 cb, .int .i64 k0, .string o1, .string o2, .string o3, .string o4, .string o5, .string o6, .int .i64 k7, .int .i64 k8, .map (some bv), .map (some be), .string ⟨#[]⟩] 70) := ⟨_, rfl⟩
              obtain ⟨bs, hbs⟩ : ∃ bs, bs = W50.heap.size := ⟨_, rfl⟩
              have hbn : Below W50.heap.size W50 W54 := by rw [hW54]; exact below_alloc _ _
              have HBW54 : Hid (Below u.heap.size u W54) := Below.trans HBW50.out (Below.mono hbn (Below.size HBW50.out))
              have HMW54v : Hid (MapIn u bv W54) := MapIn.below HMW50v.out hbn
              have HMW54e : Hid (MapIn u be W54) := MapIn.below HMW50e.out hbn
              have HSr : Hid (∀ (j : Nat) x, ([.int .i64 ca, .int .i64 cb, .int .i64 k0, .string o1, .string o2, .string o3, .string o4, .string o5, .string o6, .int .i64 k7, .int .i64 k8, .map (some bv), .map (some be), .string ⟨#[]⟩] : List Value)[j]? = some x → W54.cell? ⟨bs, j, none⟩ = some x) := fun j x hx => by rw [hW54, hbs, World.cell?_alloc_mark]; simpa using hx
              have HSl : Hid (bs < W54.heap.size) := by show bs < _; rw [hW54, hbs]; simp
              rw [← hW54, ← hbs]
              clear hW54 hbs hbn
              refine hK.out _ _ (KeptQ.ofBelow (HBW54.out)) (fun hHeld2 => ?_)
              clear hK K hHeld
              have hHeld := hHeld2
              clear hHeld2
              refine wpAnyH_ready (rs := [4]) (by kernel_rfl) (by simp) ?_
              refine AllReadyH.cons rfl (fun K hK => ?_) AllReadyH.nil
              have y4 := (HQ4.out W54 HBW54.out).2
              go_simp
              refine hK.out _ _ (KeptQ.ofBelow (HBW54.out)) (fun hHeld2 => ?_)
              clear hK K hHeld
              have hHeld := hHeld2
              clear hHeld2
              clear y4
              have HRow : Hid (RowC W54 14 (.slice pp m cc) m (txsC vb eb (q.ans + 1) q.wait)) := by
                have := (HQ.out.2.below HQ.out.1.np HBW54.out).r.row
                rw [← HM.out] at this
                exact this
              have HSrc : Hid (Src Try.prog 14 63 (.slice (some ⟨bs, 0, none⟩) 1 1) 1 [.int .i64 ca, .int .i64 cb, .int .i64 k0, .string o1, .string o2, .string o3, .string o4, .string o5, .string o6, .int .i64 k7, .int .i64 k8, .map (some bv), .map (some be), .string ⟨#[]⟩] W54) := src_tx W54 [.int .i64 ca, .int .i64 cb, .int .i64 k0, .string o1, .string o2, .string o3, .string o4, .string o5, .string o6, .int .i64 k7, .int .i64 k8, .map (some bv), .map (some be), .string ⟨#[]⟩] HSr.out rfl (txC_one (Me.fresh ca cb ⟨k0, o1, o2, o3, o4, o5, o6, k7, k8⟩) bv be)
              refine wpAnyH_ready (rs := [14]) (by kernel_rfl) (by simp) ?_
              refine AllReadyH.cons rfl (fun K hK => ?_) AllReadyH.nil
              refine stepM 60 rfl rfl _ _ _ _ 70 rfl Try.underlying63 _ _ _ txInfoZ rfl (.slice pp m cc) m _ rfl HRow.out _ 1 _ rfl HSrc.out (by omega) (by unfold maxLen; omega) ?_
              intro v' W55 hr2 hg2 hk2
              obtain ⟨p2, c2, hv2, _, _⟩ := hr2.form
              have HFin : Hid (∀ F, F = W55.setCell ⟨B, 4, none⟩ v' → ∃ who', AftT who u F B (Me.begin q ca cb ⟨k0, o1, o2, o3, o4, o5, o6, k7, k8⟩) (n + 1) who') := fun F hF => AftT.app HQ.out.1 HQ.out.2 HBW54.out (MapIn.is HMW54v.out) (MapIn.is HMW54e.out) HNe.out ⟨MapIn.lo HMW54v.out, MapIn.lo HMW54e.out⟩ (by rw [← HM.out]; exact hr2) hg2 hk2 hF HOk2.out
              have hKn : KeptQ who u W55 := (KeptQ.ofBelow HBW54.out).grown hg2 (fun k hk _ => by have := HQ.out.2.r.wr k hk; omega)
              have HCn : Hid (W55.cell? ⟨B, 4, none⟩ = some (.slice pp m cc) ∧ W55.frozen? ⟨B, 4, none⟩ = false) := by
                have hq2 := HQ.out.2.below HQ.out.1.np HBW54.out
                have hb : W55.heap[B]? = W54.heap[B]? := hg2.block B (hq2.r.here B (by rw [hq2.wB]; omega)) (fun e => by have := HQ.out.2.r.wr B e.symm; rw [HQ.out.2.wB] at this; omega)
                exact ⟨(World.cell?_of_block (a := ⟨B, 4, none⟩) hb).trans hq2.b.c4, (World.frozen?_of_block (a := ⟨B, 4, none⟩) hb).trans (hq2.b.fz 4)⟩
              have HKn : Hid (KeptQ who u W55) := hKn
              subst hv2
              clear hr2 hg2 hk2 hKn
              refine hK.out _ _ HKn.out (fun hHeld2 => ?_)
              clear hK K hHeld
              have hHeld := hHeld2
              clear hHeld2
              simp only [Act.put, List.setIfInBounds_toArray, List.set_cons_zero, List.set_cons_succ]
              refine takeM (i := 15) (d := 61) (v := .pointer (some ⟨B, 0, none⟩)) rfl rfl (by kernel_rfl) (by kernel_rfl) (by kernel_rfl) (fun _ _ _ h => h) (Or.inl ⟨by rfl, ?_⟩) (by assumption) ?_
              · intro X hSw
                obtain ⟨e1, e2, e3, e4, e5, e6, e7, e8, e9, e10, e11⟩ := HCL.out X hSw
                clear hSw
                go_simp
              simp only [Act.put, List.setIfInBounds_toArray, List.set_cons_zero, List.set_cons_succ]
              refine takeM (i := 16) (d := 62) (v := .pointer (some ⟨B, 4, none⟩)) rfl rfl (by kernel_rfl) (by kernel_rfl) (by kernel_rfl) (fun _ _ _ h => h) (Or.inl ⟨by rfl, ?_⟩) (by assumption) ?_
              · intro X hSw
                obtain ⟨e1, e2, e3, e4, e5, e6, e7, e8, e9, e10, e11⟩ := HCL.out X hSw
                clear hSw
                go_simp
              simp only [Act.put, List.setIfInBounds_toArray, List.set_cons_zero, List.set_cons_succ]
              refine wpAnyH_ready (rs := [17]) (by kernel_rfl) (by simp) ?_
              refine AllReadyH.cons rfl (fun K hK => ?_) AllReadyH.nil
              obtain ⟨c4, f4⟩ := HCn.out
              go_simp
              obtain ⟨W56, hW56⟩ : ∃ W56, W56 = World.setCell W55 ⟨B, 4, none⟩ (.slice p2 (m + 1) c2) := ⟨_, rfl⟩
              obtain ⟨who', hA⟩ := HFin.out W56 hW56
              have HA : Hid (AftT who u W56 B (Me.begin q ca cb ⟨k0, o1, o2, o3, o4, o5, o6, k7, k8⟩) (n + 1) who') := hA
              rw [← hW56]
              clear hW56 hA c4 f4
              refine hK.out _ _ HA.out.2.2 (fun hHeld2 => ?_)
              clear hK K hHeld hHeld2
              refine wpAnyH_done (by kernel_rfl) ?_ _
              go_wp2_with fail
              go_meet
              exact ⟨rfl, who', HA⟩
        · go_simp
          obtain ⟨W57, hW57⟩ : ∃ W57, W57 = World.alloc W34 (.map #[] 0) := ⟨_, rfl⟩
          obtain ⟨be, hbe⟩ : ∃ be, be = W34.heap.size := ⟨_, rfl⟩
          have hbn : Below W34.heap.size W34 W57 := by rw [hW57]; exact below_alloc _ _
          have HBW57 : Hid (Below u.heap.size u W57) := Below.trans HBW34.out (Below.mono hbn (Below.size HBW34.out))
          have HMW57e : Hid (MapIn u be W57) := by rw [hbe, hW57]; exact MapIn.new HBW34.out
          rw [← hW57, ← hbe]
          clear hW57 hbe hbn
          refine hK.out _ _ (KeptQ.ofBelow (HBW57.out)) (fun hHeld2 => ?_)
          clear hK K hHeld
          have hHeld := hHeld2
          clear hHeld2
          refine wpAnyH_ready (rs := [4, 10]) (by kernel_rfl) (by simp) ?_
          refine AllReadyH.cons rfl (fun K hK => ?_) (AllReadyH.cons rfl (fun K hK => ?_) AllReadyH.nil)
          · have y4 := (HQ4.out W57 HBW57.out).2
            go_simp
            refine hK.out _ _ (KeptQ.ofBelow (HBW57.out)) (fun hHeld2 => ?_)
            clear hK K hHeld
            have hHeld := hHeld2
            clear hHeld2
            clear y4
            refine wpAnyH_ready (rs := [10]) (by kernel_rfl) (by simp) ?_
            refine AllReadyH.cons rfl (fun K hK => ?_) AllReadyH.nil
            go_simp
            obtain ⟨W58, hW58⟩ : ∃ W58, W58 = World.alloc W57 (.map #[] 0) := ⟨_, rfl⟩
            obtain ⟨bv, hbv⟩ : ∃ bv, bv = W57.heap.size := ⟨_, rfl⟩
            have hbn : Below W57.heap.size W57 W58 := by rw [hW58]; exact below_alloc _ _
            have HBW58 : Hid (Below u.heap.size u W58) := Below.trans HBW57.out (Below.mono hbn (Below.size HBW57.out))
            have HMW58v : Hid (MapIn u bv W58) := by rw [hbv, hW58]; exact MapIn.new HBW57.out
            have HMW58e : Hid (MapIn u be W58) := MapIn.below HMW57e.out hbn
            have HNe : Hid (bv ≠ be) := by have := MapIn.lt HMW57e.out; show bv ≠ be; omega
            rw [← hW58, ← hbv]
            clear hW58 hbv hbn
            refine hK.out _ _ (KeptQ.ofBelow (HBW58.out)) (fun hHeld2 => ?_)
            clear hK K hHeld
            have hHeld := hHeld2
            clear hHeld2
            refine takeM (i := 12) (d := 58) (v := .agg #[.int .i64 ca, .int .i64 cb, .int .i64 k0, .string o1, .string o2, .string o3, .string o4, .string o5, .string o6, .int .i64 k7, .int .i64 k8, .map (some bv), .map (some be), .string ⟨#[]⟩]) rfl rfl (by kernel_rfl) (by kernel_rfl) (by kernel_rfl) (fun _ _ _ h => h) (Or.inl ⟨by rfl, ?_⟩) (by assumption) ?_
            · intro X hSw
              obtain ⟨e1, e2, e3, e4, e5, e6, e7, e8, e9, e10, e11⟩ := HCL.out X hSw
              clear hSw
              go_simp
            simp only [Act.put, List.setIfInBounds_toArray, List.set_cons_zero, List.set_cons_succ]
            refine wpAnyH_ready (rs := [13]) (by kernel_rfl) (by simp) ?_
            refine AllReadyH.cons rfl (fun K hK => ?_) AllReadyH.nil
            go_simp
            obtain ⟨W59, hW59⟩ : ∃ W59, W59 = World.alloc W58 (.cells #[.int .i64 ca, .int .i64 cb, .int .i64 k0, .string o1, .string o2, .string o3, .string o4, .string o5, .string o6, .int .i64 k7, .int .i64 k8, .map (some bv), .map (some be), .string ⟨#[]⟩] 70) := ⟨_, rfl⟩
            obtain ⟨bs, hbs⟩ : ∃ bs, bs = W58.heap.size := ⟨_, rfl⟩
            have hbn : Below W58.heap.size W58 W59 := by rw [hW59]; exact below_alloc _ _
            have HBW59 : Hid (Below u.heap.size u W59) := Below.trans HBW58.out (Below.mono hbn (Below.size HBW58.out))
            have HMW59v : Hid (MapIn u bv W59) := MapIn.below HMW58v.out hbn
            have HMW59e : Hid (MapIn u be W59) := MapIn.below HMW58e.out hbn
            have HSr : Hid (∀ (j : Nat) x, ([.int .i64 ca, .int .i64 cb, .int .i64 k0, .string o1, .string o2, .string o3, .string o4, .string o5, .string o6, .int .i64 k7, .int .i64 k8, .map (some bv), .map (some be), .string ⟨#[]⟩] : List Value)[j]? = some x → W59.cell? ⟨bs, j, none⟩ = some x) := fun j x hx => by rw [hW59, hbs, World.cell?_alloc_mark]; simpa using hx
            have HSl : Hid (bs < W59.heap.size) := by show bs < _; rw [hW59, hbs]; simp
            rw [← hW59, ← hbs]
            clear hW59 hbs hbn
            refine hK.out _ _ (KeptQ.ofBelow (HBW59.out)) (fun hHeld2 => ?_)
            clear hK K hHeld
            have hHeld := hHeld2
            clear hHeld2
            have HRow : Hid (RowC W59 14 (.slice pp m cc) m (txsC vb eb (q.ans + 1) q.wait)) := by
              have := (HQ.out.2.below HQ.out.1.np HBW59.out).r.row
              rw [← HM.out] at this
              exact this
            have HSrc : Hid (Src Try.prog 14 63 (.slice (some ⟨bs, 0, none⟩) 1 1) 1 [.int .i64 ca, .int .i64 cb, .int .i64 k0, .string o1, .string o2, .string o3, .string o4, .string o5, .string o6, .int .i64 k7, .int .i64 k8, .map (some bv), .map (some be), .string ⟨#[]⟩] W59) := src_tx W59 [.int .i64 ca, .int .i64 cb, .int .i64 k0, .string o1, .string o2, .string o3, .string o4, .string o5, .string o6, .int .i64 k7, .int .i64 k8, .map (some bv), .map (some be), .string ⟨#[]⟩] HSr.out rfl (txC_one (Me.fresh ca cb ⟨k0, o1, o2, o3, o4, o5, o6, k7, k8⟩) bv be)
            refine wpAnyH_ready (rs := [14]) (by kernel_rfl) (by simp) ?_
            refine AllReadyH.cons rfl (fun K hK => ?_) AllReadyH.nil
            refine stepM 60 rfl rfl _ _ _ _ 70 rfl Try.underlying63 _ _ _ txInfoZ rfl (.slice pp m cc) m _ rfl HRow.out _ 1 _ rfl HSrc.out (by omega) (by unfold maxLen; omega) ?_
            intro v' W60 hr2 hg2 hk2
            obtain ⟨p2, c2, hv2, _, _⟩ := hr2.form
            have HFin : Hid (∀ F, F = W60.setCell ⟨B, 4, none⟩ v' → ∃ who', AftT who u F B (Me.begin q ca cb ⟨k0, o1, o2, o3, o4, o5, o6, k7, k8⟩) (n + 1) who') := fun F hF => AftT.app HQ.out.1 HQ.out.2 HBW59.out (MapIn.is HMW59v.out) (MapIn.is HMW59e.out) HNe.out ⟨MapIn.lo HMW59v.out, MapIn.lo HMW59e.out⟩ (by rw [← HM.out]; exact hr2) hg2 hk2 hF HOk2.out
            have hKn : KeptQ who u W60 := (KeptQ.ofBelow HBW59.out).grown hg2 (fun k hk _ => by have := HQ.out.2.r.wr k hk; omega)
            have HCn : Hid (W60.cell? ⟨B, 4, none⟩ = some (.slice pp m cc) ∧ W60.frozen? ⟨B, 4, none⟩ = false) := by
              have hq2 := HQ.out.2.below HQ.out.1.np HBW59.out
              have hb : W60.heap[B]? = W59.heap[B]? := hg2.block B (hq2.r.here B (by rw [hq2.wB]; omega)) (fun e => by have := HQ.out.2.r.wr B e.symm; rw [HQ.out.2.wB] at this; omega)
              exact ⟨(World.cell?_of_block (a := ⟨B, 4, none⟩) hb).trans hq2.b.c4, (World.frozen?_of_block (a := ⟨B, 4, none⟩) hb).trans (hq2.b.fz 4)⟩
            have HKn : Hid (KeptQ who u W60) := hKn
            subst hv2
            clear hr2 hg2 hk2 hKn
            refine hK.out _ _ HKn.out (fun hHeld2 => ?_)
            clear hK K hHeld
            have hHeld := hHeld2
            clear hHeld2
            simp only [Act.put, List.setIfInBounds_toArray, List.set_cons_zero, List.set_cons_succ]
            refine takeM (i := 15) (d := 61) (v := .pointer (some ⟨B, 0, none⟩)) rfl rfl (by kernel_rfl) (by kernel_rfl) (by kernel_rfl) (fun _ _ _ h => h) (Or.inl ⟨by rfl, ?_⟩) (by assumption) ?_
            · intro X hSw
              obtain ⟨e1, e2, e3, e4, e5, e6, e7, e8, e9, e10, e11⟩ := HCL.out X hSw
              clear hSw
              go_simp
            simp only [Act.put, List.setIfInBounds_toArray, List.set_cons_zero, List.set_cons_succ]
            refine takeM (i := 16) (d := 62) (v := .pointer (some ⟨B, 4, none⟩)) rfl rfl (by kernel_rfl) (by kernel_rfl) (by kernel_rfl) (fun _ _ _ h => h) (Or.inl ⟨by rfl, ?_⟩) (by assumption) ?_
            · intro X hSw
              obtain ⟨e1, e2, e3, e4, e5, e6, e7, e8, e9, e10, e11⟩ := HCL.out X hSw
              clear hSw
              go_simp
            simp only [Act.put, List.setIfInBounds_toArray, List.set_cons_zero, List.set_cons_succ]
            refine wpAnyH_ready (rs := [17]) (by kernel_rfl) (by simp) ?_
            refine AllReadyH.cons rfl (fun K hK => ?_) AllReadyH.nil
            obtain ⟨c4, f4⟩ := HCn.out
            go_simp
            obtain ⟨W61, hW61⟩ : ∃ W61, W61 = World.setCell W60 ⟨B, 4, none⟩ (.slice p2 (m + 1) c2) := ⟨_, rfl⟩
            obtain ⟨who', hA⟩ := HFin.out W61 hW61
            have HA : Hid (AftT who u W61 B (Me.begin q ca cb ⟨k0, o1, o2, o3, o4, o5, o6, k7, k8⟩) (n + 1) who') := hA
            rw [← hW61]
            clear hW61 hA c4 f4
            refine hK.out _ _ HA.out.2.2 (fun hHeld2 => ?_)
            clear hK K hHeld hHeld2
            refine wpAnyH_done (by kernel_rfl) ?_ _
            go_wp2_with fail
            go_meet
            exact ⟨rfl, who', HA⟩
          · go_simp
            obtain ⟨W62, hW62⟩ : ∃ W62, W62 = World.alloc W57 (.map #[] 0) := ⟨_, rfl⟩
            obtain ⟨bv, hbv⟩ : ∃ bv, bv = W57.heap.size := ⟨_, rfl⟩
            have hbn : Below W57.heap.size W57 W62 := by rw [hW62]; exact below_alloc _ _
            have HBW62 : Hid (Below u.heap.size u W62) := Below.trans HBW57.out (Below.mono hbn (Below.size HBW57.out))
            have HMW62v : Hid (MapIn u bv W62) := by rw [hbv, hW62]; exact MapIn.new HBW57.out
            have HMW62e : Hid (MapIn u be W62) := MapIn.below HMW57e.out hbn
            have HNe : Hid (bv ≠ be) := by have := MapIn.lt HMW57e.out; show bv ≠ be; omega
            rw [← hW62, ← hbv]
            clear hW62 hbv hbn
            refine hK.out _ _ (KeptQ.ofBelow (HBW62.out)) (fun hHeld2 => ?_)
            clear hK K hHeld
            have hHeld := hHeld2
            clear hHeld2
            refine takeM (i := 12) (d := 58) (v := .agg #[.int .i64 ca, .int .i64 cb, .int .i64 k0, .string o1, .string o2, .string o3, .string o4, .string o5, .string o6, .int .i64 k7, .int .i64 k8, .map (some bv), .map (some be), .string ⟨#[]⟩]) rfl rfl (by kernel_rfl) (by kernel_rfl) (by kernel_rfl) (fun _ _ _ h => h) (Or.inl ⟨by rfl, ?_⟩) (by assumption) ?_
            · intro X hSw
              obtain ⟨e1, e2, e3, e4, e5, e6, e7, e8, e9, e10, e11⟩ := HCL.out X hSw
              clear hSw
              go_simp
            simp only [Act.put, List.setIfInBounds_toArray, List.set_cons_zero, List.set_cons_succ]
            refine wpAnyH_ready (rs := [4, 13]) (by kernel_rfl) (by simp) ?_
            refine AllReadyH.cons rfl (fun K hK => ?_) (AllReadyH.cons rfl (fun K hK => ?_) AllReadyH.nil)
            · have y4 := (HQ4.out W62 HBW62.out).2
              go_simp
              refine hK.out _ _ (KeptQ.ofBelow (HBW62.out)) (fun hHeld2 => ?_)
              clear hK K hHeld
              have hHeld := hHeld2
              clear hHeld2
              clear y4
              refine wpAnyH_ready (rs := [13]) (by kernel_rfl) (by simp) ?_
              refine AllReadyH.cons rfl (fun K hK => ?_) AllReadyH.nil
              go_simp
              obtain ⟨W63, hW63⟩ : ∃ W63, W63 = World.alloc W62 (.cells #[.int .i64 ca, .int .i64 cb, .int .i64 k0, .string o1, .string o2, .string o3, .string o4, .string o5, .string o6, .int .i64 k7, .int .i64 k8, .map (some bv), .map (some be), .string ⟨#[]⟩] 70) := ⟨_, rfl⟩
              obtain ⟨bs, hbs⟩ : ∃ bs, bs = W62.heap.size := ⟨_, rfl⟩
              have hbn : Below W62.heap.size W62 W63 := by rw [hW63]; exact below_alloc _ _
              have HBW63 : Hid (Below u.heap.size u W63) := Below.trans HBW62.out (Below.mono hbn (Below.size HBW62.out))
              have HMW63v : Hid (MapIn u bv W63) := MapIn.below HMW62v.out hbn
              have HMW63e : Hid (MapIn u be W63) := MapIn.below HMW62e.out hbn
              have HSr : Hid (∀ (j : Nat) x, ([.int .i64 ca, .int .i64 cb, .int .i64 k0, .string o1, .string o2, .string o3, .string o4, .string o5, .string o6, .int .i64 k7, .int .i64 k8, .map (some bv), .map (some be), .string ⟨#[]⟩] : List Value)[j]? = some x → W63.cell? ⟨bs, j, none⟩ = some x) := fun j x hx => by rw [hW63, hbs, World.cell?_alloc_mark]; simpa using hx
              have HSl : Hid (bs < W63.heap.size) := by show bs < _; rw [hW63, hbs]; simp
              rw [← hW63, ← hbs]
              clear hW63 hbs hbn
              refine hK.out _ _ (KeptQ.ofBelow (HBW63.out)) (fun hHeld2 => ?_)
              clear hK K hHeld
              have hHeld := hHeld2
              clear hHeld2
              have HRow : Hid (RowC W63 14 (.slice pp m cc) m (txsC vb eb (q.ans + 1) q.wait)) := by
                have := (HQ.out.2.below HQ.out.1.np HBW63.out).r.row
                rw [← HM.out] at this
                exact this
              have HSrc : Hid (Src Try.prog 14 63 (.slice (some ⟨bs, 0, none⟩) 1 1) 1 [.int .i64 ca, .int .i64 cb, .int .i64 k0, .string o1, .string o2, .string o3, .string o4, .string o5, .string o6, .int .i64 k7, .int .i64 k8, .map (some bv), .map (some be), .string ⟨#[]⟩] W63) := src_tx W63 [.int .i64 ca, .int .i64 cb, .int .i64 k0, .string o1, .string o2, .string o3, .string o4, .string o5, .string o6, .int .i64 k7, .int .i64 k8, .map (some bv), .map (some be), .string ⟨#[]⟩] HSr.out rfl (txC_one (Me.fresh ca cb ⟨k0, o1, o2, o3, o4, o5, o6, k7, k8⟩) bv be)
              refine wpAnyH_ready (rs := [14]) (by kernel_rfl) (by simp) ?_
              refine AllReadyH.cons rfl (fun K hK => ?_) AllReadyH.nil
              refine stepM 60 rfl rfl _ _ _ _ 70 rfl Try.underlying63 _ _ _ txInfoZ rfl (.slice pp m cc) m _ rfl HRow.out _ 1 _ rfl HSrc.out (by omega) (by unfold maxLen; omega) ?_
              intro v' W64 hr2 hg2 hk2
              obtain ⟨p2, c2, hv2, _, _⟩ := hr2.form
              have HFin : Hid (∀ F, F = W64.setCell ⟨B, 4, none⟩ v' → ∃ who', AftT who u F B (Me.begin q ca cb ⟨k0, o1, o2, o3, o4, o5, o6, k7, k8⟩) (n + 1) who') := fun F hF => AftT.app HQ.out.1 HQ.out.2 HBW63.out (MapIn.is HMW63v.out) (MapIn.is HMW63e.out) HNe.out ⟨MapIn.lo HMW63v.out, MapIn.lo HMW63e.out⟩ (by rw [← HM.out]; exact hr2) hg2 hk2 hF HOk2.out
              have hKn : KeptQ who u W64 := (KeptQ.ofBelow HBW63.out).grown hg2 (fun k hk _ => by have := HQ.out.2.r.wr k hk; omega)
              have HCn : Hid (W64.cell? ⟨B, 4, none⟩ = some (.slice pp m cc) ∧ W64.frozen? ⟨B, 4, none⟩ = false) := by
                have hq2 := HQ.out.2.below HQ.out.1.np HBW63.out
                have hb : W64.heap[B]? = W63.heap[B]? := hg2.block B (hq2.r.here B (by rw [hq2.wB]; omega)) (fun e => by have := HQ.out.2.r.wr B e.symm; rw [HQ.out.2.wB] at this; omega)
                exact ⟨(World.cell?_of_block (a := ⟨B, 4, none⟩) hb).trans hq2.b.c4, (World.frozen?_of_block (a := ⟨B, 4, none⟩) hb).trans (hq2.b.fz 4)⟩
              have HKn : Hid (KeptQ who u W64) := hKn
              subst hv2
              clear hr2 hg2 hk2 hKn
              refine hK.out _ _ HKn.out (fun hHeld2 => ?_)
              clear hK K hHeld
              have hHeld := hHeld2
              clear hHeld2
              simp only [Act.put, List.setIfInBounds_toArray, List.set_cons_zero, List.set_cons_succ]
              refine takeM (i := 15) (d := 61) (v := .pointer (some ⟨B, 0, none⟩)) rfl rfl (by kernel_rfl) (by kernel_rfl) (by kernel_rfl) (fun _ _ _ h => h) (Or.inl ⟨by rfl, ?_⟩) (by assumption) ?_
              · intro X hSw
                obtain ⟨e1, e2, e3, e4, e5, e6, e7, e8, e9, e10, e11⟩ := HCL.out X hSw
                clear hSw
                go_simp
              simp only [Act.put, List.setIfInBounds_toArray, List.set_cons_zero, List.set_cons_succ]
              refine takeM (i := 16) (d := 62) (v := .pointer (some ⟨B, 4, none⟩)) rfl rfl (by kernel_rfl) (by kernel_rfl) (by kernel_rfl) (fun _ _ _ h => h) (Or.inl ⟨by rfl, ?_⟩) (by assumption) ?_
              · intro X hSw
                obtain ⟨e1, e2, e3, e4, e5, e6, e7, e8, e9, e10, e11⟩ := HCL.out X hSw
                clear hSw
                go_simp
              simp only [Act.put, List.setIfInBounds_toArray, List.set_cons_zero, List.set_cons_succ]
              refine wpAnyH_ready (rs := [17]) (by kernel_rfl) (by simp) ?_
              refine AllReadyH.cons rfl (fun K hK => ?_) AllReadyH.nil
              obtain ⟨c4, f4⟩ := HCn.out
              go_simp
              obtain ⟨W65, hW65⟩ : ∃ W65, W65 = World.setCell W64 ⟨B, 4, none⟩ (.slice p2 (m + 1) c2) := ⟨_, rfl⟩
              obtain ⟨who', hA⟩ := HFin.out W65 hW65
              have HA : Hid (AftT who u W65 B (Me.begin q ca cb ⟨k0, o1, o2, o3, o4, o5, o6, k7, k8⟩) (n + 1) who') := hA
              rw [← hW65]
              clear hW65 hA c4 f4
              refine hK.out _ _ HA.out.2.2 (fun hHeld2 => ?_)
              clear hK K hHeld hHeld2
              refine wpAnyH_done (by kernel_rfl) ?_ _
              go_wp2_with fail
              go_meet
              exact ⟨rfl, who', HA⟩
            · go_simp
              obtain ⟨W66, hW66⟩ : ∃ W66, W66 = World.alloc W62 (.cells #[.int .i64 ca, .int .i64 cb, .int .i64 k0, .string o1, .string o2, .string o3, .string o4, .string o5, .string o6, .int .i64 k7, .int .i64 k8, .map (some bv), .map (some be), .string ⟨#[]⟩] 70) := ⟨_, rfl⟩
              obtain ⟨bs, hbs⟩ : ∃ bs, bs = W62.heap.size := ⟨_, rfl⟩
              have hbn : Below W62.heap.size W62 W66 := by rw [hW66]; exact below_alloc _ _
              have HBW66 : Hid (Below u.heap.size u W66) := Below.trans HBW62.out (Below.mono hbn (Below.size HBW62.out))
              have HMW66v : Hid (MapIn u bv W66) := MapIn.below HMW62v.out hbn
              have HMW66e : Hid (MapIn u be W66) := MapIn.below HMW62e.out hbn
              have HSr : Hid (∀ (j : Nat) x, ([.int .i64 ca, .int .i64 cb, .int .i64 k0, .string o1, .string o2, .string o3, .string o4, .string o5, .string o6, .int .i64 k7, .int .i64 k8, .map (some bv), .map (some be), .string ⟨#[]⟩] : List Value)[j]? = some x → W66.cell? ⟨bs, j, none⟩ = some x) := fun j x hx => by rw [hW66, hbs, World.cell?_alloc_mark]; simpa using hx
              have HSl : Hid (bs < W66.heap.size) := by show bs < _; rw [hW66, hbs]; simp
              rw [← hW66, ← hbs]
              clear hW66 hbs hbn
              refine hK.out _ _ (KeptQ.ofBelow (HBW66.out)) (fun hHeld2 => ?_)
              clear hK K hHeld
              have hHeld := hHeld2
              clear hHeld2
              refine wpAnyH_ready (rs := [4]) (by kernel_rfl) (by simp) ?_
              refine AllReadyH.cons rfl (fun K hK => ?_) AllReadyH.nil
              have y4 := (HQ4.out W66 HBW66.out).2
              go_simp
              refine hK.out _ _ (KeptQ.ofBelow (HBW66.out)) (fun hHeld2 => ?_)
              clear hK K hHeld
              have hHeld := hHeld2
              clear hHeld2
              clear y4
              have HRow : Hid (RowC W66 14 (.slice pp m cc) m (txsC vb eb (q.ans + 1) q.wait)) := by
                have := (HQ.out.2.below HQ.out.1.np HBW66.out).r.row
                rw [← HM.out] at this
                exact this
              have HSrc : Hid (Src Try.prog 14 63 (.slice (some ⟨bs, 0, none⟩) 1 1) 1 [.int .i64 ca, .int .i64 cb, .int .i64 k0, .string o1, .string o2, .string o3, .string o4, .string o5, .string o6, .int .i64 k7, .int .i64 k8, .map (some bv), .map (some be), .string ⟨#[]⟩] W66) := src_tx W66 [.int .i64 ca, .int .i64 cb, .int .i64 k0, .string o1, .string o2, .string o3, .string o4, .string o5, .string o6, .int .i64 k7, .int .i64 k8, .map (some bv), .map (some be), .string ⟨#[]⟩] HSr.out rfl (txC_one (Me.fresh ca cb ⟨k0, o1, o2, o3, o4, o5, o6, k7, k8⟩) bv be)
              refine wpAnyH_ready (rs := [14]) (by kernel_rfl) (by simp) ?_
              refine AllReadyH.cons rfl (fun K hK => ?_) AllReadyH.nil
              refine stepM 60 rfl rfl _ _ _ _ 70 rfl Try.underlying63 _ _ _ txInfoZ rfl (.slice pp m cc) m _ rfl HRow.out _ 1 _ rfl HSrc.out (by omega) (by unfold maxLen; omega) ?_
              intro v' W67 hr2 hg2 hk2
              obtain ⟨p2, c2, hv2, _, _⟩ := hr2.form
              have HFin : Hid (∀ F, F = W67.setCell ⟨B, 4, none⟩ v' → ∃ who', AftT who u F B (Me.begin q ca cb ⟨k0, o1, o2, o3, o4, o5, o6, k7, k8⟩) (n + 1) who') := fun F hF => AftT.app HQ.out.1 HQ.out.2 HBW66.out (MapIn.is HMW66v.out) (MapIn.is HMW66e.out) HNe.out ⟨MapIn.lo HMW66v.out, MapIn.lo HMW66e.out⟩ (by rw [← HM.out]; exact hr2) hg2 hk2 hF HOk2.out
              have hKn : KeptQ who u W67 := (KeptQ.ofBelow HBW66.out).grown hg2 (fun k hk _ => by have := HQ.out.2.r.wr k hk; omega)
              have HCn : Hid (W67.cell? ⟨B, 4, none⟩ = some (.slice pp m cc) ∧ W67.frozen? ⟨B, 4, none⟩ = false) := by
                have hq2 := HQ.out.2.below HQ.out.1.np HBW66.out
                have hb : W67.heap[B]? = W66.heap[B]? := hg2.block B (hq2.r.here B (by rw [hq2.wB]; omega)) (fun e => by have := HQ.out.2.r.wr B e.symm; rw [HQ.out.2.wB] at this; omega)
                exact ⟨(World.cell?_of_block (a := ⟨B, 4, none⟩) hb).trans hq2.b.c4, (World.frozen?_of_block (a := ⟨B, 4, none⟩) hb).trans (hq2.b.fz 4)⟩
              have HKn : Hid (KeptQ who u W67) := hKn
              subst hv2
              clear hr2 hg2 hk2 hKn
              refine hK.out _ _ HKn.out (fun hHeld2 => ?_)
              clear hK K hHeld
              have hHeld := hHeld2
              clear hHeld2
              simp only [Act.put, List.setIfInBounds_toArray, List.set_cons_zero, List.set_cons_succ]
              refine takeM (i := 15) (d := 61) (v := .pointer (some ⟨B, 0, none⟩)) rfl rfl (by kernel_rfl) (by kernel_rfl) (by kernel_rfl) (fun _ _ _ h => h) (Or.inl ⟨by rfl, ?_⟩) (by assumption) ?_
              · intro X hSw
                obtain ⟨e1, e2, e3, e4, e5, e6, e7, e8, e9, e10, e11⟩ := HCL.out X hSw
                clear hSw
                go_simp
              simp only [Act.put, List.setIfInBounds_toArray, List.set_cons_zero, List.set_cons_succ]
              refine takeM (i := 16) (d := 62) (v := .pointer (some ⟨B, 4, none⟩)) rfl rfl (by kernel_rfl) (by kernel_rfl) (by kernel_rfl) (fun _ _ _ h => h) (Or.inl ⟨by rfl, ?_⟩) (by assumption) ?_
              · intro X hSw
                obtain ⟨e1, e2, e3, e4, e5, e6, e7, e8, e9, e10, e11⟩ := HCL.out X hSw
                clear hSw
                go_simp
              simp only [Act.put, List.setIfInBounds_toArray, List.set_cons_zero, List.set_cons_succ]
              refine wpAnyH_ready (rs := [17]) (by kernel_rfl) (by simp) ?_
              refine AllReadyH.cons rfl (fun K hK => ?_) AllReadyH.nil
              obtain ⟨c4, f4⟩ := HCn.out
              go_simp
              obtain ⟨W68, hW68⟩ : ∃ W68, W68 = World.setCell W67 ⟨B, 4, none⟩ (.slice p2 (m + 1) c2) := ⟨_, rfl⟩
              obtain ⟨who', hA⟩ := HFin.out W68 hW68
              have HA : Hid (AftT who u W68 B (Me.begin q ca cb ⟨k0, o1, o2, o3, o4, o5, o6, k7, k8⟩) (n + 1) who') := hA
              rw [← hW68]
              clear hW68 hA c4 f4
              refine hK.out _ _ HA.out.2.2 (fun hHeld2 => ?_)
              clear hK K hHeld hHeld2
              refine wpAnyH_done (by kernel_rfl) ?_ _
              go_wp2_with fail
              go_meet
              exact ⟨rfl, who', HA⟩
      · go_simp
        obtain ⟨W69, hW69⟩ : ∃ W69, W69 = World.alloc w5 (.map #[] 0) := ⟨_, rfl⟩
        obtain ⟨bv, hbv⟩ : ∃ bv, bv = w5.heap.size := ⟨_, rfl⟩
        have hbn : Below w5.heap.size w5 W69 := by rw [hW69]; exact below_alloc _ _
        have HBW69 : Hid (Below u.heap.size u W69) := Below.trans HBw5.out (Below.mono hbn (Below.size HBw5.out))
        have HMW69v : Hid (MapIn u bv W69) := by rw [hbv, hW69]; exact MapIn.new HBw5.out
        rw [← hW69, ← hbv]
        clear hW69 hbv hbn
        refine hK.out _ _ (KeptQ.ofBelow (HBW69.out)) (fun hHeld2 => ?_)
        clear hK K hHeld
        have hHeld := hHeld2
        clear hHeld2
        refine wpAnyH_ready (rs := [4, 9, 11]) (by kernel_rfl) (by simp) ?_
        refine AllReadyH.cons rfl (fun K hK => ?_) (AllReadyH.cons rfl (fun K hK => ?_) (AllReadyH.cons rfl (fun K hK => ?_) AllReadyH.nil))
        · have y4 := (HQ4.out W69 HBW69.out).2
          go_simp
          refine hK.out _ _ (KeptQ.ofBelow (HBW69.out)) (fun hHeld2 => ?_)
          clear hK K hHeld
          have hHeld := hHeld2
          clear hHeld2
          clear y4
          refine wpAnyH_ready (rs := [9, 11]) (by kernel_rfl) (by simp) ?_
          refine AllReadyH.cons rfl (fun K hK => ?_) (AllReadyH.cons rfl (fun K hK => ?_) AllReadyH.nil)
          · go_simp
            go_wp2_with fail
            refine Calls.mono (HKo.out W69) ?_
            rintro e' W70 ⟨rfl, hbn⟩
            have HBW70 : Hid (Below u.heap.size u W70) := Below.trans HBW69.out (Below.mono hbn (Below.size HBW69.out))
            have HMW70v : Hid (MapIn u bv W70) := MapIn.below HMW69v.out hbn
            clear hbn
            go_wp2
            refine hK.out _ _ (KeptQ.ofBelow (HBW70.out)) (fun hHeld2 => ?_)
            clear hK K hHeld
            have hHeld := hHeld2
            clear hHeld2
            refine wpAnyH_ready (rs := [11]) (by kernel_rfl) (by simp) ?_
            refine AllReadyH.cons rfl (fun K hK => ?_) AllReadyH.nil
            go_simp
            obtain ⟨W71, hW71⟩ : ∃ W71, W71 = World.alloc W70 (.map #[] 0) := ⟨_, rfl⟩
            obtain ⟨be, hbe⟩ : ∃ be, be = W70.heap.size := ⟨_, rfl⟩
            have hbn : Below W70.heap.size W70 W71 := by rw [hW71]; exact below_alloc _ _
            have HBW71 : Hid (Below u.heap.size u W71) := Below.trans HBW70.out (Below.mono hbn (Below.size HBW70.out))
            have HMW71e : Hid (MapIn u be W71) := by rw [hbe, hW71]; exact MapIn.new HBW70.out
            have HMW71v : Hid (MapIn u bv W71) := MapIn.below HMW70v.out hbn
            have HNe : Hid (bv ≠ be) := by have := MapIn.lt HMW70v.out; show bv ≠ be; omega
            rw [← hW71, ← hbe]
            clear hW71 hbe hbn
            refine hK.out _ _ (KeptQ.ofBelow (HBW71.out)) (fun hHeld2 => ?_)
            clear hK K hHeld
            have hHeld := hHeld2
            clear hHeld2
            refine takeM (i := 12) (d := 58) (v := .agg #[.int .i64 ca, .int .i64 cb, .int .i64 k0, .string o1, .string o2, .string o3, .string o4, .string o5, .string o6, .int .i64 k7, .int .i64 k8, .map (some bv), .map (some be), .string ⟨#[]⟩]) rfl rfl (by kernel_rfl) (by kernel_rfl) (by kernel_rfl) (fun _ _ _ h => h) (Or.inl ⟨by rfl, ?_⟩) (by assumption) ?_
            · intro X hSw
              obtain ⟨e1, e2, e3, e4, e5, e6, e7, e8, e9, e10, e11⟩ := HCL.out X hSw
              clear hSw
              go_simp
            simp only [Act.put, List.setIfInBounds_toArray, List.set_cons_zero, List.set_cons_succ]
            refine wpAnyH_ready (rs := [13]) (by kernel_rfl) (by simp) ?_
            refine AllReadyH.cons rfl (fun K hK => ?_) AllReadyH.nil
            go_simp
            obtain ⟨W72, hW72⟩ : ∃ W72, W72 = World.alloc W71 (.cells #[.int .i64 ca, .int .i64 cb, .int .i64 k0, .string o1, .string o2, .string o3, .string o4, .string o5, .string o6, .int .i64 k7, .int .i64 k8, .map (some bv), .map (some be), .string ⟨#[]⟩] 70) := ⟨_, rfl⟩
            obtain ⟨bs, hbs⟩ : ∃ bs, bs = W71.heap.size := ⟨_, rfl⟩
            have hbn : Below W71.heap.size W71 W72 := by rw [hW72]; exact below_alloc _ _
            have HBW72 : Hid (Below u.heap.size u W72) := Below.trans HBW71.out (Below.mono hbn (Below.size HBW71.out))
            have HMW72v : Hid (MapIn u bv W72) := MapIn.below HMW71v.out hbn
            have HMW72e : Hid (MapIn u be W72) := MapIn.below HMW71e.out hbn
            have HSr : Hid (∀ (j : Nat) x, ([.int .i64 ca, .int .i64 cb, .int .i64 k0, .string o1, .string o2, .string o3, .string o4, .string o5, .string o6, .int .i64 k7, .int .i64 k8, .map (some bv), .map (some be), .string ⟨#[]⟩] : List Value)[j]? = some x → W72.cell? ⟨bs, j, none⟩ = some x) := fun j x hx => by rw [hW72, hbs, World.cell?_alloc_mark]; simpa using hx
            have HSl : Hid (bs < W72.heap.size) := by show bs < _; rw [hW72, hbs]; simp
            rw [← hW72, ← hbs]
            clear hW72 hbs hbn
            refine hK.out _ _ (KeptQ.ofBelow (HBW72.out)) (fun hHeld2 => ?_)
            clear hK K hHeld
            have hHeld := hHeld2
            clear hHeld2
            have HRow : Hid (RowC W72 14 (.slice pp m cc) m (txsC vb eb (q.ans + 1) q.wait)) := by
              have := (HQ.out.2.below HQ.out.1.np HBW72.out).r.row
              rw [← HM.out] at this
              exact this
            have HSrc : Hid (Src Try.prog 14 63 (.slice (some ⟨bs, 0, none⟩) 1 1) 1 [.int .i64 ca, .int .i64 cb, .int .i64 k0, .string o1, .string o2, .string o3, .string o4, .string o5, .string o6, .int .i64 k7, .int .i64 k8, .map (some bv), .map (some be), .string ⟨#[]⟩] W72) := src_tx W72 [.int .i64 ca, .int .i64 cb, .int .i64 k0, .string o1, .string o2, .string o3, .string o4, .string o5, .string o6, .int .i64 k7, .int .i64 k8, .map (some bv), .map (some be), .string ⟨#[]⟩] HSr.out rfl (txC_one (Me.fresh ca cb ⟨k0, o1, o2, o3, o4, o5, o6, k7, k8⟩) bv be)
            refine wpAnyH_ready (rs := [14]) (by kernel_rfl) (by simp) ?_
            refine AllReadyH.cons rfl (fun K hK => ?_) AllReadyH.nil
            refine stepM 60 rfl rfl _ _ _ _ 70 rfl Try.underlying63 _ _ _ txInfoZ rfl (.slice pp m cc) m _ rfl HRow.out _ 1 _ rfl HSrc.out (by omega) (by unfold maxLen; omega) ?_
            intro v' W73 hr2 hg2 hk2
            obtain ⟨p2, c2, hv2, _, _⟩ := hr2.form
            have HFin : Hid (∀ F, F = W73.setCell ⟨B, 4, none⟩ v' → ∃ who', AftT who u F B (Me.begin q ca cb ⟨k0, o1, o2, o3, o4, o5, o6, k7, k8⟩) (n + 1) who') := fun F hF => AftT.app HQ.out.1 HQ.out.2 HBW72.out (MapIn.is HMW72v.out) (MapIn.is HMW72e.out) HNe.out ⟨MapIn.lo HMW72v.out, MapIn.lo HMW72e.out⟩ (by rw [← HM.out]; exact hr2) hg2 hk2 hF HOk2.out
            have hKn : KeptQ who u W73 := (KeptQ.ofBelow HBW72.out).grown hg2 (fun k hk _ => by have := HQ.out.2.r.wr k hk; omega)
            have HCn : Hid (W73.cell? ⟨B, 4, none⟩ = some (.slice pp m cc) ∧ W73.frozen? ⟨B, 4, none⟩ = false) := by
              have hq2 := HQ.out.2.below HQ.out.1.np HBW72.out
              have hb : W73.heap[B]? = W72.heap[B]? := hg2.block B (hq2.r.here B (by rw [hq2.wB]; omega)) (fun e => by have := HQ.out.2.r.wr B e.symm; rw [HQ.out.2.wB] at this; omega)
              exact ⟨(World.cell?_of_block (a := ⟨B, 4, none⟩) hb).trans hq2.b.c4, (World.frozen?_of_block (a := ⟨B, 4, none⟩) hb).trans (hq2.b.fz 4)⟩
            have HKn : Hid (KeptQ who u W73) := hKn
            subst hv2
            clear hr2 hg2 hk2 hKn
            refine hK.out _ _ HKn.out (fun hHeld2 => ?_)
            clear hK K hHeld
            have hHeld := hHeld2
            clear hHeld2
            simp only [Act.put, List.setIfInBounds_toArray, List.set_cons_zero, List.set_cons_succ]
            refine takeM (i := 15) (d := 61) (v := .pointer (some ⟨B, 0, none⟩)) rfl rfl (by kernel_rfl) (by kernel_rfl) (by kernel_rfl) (fun _ _ _ h => h) (Or.inl ⟨by rfl, ?_⟩) (by assumption) ?_
            · intro X hSw
              obtain ⟨e1, e2, e3, e4, e5, e6, e7, e8, e9, e10, e11⟩ := HCL.out X hSw
              clear hSw
              go_simp
            simp only [Act.put, List.setIfInBounds_toArray, List.set_cons_zero, List.set_cons_succ]
            refine takeM (i := 16) (d := 62) (v := .pointer (some ⟨B, 4, none⟩)) rfl rfl (by kernel_rfl) (by kernel_rfl) (by kernel_rfl) (fun _ _ _ h => h) (Or.inl ⟨by rfl, ?_⟩) (by assumption) ?_
            · intro X hSw
              obtain ⟨e1, e2, e3, e4, e5, e6, e7, e8, e9, e10, e11⟩ := HCL.out X hSw
              clear hSw
              go_simp
            simp only [Act.put, List.setIfInBounds_toArray, List.set_cons_zero, List.set_cons_succ]
            refine wpAnyH_ready (rs := [17]) (by kernel_rfl) (by simp) ?_
            refine AllReadyH.cons rfl (fun K hK => ?_) AllReadyH.nil
            obtain ⟨c4, f4⟩ := HCn.out
            go_simp
            obtain ⟨W74, hW74⟩ : ∃ W74, W74 = World.setCell W73 ⟨B, 4, none⟩ (.slice p2 (m + 1) c2) := ⟨_, rfl⟩
            obtain ⟨who', hA⟩ := HFin.out W74 hW74
            have HA : Hid (AftT who u W74 B (Me.begin q ca cb ⟨k0, o1, o2, o3, o4, o5, o6, k7, k8⟩) (n + 1) who') := hA
            rw [← hW74]
            clear hW74 hA c4 f4
            refine hK.out _ _ HA.out.2.2 (fun hHeld2 => ?_)
            clear hK K hHeld hHeld2
            refine wpAnyH_done (by kernel_rfl) ?_ _
            go_wp2_with fail
            go_meet
            exact ⟨rfl, who', HA⟩
          · go_simp
            obtain ⟨W75, hW75⟩ : ∃ W75, W75 = World.alloc W69 (.map #[] 0) := ⟨_, rfl⟩
            obtain ⟨be, hbe⟩ : ∃ be, be = W69.heap.size := ⟨_, rfl⟩
            have hbn : Below W69.heap.size W69 W75 := by rw [hW75]; exact below_alloc _ _
            have HBW75 : Hid (Below u.heap.size u W75) := Below.trans HBW69.out (Below.mono hbn (Below.size HBW69.out))
            have HMW75e : Hid (MapIn u be W75) := by rw [hbe, hW75]; exact MapIn.new HBW69.out
            have HMW75v : Hid (MapIn u bv W75) := MapIn.below HMW69v.out hbn
            have HNe : Hid (bv ≠ be) := by have := MapIn.lt HMW69v.out; show bv ≠ be; omega
            rw [← hW75, ← hbe]
            clear hW75 hbe hbn
            refine hK.out _ _ (KeptQ.ofBelow (HBW75.out)) (fun hHeld2 => ?_)
            clear hK K hHeld
            have hHeld := hHeld2
            clear hHeld2
            refine wpAnyH_ready (rs := [9]) (by kernel_rfl) (by simp) ?_
            refine AllReadyH.cons rfl (fun K hK => ?_) AllReadyH.nil
            go_simp
            go_wp2_with fail
            refine Calls.mono (HKo.out W75) ?_
            rintro e' W76 ⟨rfl, hbn⟩
            have HBW76 : Hid (Below u.heap.size u W76) := Below.trans HBW75.out (Below.mono hbn (Below.size HBW75.out))
            have HMW76v : Hid (MapIn u bv W76) := MapIn.below HMW75v.out hbn
            have HMW76e : Hid (MapIn u be W76) := MapIn.below HMW75e.out hbn
            clear hbn
            go_wp2
            refine hK.out _ _ (KeptQ.ofBelow (HBW76.out)) (fun hHeld2 => ?_)
            clear hK K hHeld
            have hHeld := hHeld2
            clear hHeld2
            refine takeM (i := 12) (d := 58) (v := .agg #[.int .i64 ca, .int .i64 cb, .int .i64 k0, .string o1, .string o2, .string o3, .string o4, .string o5, .string o6, .int .i64 k7, .int .i64 k8, .map (some bv), .map (some be), .string ⟨#[]⟩]) rfl rfl (by kernel_rfl) (by kernel_rfl) (by kernel_rfl) (fun _ _ _ h => h) (Or.inl ⟨by rfl, ?_⟩) (by assumption) ?_
            · intro X hSw
              obtain ⟨e1, e2, e3, e4, e5, e6, e7, e8, e9, e10, e11⟩ := HCL.out X hSw
              clear hSw
              go_simp
            simp only [Act.put, List.setIfInBounds_toArray, List.set_cons_zero, List.set_cons_succ]
            refine wpAnyH_ready (rs := [13]) (by kernel_rfl) (by simp) ?_
            refine AllReadyH.cons rfl (fun K hK => ?_) AllReadyH.nil
            go_simp
            obtain ⟨W77, hW77⟩ : ∃ W77, W77 = World.alloc W76 (.cells #[.int .i64 ca, .int .i64 cb, .int .i64 k0, .string o1, .string o2, .string o3, .string o4, .string o5, .string o6, .int .i64 k7, .int .i64 k8, .map (some bv), .map (some be), .string ⟨#[]⟩] 70) := ⟨_, rfl⟩
            obtain ⟨bs, hbs⟩ : ∃ bs, bs = W76.heap.size := ⟨_, rfl⟩
            have hbn : Below W76.heap.size W76 W77 := by rw [hW77]; exact below_alloc _ _
            have HBW77 : Hid (Below u.heap.size u W77) := Below.trans HBW76.out (Below.mono hbn (Below.size HBW76.out))
            have HMW77v : Hid (MapIn u bv W77) := MapIn.below HMW76v.out hbn
            have HMW77e : Hid (MapIn u be W77) := MapIn.below HMW76e.out hbn
            have HSr : Hid (∀ (j : Nat) x, ([.int .i64 ca, .int .i64 cb, .int .i64 k0, .string o1, .string o2, .string o3, .string o4, .string o5, .string o6, .int .i64 k7, .int .i64 k8, .map (some bv), .map (some be), .string ⟨#[]⟩] : List Value)[j]? = some x → W77.cell? ⟨bs, j, none⟩ = some x) := fun j x hx => by rw [hW77, hbs, World.cell?_alloc_mark]; simpa using hx
            have HSl : Hid (bs < W77.heap.size) := by show bs < _; rw [hW77, hbs]; simp
            rw [← hW77, ← hbs]
            clear hW77 hbs hbn
            refine hK.out _ _ (KeptQ.ofBelow (HBW77.out)) (fun hHeld2 => ?_)
            clear hK K hHeld
            have hHeld := hHeld2
            clear hHeld2
            have HRow : Hid (RowC W77 14 (.slice pp m cc) m (txsC vb eb (q.ans + 1) q.wait)) := by
              have := (HQ.out.2.below HQ.out.1.np HBW77.out).r.row
              rw [← HM.out] at this
              exact this
            have HSrc : Hid (Src Try.prog 14 63 (.slice (some ⟨bs, 0, none⟩) 1 1) 1 [.int .i64 ca, .int .i64 cb, .int .i64 k0, .string o1, .string o2, .string o3, .string o4, .string o5, .string o6, .int .i64 k7, .int .i64 k8, .map (some bv), .map (some be), .string ⟨#[]⟩] W77) := src_tx W77 [.int .i64 ca, .int .i64 cb, .int .i64 k0, .string o1, .string o2, .string o3, .string o4, .string o5, .string o6, .int .i64 k7, .int .i64 k8, .map (some bv), .map (some be), .string ⟨#[]⟩] HSr.out rfl (txC_one (Me.fresh ca cb ⟨k0, o1, o2, o3, o4, o5, o6, k7, k8⟩) bv be)
            refine wpAnyH_ready (rs := [14]) (by kernel_rfl) (by simp) ?_
            refine AllReadyH.cons rfl (fun K hK => ?_) AllReadyH.nil
            refine stepM 60 rfl rfl _ _ _ _ 70 rfl Try.underlying63 _ _ _ txInfoZ rfl (.slice pp m cc) m _ rfl HRow.out _ 1 _ rfl HSrc.out (by omega) (by unfold maxLen; omega) ?_
            intro v' W78 hr2 hg2 hk2
            obtain ⟨p2, c2, hv2, _, _⟩ := hr2.form
            have HFin : Hid (∀ F, F = W78.setCell ⟨B, 4, none⟩ v' → ∃ who', AftT who u F B (Me.begin q ca cb ⟨k0, o1, o2, o3, o4, o5, o6, k7, k8⟩) (n + 1) who') := fun F hF => AftT.app HQ.out.1 HQ.out.2 HBW77.out (MapIn.is HMW77v.out) (MapIn.is HMW77e.out) HNe.out ⟨MapIn.lo HMW77v.out, MapIn.lo HMW77e.out⟩ (by rw [← HM.out]; exact hr2) hg2 hk2 hF HOk2.out
            have hKn : KeptQ who u W78 := (KeptQ.ofBelow HBW77.out).grown hg2 (fun k hk _ => by have := HQ.out.2.r.wr k hk; omega)
            have HCn : Hid (W78.cell? ⟨B, 4, none⟩ = some (.slice pp m cc) ∧ W78.frozen? ⟨B, 4, none⟩ = false) := by
              have hq2 := HQ.out.2.below HQ.out.1.np HBW77.out
              have hb : W78.heap[B]? = W77.heap[B]? := hg2.block B (hq2.r.here B (by rw [hq2.wB]; omega)) (fun e => by have := HQ.out.2.r.wr B e.symm; rw [HQ.out.2.wB] at this; omega)
              exact ⟨(World.cell?_of_block (a := ⟨B, 4, none⟩) hb).trans hq2.b.c4, (World.frozen?_of_block (a := ⟨B, 4, none⟩) hb).trans (hq2.b.fz 4)⟩
            have HKn : Hid (KeptQ who u W78) := hKn
            subst hv2
            clear hr2 hg2 hk2 hKn
            refine hK.out _ _ HKn.out (fun hHeld2 => ?_)
            clear hK K hHeld
            have hHeld := hHeld2
            clear hHeld2
            simp only [Act.put, List.setIfInBounds_toArray, List.set_cons_zero, List.set_cons_succ]
            refine takeM (i := 15) (d := 61) (v := .pointer (some ⟨B, 0, none⟩)) rfl rfl (by kernel_rfl) (by kernel_rfl) (by kernel_rfl) (fun _ _ _ h => h) (Or.inl ⟨by rfl, ?_⟩) (by assumption) ?_
            · intro X hSw
              obtain ⟨e1, e2, e3, e4, e5, e6, e7, e8, e9, e10, e11⟩ := HCL.out X hSw
              clear hSw
              go_simp
            simp only [Act.put, List.setIfInBounds_toArray, List.set_cons_zero, List.set_cons_succ]
            refine takeM (i := 16) (d := 62) (v := .pointer (some ⟨B, 4, none⟩)) rfl rfl (by kernel_rfl) (by kernel_rfl) (by kernel_rfl) (fun _ _ _ h => h) (Or.inl ⟨by rfl, ?_⟩) (by assumption) ?_
            · intro X hSw
              obtain ⟨e1, e2, e3, e4, e5, e6, e7, e8, e9, e10, e11⟩ := HCL.out X hSw
              clear hSw
              go_simp
            simp only [Act.put, List.setIfInBounds_toArray, List.set_cons_zero, List.set_cons_succ]
            refine wpAnyH_ready (rs := [17]) (by kernel_rfl) (by simp) ?_
            refine AllReadyH.cons rfl (fun K hK => ?_) AllReadyH.nil
            obtain ⟨c4, f4⟩ := HCn.out
            go_simp
            obtain ⟨W79, hW79⟩ : ∃ W79, W79 = World.setCell W78 ⟨B, 4, none⟩ (.slice p2 (m + 1) c2) := ⟨_, rfl⟩
            obtain ⟨who', hA⟩ := HFin.out W79 hW79
            have HA : Hid (AftT who u W79 B (Me.begin q ca cb ⟨k0, o1, o2, o3, o4, o5, o6, k7, k8⟩) (n + 1) who') := hA
            rw [← hW79]
            clear hW79 hA c4 f4
            refine hK.out _ _ HA.out.2.2 (fun hHeld2 => ?_)
            clear hK K hHeld hHeld2
            refine wpAnyH_done (by kernel_rfl) ?_ _
            go_wp2_with fail
            go_meet
            exact ⟨rfl, who', HA⟩
        · go_simp
          go_wp2_with fail
          refine Calls.mono (HKo.out W69) ?_
          rintro e' W80 ⟨rfl, hbn⟩
          have HBW80 : Hid (Below u.heap.size u W80) := Below.trans HBW69.out (Below.mono hbn (Below.size HBW69.out))
          have HMW80v : Hid (MapIn u bv W80) := MapIn.below HMW69v.out hbn
          clear hbn
          go_wp2
          refine hK.out _ _ (KeptQ.ofBelow (HBW80.out)) (fun hHeld2 => ?_)
          clear hK K hHeld
          have hHeld := hHeld2
          clear hHeld2
          refine wpAnyH_ready (rs := [4, 11]) (by kernel_rfl) (by simp) ?_
          refine AllReadyH.cons rfl (fun K hK => ?_) (AllReadyH.cons rfl (fun K hK => ?_) AllReadyH.nil)
          · have y4 := (HQ4.out W80 HBW80.out).2
            go_simp
            refine hK.out _ _ (KeptQ.ofBelow (HBW80.out)) (fun hHeld2 => ?_)
            clear hK K hHeld
            have hHeld := hHeld2
            clear hHeld2
            clear y4
            refine wpAnyH_ready (rs := [11]) (by kernel_rfl) (by simp) ?_
            refine AllReadyH.cons rfl (fun K hK => ?_) AllReadyH.nil
            go_simp
            obtain ⟨W81, hW81⟩ : ∃ W81, W81 = World.alloc W80 (.map #[] 0) := ⟨_, rfl⟩
            obtain ⟨be, hbe⟩ : ∃ be, be = W80.heap.size := ⟨_, rfl⟩
            have hbn : Below W80.heap.size W80 W81 := by rw [hW81]; exact below_alloc _ _
            have HBW81 : Hid (Below u.heap.size u W81) := Below.trans HBW80.out (Below.mono hbn (Below.size HBW80.out))
            have HMW81e : Hid (MapIn u be W81) := by rw [hbe, hW81]; exact MapIn.new HBW80.out
            have HMW81v : Hid (MapIn u bv W81) := MapIn.below HMW80v.out hbn
            have HNe : Hid (bv ≠ be) := by have := MapIn.lt HMW80v.out; show bv ≠ be; omega
            rw [← hW81, ← hbe]
            clear hW81 hbe hbn
            refine hK.out _ _ (KeptQ.ofBelow (HBW81.out)) (fun hHeld2 => ?_)
            clear hK K hHeld
            have hHeld := hHeld2
            clear hHeld2
            refine takeM (i := 12) (d := 58) (v := .agg #[.int .i64 ca, .int .i64 cb, .int .i64 k0, .string o1, .string o2, .string o3, .string o4, .string o5, .string o6, .int .i64 k7, .int .i64 k8, .map (some bv), .map (some be), .string ⟨#[]⟩]) rfl rfl (by kernel_rfl) (by kernel_rfl) (by kernel_rfl) (fun _ _ _ h => h) (Or.inl ⟨by rfl, ?_⟩) (by assumption) ?_
            · intro X hSw
              obtain ⟨e1, e2, e3, e4, e5, e6, e7, e8, e9, e10, e11⟩ := HCL.out X hSw
              clear hSw
              go_simp
            simp only [Act.put, List.setIfInBounds_toArray, List.set_cons_zero, List.set_cons_succ]
            refine wpAnyH_ready (rs := [13]) (by kernel_rfl) (by simp) ?_
            refine AllReadyH.cons rfl (fun K hK => ?_) AllReadyH.nil
            go_simp
            obtain ⟨W82, hW82⟩ : ∃ W82, W82 = World.alloc W81 (.cells #[.int .i64 ca, .int .i64 cb, .int .i64 k0, .string o1, .string o2, .string o3, .string o4, .string o5, .string o6, .int .i64 k7, .int .i64 k8, .map (some bv), .map (some be), .string ⟨#[]⟩] 70) := ⟨_, rfl⟩
            obtain ⟨bs, hbs⟩ : ∃ bs, bs = W81.heap.size := ⟨_, rfl⟩
            have hbn : Below W81.heap.size W81 W82 := by rw [hW82]; exact below_alloc _ _
            have HBW82 : Hid (Below u.heap.size u W82) := Below.trans HBW81.out (Below.mono hbn (Below.size HBW81.out))
            have HMW82v : Hid (MapIn u bv W82) := MapIn.below HMW81v.out hbn
            have HMW82e : Hid (MapIn u be W82) := MapIn.below HMW81e.out hbn
            have HSr : Hid (∀ (j : Nat) x, ([.int .i64 ca, .int .i64 cb, .int .i64 k0, .string o1, .string o2, .string o3, .string o4, .string o5, .string o6, .int .i64 k7, .int .i64 k8, .map (some bv), .map (some be), .string ⟨#[]⟩] : List Value)[j]? = some x → W82.cell? ⟨bs, j, none⟩ = some x) := fun j x hx => by rw [hW82, hbs, World.cell?_alloc_mark]; simpa using hx
            have HSl : Hid (bs < W82.heap.size) := by show bs < _; rw [hW82, hbs]; simp
            rw [← hW82, ← hbs]
            clear hW82 hbs hbn
            refine hK.out _ _ (KeptQ.ofBelow (HBW82.out)) (fun hHeld2 => ?_)
            clear hK K hHeld
            have hHeld := hHeld2
            clear hHeld2
            have HRow : Hid (RowC W82 14 (.slice pp m cc) m (txsC vb eb (q.ans + 1) q.wait)) := by
              have := (HQ.out.2.below HQ.out.1.np HBW82.out).r.row
              rw [← HM.out] at this
              exact this
            have HSrc : Hid (Src Try.prog 14 63 (.slice (some ⟨bs, 0, none⟩) 1 1) 1 [.int .i64 ca, .int .i64 cb, .int .i64 k0, .string o1, .string o2, .string o3, .string o4, .string o5, .string o6, .int .i64 k7, .int .i64 k8, .map (some bv), .map (some be), .string ⟨#[]⟩] W82) := src_tx W82 [.int .i64 ca, .int .i64 cb, .int .i64 k0, .string o1, .string o2, .string o3, .string o4, .string o5, .string o6, .int .i64 k7, .int .i64 k8, .map (some bv), .map (some be), .string ⟨#[]⟩] HSr.out rfl (txC_one (Me.fresh ca cb ⟨k0, o1, o2, o3, o4, o5, o6, k7, k8⟩) bv be)
            refine wpAnyH_ready (rs := [14]) (by kernel_rfl) (by simp) ?_
            refine AllReadyH.cons rfl (fun K hK => ?_) AllReadyH.nil
            refine stepM 60 rfl rfl _ _ _ _ 70 rfl Try.underlying63 _ _ _ txInfoZ rfl (.slice pp m cc) m _ rfl HRow.out _ 1 _ rfl HSrc.out (by omega) (by unfold maxLen; omega) ?_
            intro v' W83 hr2 hg2 hk2
            obtain ⟨p2, c2, hv2, _, _⟩ := hr2.form
            have HFin : Hid (∀ F, F = W83.setCell ⟨B, 4, none⟩ v' → ∃ who', AftT who u F B (Me.begin q ca cb ⟨k0, o1, o2, o3, o4, o5, o6, k7, k8⟩) (n + 1) who') := fun F hF => AftT.app HQ.out.1 HQ.out.2 HBW82.out (MapIn.is HMW82v.out) (MapIn.is HMW82e.out) HNe.out ⟨MapIn.lo HMW82v.out, MapIn.lo HMW82e.out⟩ (by rw [← HM.out]; exact hr2) hg2 hk2 hF HOk2.out
            have hKn : KeptQ who u W83 := (KeptQ.ofBelow HBW82.out).grown hg2 (fun k hk _ => by have := HQ.out.2.r.wr k hk; omega)
            have HCn : Hid (W83.cell? ⟨B, 4, none⟩ = some (.slice pp m cc) ∧ W83.frozen? ⟨B, 4, none⟩ = false) := by
              have hq2 := HQ.out.2.below HQ.out.1.np HBW82.out
              have hb : W83.heap[B]? = W82.heap[B]? := hg2.block B (hq2.r.here B (by rw [hq2.wB]; omega)) (fun e => by have := HQ.out.2.r.wr B e.symm; rw [HQ.out.2.wB] at this; omega)
              exact ⟨(World.cell?_of_block (a := ⟨B, 4, none⟩) hb).trans hq2.b.c4, (World.frozen?_of_block (a := ⟨B, 4, none⟩) hb).trans (hq2.b.fz 4)⟩
            have HKn : Hid (KeptQ who u W83) := hKn
            subst hv2
            clear hr2 hg2 hk2 hKn
            refine hK.out _ _ HKn.out (fun hHeld2 => ?_)
            clear hK K hHeld
            have hHeld := hHeld2
            clear hHeld2
            simp only [Act.put, List.setIfInBounds_toArray, List.set_cons_zero, List.set_cons_succ]
            refine takeM (i := 15) (d := 61) (v := .pointer (some ⟨B, 0, none⟩)) rfl rfl (by kernel_rfl) (by kernel_rfl) (by kernel_rfl) (fun _ _ _ h => h) (Or.inl ⟨by rfl, ?_⟩) (by assumption) ?_
            · intro X hSw
              obtain ⟨e1, e2, e3, e4, e5, e6, e7, e8, e9, e10, e11⟩ := HCL.out X hSw
              clear hSw
              go_simp
            simp only [Act.put, List.setIfInBounds_toArray, List.set_cons_zero, List.set_cons_succ]
            refine takeM (i := 16) (d := 62) (v := .pointer (some ⟨B, 4, none⟩)) rfl rfl (by kernel_rfl) (by kernel_rfl) (by kernel_rfl) (fun _ _ _ h => h) (Or.inl ⟨by rfl, ?_⟩) (by assumption) ?_
            · intro X hSw
              obtain ⟨e1, e2, e3, e4, e5, e6, e7, e8, e9, e10, e11⟩ := HCL.out X hSw
              clear hSw
              go_simp
            simp only [Act.put, List.setIfInBounds_toArray, List.set_cons_zero, List.set_cons_succ]
            refine wpAnyH_ready (rs := [17]) (by kernel_rfl) (by simp) ?_
            refine AllReadyH.cons rfl (fun K hK => ?_) AllReadyH.nil
            obtain ⟨c4, f4⟩ := HCn.out
            go_simp
            obtain ⟨W84, hW84⟩ : ∃ W84, W84 = World.setCell W83 ⟨B, 4, none⟩ (.slice p2 (m + 1) c2) := ⟨_, rfl⟩
            obtain ⟨who', hA⟩ := HFin.out W84 hW84
            have HA : Hid (AftT who u W84 B (Me.begin q ca cb ⟨k0, o1, o2, o3, o4, o5, o6, k7, k8⟩) (n + 1) who') := hA
            rw [← hW84]
            clear hW84 hA c4 f4
            refine hK.out _ _ HA.out.2.2 (fun hHeld2 => ?_)
            clear hK K hHeld hHeld2
            refine wpAnyH_done (by kernel_rfl) ?_ _
            go_wp2_with fail
            go_meet
            exact ⟨rfl, who', HA⟩
          · go_simp
            obtain ⟨W85, hW85⟩ : ∃ W85, W85 = World.alloc W80 (.map #[] 0) := ⟨_, rfl⟩
            obtain ⟨be, hbe⟩ : ∃ be, be = W80.heap.size := ⟨_, rfl⟩
            have hbn : Below W80.heap.size W80 W85 := by rw [hW85]; exact below_alloc _ _
            have HBW85 : Hid (Below u.heap.size u W85) := Below.trans HBW80.out (Below.mono hbn (Below.size HBW80.out))
            have HMW85e : Hid (MapIn u be W85) := by rw [hbe, hW85]; exact MapIn.new HBW80.out
            have HMW85v : Hid (MapIn u bv W85) := MapIn.below HMW80v.out hbn
            have HNe : Hid (bv ≠ be) := by have := MapIn.lt HMW80v.out; show bv ≠ be; omega
            rw [← hW85, ← hbe]
            clear hW85 hbe hbn
            refine hK.out _ _ (KeptQ.ofBelow (HBW85.out)) (fun hHeld2 => ?_)
            clear hK K hHeld
            have hHeld := hHeld2
            clear hHeld2
            refine takeM (i := 12) (d := 58) (v := .agg #[.int .i64 ca, .int .i64 cb, .int .i64 k0, .string o1, .string o2, .string o3, .string o4, .string o5, .string o6, .int .i64 k7, .int .i64 k8, .map (some bv), .map (some be), .string ⟨#[]⟩]) rfl rfl (by kernel_rfl) (by kernel_rfl) (by kernel_rfl) (fun _ _ _ h => h) (Or.inl ⟨by rfl, ?_⟩) (by assumption) ?_
            · intro X hSw
              obtain ⟨e1, e2, e3, e4, e5, e6, e7, e8, e9, e10, e11⟩ := HCL.out X hSw
              clear hSw
              go_simp
            simp only [Act.put, List.setIfInBounds_toArray, List.set_cons_zero, List.set_cons_succ]
            refine wpAnyH_ready (rs := [4, 13]) (by kernel_rfl) (by simp) ?_
            refine AllReadyH.cons rfl (fun K hK => ?_) (AllReadyH.cons rfl (fun K hK => ?_) AllReadyH.nil)
            · have y4 := (HQ4.out W85 HBW85.out).2
              go_simp
              refine hK.out _ _ (KeptQ.ofBelow (HBW85.out)) (fun hHeld2 => ?_)
              clear hK K hHeld
              have hHeld := hHeld2
              clear hHeld2
              clear y4
              refine wpAnyH_ready (rs := [13]) (by kernel_rfl) (by simp) ?_
              refine AllReadyH.cons rfl (fun K hK => ?_) AllReadyH.nil
              go_simp
              obtain ⟨W86, hW86⟩ : ∃ W86, W86 = World.alloc W85 (.cells #[.int .i64 ca, .int .i64 cb, .int .i64 k0, .string o1, .string o2, .string o3, .string o4, .string o5, .string o6, .int .i64 k7, .int .i64 k8, .map (some bv), .map (some be), .string ⟨#[]⟩] 70) := ⟨_, rfl⟩
              obtain ⟨bs, hbs⟩ : ∃ bs, bs = W85.heap.size := ⟨_, rfl⟩
              have hbn : Below W85.heap.size W85 W86 := by rw [hW86]; exact below_alloc _ _
              have HBW86 : Hid (Below u.heap.size u W86) := Below.trans HBW85.out (Below.mono hbn (Below.size HBW85.out))
              have HMW86v : Hid (MapIn u bv W86) := MapIn.below HMW85v.out hbn
              have HMW86e : Hid (MapIn u be W86) := MapIn.below HMW85e.out hbn
              have HSr : Hid (∀ (j : Nat) x, ([.int .i64 ca, .int .i64 cb, .int .i64 k0, .string o1, .string o2, .string o3, .string o4, .string o5, .string o6, .int .i64 k7, .int .i64 k8, .map (some bv), .map (some be), .string ⟨#[]⟩] : List Value)[j]? = some x → W86.cell? ⟨bs, j, none⟩ = some x) := fun j x hx => by rw [hW86, hbs, World.cell?_alloc_mark]; simpa using hx
              have HSl : Hid (bs < W86.heap.size) := by show bs < _; rw [hW86, hbs]; simp
              rw [← hW86, ← hbs]
              clear hW86 hbs hbn
              refine hK.out _ _ (KeptQ.ofBelow (HBW86.out)) (fun hHeld2 => ?_)
              clear hK K hHeld
              have hHeld := hHeld2
              clear hHeld2
              have HRow : Hid (RowC W86 14 (.slice pp m cc) m (txsC vb eb (q.ans + 1) q.wait)) := by
                have := (HQ.out.2.below HQ.out.1.np HBW86.out).r.row
                rw [← HM.out] at this
                exact this
              have HSrc : Hid (Src Try.prog 14 63 (.slice (some ⟨bs, 0, none⟩) 1 1) 1 [.int .i64 ca, .int .i64 cb, .int .i64 k0, .string o1, .string o2, .string o3, .string o4, .string o5, .string o6, .int .i64 k7, .int .i64 k8, .map (some bv), .map (some be), .string ⟨#[]⟩] W86) := src_tx W86 [.int .i64 ca, .int .i64 cb, .int .i64 k0, .string o1, .string o2, .string o3, .string o4, .string o5, .string o6, .int .i64 k7, .int .i64 k8, .map (some bv), .map (some be), .string ⟨#[]⟩] HSr.out rfl (txC_one (Me.fresh ca cb ⟨k0, o1, o2, o3, o4, o5, o6, k7, k8⟩) bv be)
              refine wpAnyH_ready (rs := [14]) (by kernel_rfl) (by simp) ?_
              refine AllReadyH.cons rfl (fun K hK => ?_) AllReadyH.nil
              refine stepM 60 rfl rfl _ _ _ _ 70 rfl Try.underlying63 _ _ _ txInfoZ rfl (.slice pp m cc) m _ rfl HRow.out _ 1 _ rfl HSrc.out (by omega) (by unfold maxLen; omega) ?_
              intro v' W87 hr2 hg2 hk2
              obtain ⟨p2, c2, hv2, _, _⟩ := hr2.form
              have HFin : Hid (∀ F, F = W87.setCell ⟨B, 4, none⟩ v' → ∃ who', AftT who u F B (Me.begin q ca cb ⟨k0, o1, o2, o3, o4, o5, o6, k7, k8⟩) (n + 1) who') := fun F hF => AftT.app HQ.out.1 HQ.out.2 HBW86.out (MapIn.is HMW86v.out) (MapIn.is HMW86e.out) HNe.out ⟨MapIn.lo HMW86v.out, MapIn.lo HMW86e.out⟩ (by rw [← HM.out]; exact hr2) hg2 hk2 hF HOk2.out
              have hKn : KeptQ who u W87 := (KeptQ.ofBelow HBW86.out).grown hg2 (fun k hk _ => by have := HQ.out.2.r.wr k hk; omega)
              have HCn : Hid (W87.cell? ⟨B, 4, none⟩ = some (.slice pp m cc) ∧ W87.frozen? ⟨B, 4, none⟩ = false) := by
                have hq2 := HQ.out.2.below HQ.out.1.np HBW86.out
                have hb : W87.heap[B]? = W86.heap[B]? := hg2.block B (hq2.r.here B (by rw [hq2.wB]; omega)) (fun e => by have := HQ.out.2.r.wr B e.symm; rw [HQ.out.2.wB] at this; omega)
                exact ⟨(World.cell?_of_block (a := ⟨B, 4, none⟩) hb).trans hq2.b.c4, (World.frozen?_of_block (a := ⟨B, 4, none⟩) hb).trans (hq2.b.fz 4)⟩
              have HKn : Hid (KeptQ who u W87) := hKn
              subst hv2
              clear hr2 hg2 hk2 hKn
              refine hK.out _ _ HKn.out (fun hHeld2 => ?_)
              clear hK K hHeld
              have hHeld := hHeld2
              clear hHeld2
              simp only [Act.put, List.setIfInBounds_toArray, List.set_cons_zero, List.set_cons_succ]
              refine takeM (i := 15) (d := 61) (v := .pointer (some ⟨B, 0, none⟩)) rfl rfl (by kernel_rfl) (by kernel_rfl) (by kernel_rfl) (fun _ _ _ h => h) (Or.inl ⟨by rfl, ?_⟩) (by assumption) ?_
              · intro X hSw
                obtain ⟨e1, e2, e3, e4, e5, e6, e7, e8, e9, e10, e11⟩ := HCL.out X hSw
                clear hSw
                go_simp
              simp only [Act.put, List.setIfInBounds_toArray, List.set_cons_zero, List.set_cons_succ]
              refine takeM (i := 16) (d := 62) (v := .pointer (some ⟨B, 4, none⟩)) rfl rfl (by kernel_rfl) (by kernel_rfl) (by kernel_rfl) (fun _ _ _ h => h) (Or.inl ⟨by rfl, ?_⟩) (by assumption) ?_
              · intro X hSw
                obtain ⟨e1, e2, e3, e4, e5, e6, e7, e8, e9, e10, e11⟩ := HCL.out X hSw
                clear hSw
                go_simp
              simp only [Act.put, List.setIfInBounds_toArray, List.set_cons_zero, List.set_cons_succ]
              refine wpAnyH_ready (rs := [17]) (by kernel_rfl) (by simp) ?_
              refine AllReadyH.cons rfl (fun K hK => ?_) AllReadyH.nil
              obtain ⟨c4, f4⟩ := HCn.out
              go_simp
              obtain ⟨W88, hW88⟩ : ∃ W88, W88 = World.setCell W87 ⟨B, 4, none⟩ (.slice p2 (m + 1) c2) := ⟨_, rfl⟩
              obtain ⟨who', hA⟩ := HFin.out W88 hW88
              have HA : Hid (AftT who u W88 B (Me.begin q ca cb ⟨k0, o1, o2, o3, o4, o5, o6, k7, k8⟩) (n + 1) who') := hA
              rw [← hW88]
              clear hW88 hA c4 f4
              refine hK.out _ _ HA.out.2.2 (fun hHeld2 => ?_)
              clear hK K hHeld hHeld2
              refine wpAnyH_done (by kernel_rfl) ?_ _
              go_wp2_with fail
              go_meet
              exact ⟨rfl, who', HA⟩
            · go_simp
              obtain ⟨W89, hW89⟩ : ∃ W89, W89 = World.alloc W85 (.cells #[.int .i64 ca, .int .i64 cb, .int .i64 k0, .string o1, .string o2, .string o3, .string o4, .string o5, .string o6, .int .i64 k7, .int .i64 k8, .map (some bv), .map (some be), .string ⟨#[]⟩] 70) := ⟨_, rfl⟩
              obtain ⟨bs, hbs⟩ : ∃ bs, bs = W85.heap.size := ⟨_, rfl⟩
              have hbn : Below W85.heap.size W85 W89 := by rw [hW89]; exact below_alloc _ _
              have HBW89 : Hid (Below u.heap.size u W89) := Below.trans HBW85.out (Below.mono hbn (Below.size HBW85.out))
              have HMW89v : Hid (MapIn u bv W89) := MapIn.below HMW85v.out hbn
              have HMW89e : Hid (MapIn u be W89) := MapIn.below HMW85e.out hbn
              have HSr : Hid (∀ (j : Nat) x, ([.int .i64 ca, .int .i64 cb, .int .i64 k0, .string o1, .string o2, .string o3, .string o4, .string o5, .string o6, .int .i64 k7, .int .i64 k8, .map (some bv), .map (some be), .string ⟨#[]⟩] : List Value)[j]? = some x → W89.cell? ⟨bs, j, none⟩ = some x) := fun j x hx => by rw [hW89, hbs, World.cell?_alloc_mark]; simpa using hx
              have HSl : Hid (bs < W89.heap.size) := by show bs < _; rw [hW89, hbs]; simp
              rw [← hW89, ← hbs]
              clear hW89 hbs hbn
              refine hK.out _ _ (KeptQ.ofBelow (HBW89.out)) (fun hHeld2 => ?_)
              clear hK K hHeld
              have hHeld := hHeld2
              clear hHeld2
              refine wpAnyH_ready (rs := [4]) (by kernel_rfl) (by simp) ?_
              refine AllReadyH.cons rfl (fun K hK => ?_) AllReadyH.nil
              have y4 := (HQ4.out W89 HBW89.out).2
              go_simp
              refine hK.out _ _ (KeptQ.ofBelow (HBW89.out)) (fun hHeld2 => ?_)
              clear hK K hHeld
              have hHeld := hHeld2
              clear hHeld2
              clear y4
              have HRow : Hid (RowC W89 14 (.slice pp m cc) m (txsC vb eb (q.ans + 1) q.wait)) := by
                have := (HQ.out.2.below HQ.out.1.np HBW89.out).r.row
                rw [← HM.out] at this
                exact this
              have HSrc : Hid (Src Try.prog 14 63 (.slice (some ⟨bs, 0, none⟩) 1 1) 1 [.int .i64 ca, .int .i64 cb, .int .i64 k0, .string o1, .string o2, .string o3, .string o4, .string o5, .string o6, .int .i64 k7, .int .i64 k8, .map (some bv), .map (some be), .string ⟨#[]⟩] W89) := src_tx W89 [.int .i64 ca, .int .i64 cb, .int .i64 k0, .string o1, .string o2, .string o3, .string o4, .string o5, .string o6, .int .i64 k7, .int .i64 k8, .map (some bv), .map (some be), .string ⟨#[]⟩] HSr.out rfl (txC_one (Me.fresh ca cb ⟨k0, o1, o2, o3, o4, o5, o6, k7, k8⟩) bv be)
              refine wpAnyH_ready (rs := [14]) (by kernel_rfl) (by simp) ?_
              refine AllReadyH.cons rfl (fun K hK => ?_) AllReadyH.nil
              refine stepM 60 rfl rfl _ _ _ _ 70 rfl Try.underlying63 _ _ _ txInfoZ rfl (.slice pp m cc) m _ rfl HRow.out _ 1 _ rfl HSrc.out (by omega) (by unfold maxLen; omega) ?_
              intro v' W90 hr2 hg2 hk2
              obtain ⟨p2, c2, hv2, _, _⟩ := hr2.form
              have HFin : Hid (∀ F, F = W90.setCell ⟨B, 4, none⟩ v' → ∃ who', AftT who u F B (Me.begin q ca cb ⟨k0, o1, o2, o3, o4, o5, o6, k7, k8⟩) (n + 1) who') := fun F hF => AftT.app HQ.out.1 HQ.out.2 HBW89.out (MapIn.is HMW89v.out) (MapIn.is HMW89e.out) HNe.out ⟨MapIn.lo HMW89v.out, MapIn.lo HMW89e.out⟩ (by rw [← HM.out]; exact hr2) hg2 hk2 hF HOk2.out
              have hKn : KeptQ who u W90 := (KeptQ.ofBelow HBW89.out).grown hg2 (fun k hk _ => by have := HQ.out.2.r.wr k hk; omega)
              have HCn : Hid (W90.cell? ⟨B, 4, none⟩ = some (.slice pp m cc) ∧ W90.frozen? ⟨B, 4, none⟩ = false) := by
                have hq2 := HQ.out.2.below HQ.out.1.np HBW89.out
                have hb : W90.heap[B]? = W89.heap[B]? := hg2.block B (hq2.r.here B (by rw [hq2.wB]; omega)) (fun e => by have := HQ.out.2.r.wr B e.symm; rw [HQ.out.2.wB] at this; omega)
                exact ⟨(World.cell?_of_block (a := ⟨B, 4, none⟩) hb).trans hq2.b.c4, (World.frozen?_of_block (a := ⟨B, 4, none⟩) hb).trans (hq2.b.fz 4)⟩
              have HKn : Hid (KeptQ who u W90) := hKn
              subst hv2
              clear hr2 hg2 hk2 hKn
              refine hK.out _ _ HKn.out (fun hHeld2 => ?_)
              clear hK K hHeld
              have hHeld := hHeld2
              clear hHeld2
              simp only [Act.put, List.setIfInBounds_toArray, List.set_cons_zero, List.set_cons_succ]
              refine takeM (i := 15) (d := 61) (v := .pointer (some ⟨B, 0, none⟩)) rfl rfl (by kernel_rfl) (by kernel_rfl) (by kernel_rfl) (fun _ _ _ h => h) (Or.inl ⟨by rfl, ?_⟩) (by assumption) ?_
              · intro X hSw
                obtain ⟨e1, e2, e3, e4, e5, e6, e7, e8, e9, e10, e11⟩ := HCL.out X hSw
                clear hSw
                go_simp
              simp only [Act.put, List.setIfInBounds_toArray, List.set_cons_zero, List.set_cons_succ]
              refine takeM (i := 16) (d := 62) (v := .pointer (some ⟨B, 4, none⟩)) rfl rfl (by kernel_rfl) (by kernel_rfl) (by kernel_rfl) (fun _ _ _ h => h) (Or.inl ⟨by rfl, ?_⟩) (by assumption) ?_
              · intro X hSw
                obtain ⟨e1, e2, e3, e4, e5, e6, e7, e8, e9, e10, e11⟩ := HCL.out X hSw
                clear hSw
                go_simp
              simp only [Act.put, List.setIfInBounds_toArray, List.set_cons_zero, List.set_cons_succ]
              refine wpAnyH_ready (rs := [17]) (by kernel_rfl) (by simp) ?_
              refine AllReadyH.cons rfl (fun K hK => ?_) AllReadyH.nil
              obtain ⟨c4, f4⟩ := HCn.out
              go_simp
              obtain ⟨W91, hW91⟩ : ∃ W91, W91 = World.setCell W90 ⟨B, 4, none⟩ (.slice p2 (m + 1) c2) := ⟨_, rfl⟩
              obtain ⟨who', hA⟩ := HFin.out W91 hW91
              have HA : Hid (AftT who u W91 B (Me.begin q ca cb ⟨k0, o1, o2, o3, o4, o5, o6, k7, k8⟩) (n + 1) who') := hA
              rw [← hW91]
              clear hW91 hA c4 f4
              refine hK.out _ _ HA.out.2.2 (fun hHeld2 => ?_)
              clear hK K hHeld hHeld2
              refine wpAnyH_done (by kernel_rfl) ?_ _
              go_wp2_with fail
              go_meet
              exact ⟨rfl, who', HA⟩
        · go_simp
          obtain ⟨W92, hW92⟩ : ∃ W92, W92 = World.alloc W69 (.map #[] 0) := ⟨_, rfl⟩
          obtain ⟨be, hbe⟩ : ∃ be, be = W69.heap.size := ⟨_, rfl⟩
          have hbn : Below W69.heap.size W69 W92 := by rw [hW92]; exact below_alloc _ _
          have HBW92 : Hid (Below u.heap.size u W92) := Below.trans HBW69.out (Below.mono hbn (Below.size HBW69.out))
          have HMW92e : Hid (MapIn u be W92) := by rw [hbe, hW92]; exact MapIn.new HBW69.out
          have HMW92v : Hid (MapIn u bv W92) := MapIn.below HMW69v.out hbn
          have HNe : Hid (bv ≠ be) := by have := MapIn.lt HMW69v.out; show bv ≠ be; omega
          rw [← hW92, ← hbe]
          clear hW92 hbe hbn
          refine hK.out _ _ (KeptQ.ofBelow (HBW92.out)) (fun hHeld2 => ?_)
          clear hK K hHeld
          have hHeld := hHeld2
          clear hHeld2
          refine wpAnyH_ready (rs := [4, 9]) (by kernel_rfl) (by simp) ?_
          refine AllReadyH.cons rfl (fun K hK => ?_) (AllReadyH.cons rfl (fun K hK => ?_) AllReadyH.nil)
          · have y4 := (HQ4.out W92 HBW92.out).2
            go_simp
            refine hK.out _ _ (KeptQ.ofBelow (HBW92.out)) (fun hHeld2 => ?_)
            clear hK K hHeld
            have hHeld := hHeld2
            clear hHeld2
            clear y4
            refine wpAnyH_ready (rs := [9]) (by kernel_rfl) (by simp) ?_
            refine AllReadyH.cons rfl (fun K hK => ?_) AllReadyH.nil
            go_simp
            go_wp2_with fail
            refine Calls.mono (HKo.out W92) ?_
            rintro e' W93 ⟨rfl, hbn⟩
            have HBW93 : Hid (Below u.heap.size u W93) := Below.trans HBW92.out (Below.mono hbn (Below.size HBW92.out))
            have HMW93v : Hid (MapIn u bv W93) := MapIn.below HMW92v.out hbn
            have HMW93e : Hid (MapIn u be W93) := MapIn.below HMW92e.out hbn
            clear hbn
            go_wp2
            refine hK.out _ _ (KeptQ.ofBelow (HBW93.out)) (fun hHeld2 => ?_)
            clear hK K hHeld
            have hHeld := hHeld2
            clear hHeld2
            refine takeM (i := 12) (d := 58) (v := .agg #[.int .i64 ca, .int .i64 cb, .int .i64 k0, .string o1, .string o2, .string o3, .string o4, .string o5, .string o6, .int .i64 k7, .int .i64 k8, .map (some bv), .map (some be), .string ⟨#[]⟩]) rfl rfl (by kernel_rfl) (by kernel_rfl) (by kernel_rfl) (fun _ _ _ h => h) (Or.inl ⟨by rfl, ?_⟩) (by assumption) ?_
            · intro X hSw
              obtain ⟨e1, e2, e3, e4, e5, e6, e7, e8, e9, e10, e11⟩ := HCL.out X hSw
              clear hSw
              go_simp
            simp only [Act.put, List.setIfInBounds_toArray, List.set_cons_zero, List.set_cons_succ]
            refine wpAnyH_ready (rs := [13]) (by kernel_rfl) (by simp) ?_
            refine AllReadyH.cons rfl (fun K hK => ?_) AllReadyH.nil
            go_simp
            obtain ⟨W94, hW94⟩ : ∃ W94, W94 = World.alloc W93 (.cells #[.int .i64 ca, .int .i64 cb, .int .i64 k0, .string o1, .string o2, .string o3, .string o4, .string o5, .string o6, .int .i64 k7, .int .i64 k8, .map (some bv), .map (some be), .string ⟨#[]⟩] 70) := ⟨_, rfl⟩
            obtain ⟨bs, hbs⟩ : ∃ bs, bs = W93.heap.size := ⟨_, rfl⟩
            have hbn : Below W93.heap.size W93 W94 := by rw [hW94]; exact below_alloc _ _
            have HBW94 : Hid (Below u.heap.size u W94) := Below.trans HBW93.out (Below.mono hbn (Below.size HBW93.out))
            have HMW94v : Hid (MapIn u bv W94) := MapIn.below HMW93v.out hbn
            have HMW94e : Hid (MapIn u be W94) := MapIn.below HMW93e.out hbn
            have HSr : Hid (∀ (j : Nat) x, ([.int .i64 ca, .int .i64 cb, .int .i64 k0, .string o1, .string o2, .string o3, .string o4, .string o5, .string o6, .int .i64 k7, .int .i64 k8, .map (some bv), .map (some be), .string ⟨#[]⟩] : List Value)[j]? = some x → W94.cell? ⟨bs, j, none⟩ = some x) := fun j x hx => by rw [hW94, hbs, World.cell?_alloc_mark]; simpa using hx
            have HSl : Hid (bs < W94.heap.size) := by show bs < _; rw [hW94, hbs]; simp
            rw [← hW94, ← hbs]
            clear hW94 hbs hbn
            refine hK.out _ _ (KeptQ.ofBelow (HBW94.out)) (fun hHeld2 => ?_)
            clear hK K hHeld
            have hHeld := hHeld2
            clear hHeld2
            have HRow : Hid (RowC W94 14 (.slice pp m cc) m (txsC vb eb (q.ans + 1) q.wait)) := by
              have := (HQ.out.2.below HQ.out.1.np HBW94.out).r.row
              rw [← HM.out] at this
              exact this
            have HSrc : Hid (Src Try.prog 14 63 (.slice (some ⟨bs, 0, none⟩) 1 1) 1 [.int .i64 ca, .int .i64 cb, .int .i64 k0, .string o1, .string o2, .string o3, .string o4, .string o5, .string o6, .int .i64 k7, .int .i64 k8, .map (some bv), .map (some be), .string ⟨#[]⟩] W94) := src_tx W94 [.int .i64 ca, .int .i64 cb, .int .i64 k0, .string o1, .string o2, .string o3, .string o4, .string o5, .string o6, .int .i64 k7, .int .i64 k8, .map (some bv), .map (some be), .string ⟨#[]⟩] HSr.out rfl (txC_one (Me.fresh ca cb ⟨k0, o1, o2, o3, o4, o5, o6, k7, k8⟩) bv be)
            refine wpAnyH_ready (rs := [14]) (by kernel_rfl) (by simp) ?_
            refine AllReadyH.cons rfl (fun K hK => ?_) AllReadyH.nil
            refine stepM 60 rfl rfl _ _ _ _ 70 rfl Try.underlying63 _ _ _ txInfoZ rfl (.slice pp m cc) m _ rfl HRow.out _ 1 _ rfl HSrc.out (by omega) (by unfold maxLen; omega) ?_
            intro v' W95 hr2 hg2 hk2
            obtain ⟨p2, c2, hv2, _, _⟩ := hr2.form
            have HFin : Hid (∀ F, F = W95.setCell ⟨B, 4, none⟩ v' → ∃ who', AftT who u F B (Me.begin q ca cb ⟨k0, o1, o2, o3, o4, o5, o6, k7, k8⟩) (n + 1) who') := fun F hF => AftT.app HQ.out.1 HQ.out.2 HBW94.out (MapIn.is HMW94v.out) (MapIn.is HMW94e.out) HNe.out ⟨MapIn.lo HMW94v.out, MapIn.lo HMW94e.out⟩ (by rw [← HM.out]; exact hr2) hg2 hk2 hF HOk2.out
            have hKn : KeptQ who u W95 := (KeptQ.ofBelow HBW94.out).grown hg2 (fun k hk _ => by have := HQ.out.2.r.wr k hk; omega)
            have HCn : Hid (W95.cell? ⟨B, 4, none⟩ = some (.slice pp m cc) ∧ W95.frozen? ⟨B, 4, none⟩ = false) := by
              have hq2 := HQ.out.2.below HQ.out.1.np HBW94.out
              have hb : W95.heap[B]? = W94.heap[B]? := hg2.block B (hq2.r.here B (by rw [hq2.wB]; omega)) (fun e => by have := HQ.out.2.r.wr B e.symm; rw [HQ.out.2.wB] at this; omega)
              exact ⟨(World.cell?_of_block (a := ⟨B, 4, none⟩) hb).trans hq2.b.c4, (World.frozen?_of_block (a := ⟨B, 4, none⟩) hb).trans (hq2.b.fz 4)⟩
            have HKn : Hid (KeptQ who u W95) := hKn
            subst hv2
            clear hr2 hg2 hk2 hKn
            refine hK.out _ _ HKn.out (fun hHeld2 => ?_)
            clear hK K hHeld
            have hHeld := hHeld2
            clear hHeld2
            simp only [Act.put, List.setIfInBounds_toArray, List.set_cons_zero, List.set_cons_succ]
            refine takeM (i := 15) (d := 61) (v := .pointer (some ⟨B, 0, none⟩)) rfl rfl (by kernel_rfl) (by kernel_rfl) (by kernel_rfl) (fun _ _ _ h => h) (Or.inl ⟨by rfl, ?_⟩) (by assumption) ?_
            · intro X hSw
              obtain ⟨e1, e2, e3, e4, e5, e6, e7, e8, e9, e10, e11⟩ := HCL.out X hSw
              clear hSw
              go_simp
            simp only [Act.put, List.setIfInBounds_toArray, List.set_cons_zero, List.set_cons_succ]
            refine takeM (i := 16) (d := 62) (v := .pointer (some ⟨B, 4, none⟩)) rfl rfl (by kernel_rfl) (by kernel_rfl) (by kernel_rfl) (fun _ _ _ h => h) (Or.inl ⟨by rfl, ?_⟩) (by assumption) ?_
            · intro X hSw
              obtain ⟨e1, e2, e3, e4, e5, e6, e7, e8, e9, e10, e11⟩ := HCL.out X hSw
              clear hSw
              go_simp
            simp only [Act.put, List.setIfInBounds_toArray, List.set_cons_zero, List.set_cons_succ]
            refine wpAnyH_ready (rs := [17]) (by kernel_rfl) (by simp) ?_
            refine AllReadyH.cons rfl (fun K hK => ?_) AllReadyH.nil
            obtain ⟨c4, f4⟩ := HCn.out
            go_simp
            obtain ⟨W96, hW96⟩ : ∃ W96, W96 = World.setCell W95 ⟨B, 4, none⟩ (.slice p2 (m + 1) c2) := ⟨_, rfl⟩
            obtain ⟨who', hA⟩ := HFin.out W96 hW96
            have HA : Hid (AftT who u W96 B (Me.begin q ca cb ⟨k0, o1, o2, o3, o4, o5, o6, k7, k8⟩) (n + 1) who') := hA
            rw [← hW96]
            clear hW96 hA c4 f4
            refine hK.out _ _ HA.out.2.2 (fun hHeld2 => ?_)
            clear hK K hHeld hHeld2
            refine wpAnyH_done (by kernel_rfl) ?_ _
            go_wp2_with fail
            go_meet
            exact ⟨rfl, who', HA⟩
          · go_simp
            go_wp2_with fail
            refine Calls.mono (HKo.out W92) ?_
            rintro e' W97 ⟨rfl, hbn⟩
            have HBW97 : Hid (Below u.heap.size u W97) := Below.trans HBW92.out (Below.mono hbn (Below.size HBW92.out))
            have HMW97v : Hid (MapIn u bv W97) := MapIn.below HMW92v.out hbn
            have HMW97e : Hid (MapIn u be W97) := MapIn.below HMW92e.out hbn
            clear hbn
            go_wp2
            refine hK.out _ _ (KeptQ.ofBelow (HBW97.out)) (fun hHeld2 => ?_)
            clear hK K hHeld
            have hHeld := hHeld2
            clear hHeld2
            refine takeM (i := 12) (d := 58) (v := .agg #[.int .i64 ca, .int .i64 cb, .int .i64 k0, .string o1, .string o2, .string o3, .string o4, .string o5, .string o6, .int .i64 k7, .int .i64 k8, .map (some bv), .map (some be), .string ⟨#[]⟩]) rfl rfl (by kernel_rfl) (by kernel_rfl) (by kernel_rfl) (fun _ _ _ h => h) (Or.inl ⟨by rfl, ?_⟩) (by assumption) ?_
            · intro X hSw
              obtain ⟨e1, e2, e3, e4, e5, e6, e7, e8, e9, e10, e11⟩ := HCL.out X hSw
              clear hSw
              go_simp
            simp only [Act.put, List.setIfInBounds_toArray, List.set_cons_zero, List.set_cons_succ]
            refine wpAnyH_ready (rs := [4, 13]) (by kernel_rfl) (by simp) ?_
            refine AllReadyH.cons rfl (fun K hK => ?_) (AllReadyH.cons rfl (fun K hK => ?_) AllReadyH.nil)
            · have y4 := (HQ4.out W97 HBW97.out).2
              go_simp
              refine hK.out _ _ (KeptQ.ofBelow (HBW97.out)) (fun hHeld2 => ?_)
              clear hK K hHeld
              have hHeld := hHeld2
              clear hHeld2
              clear y4
              refine wpAnyH_ready (rs := [13]) (by kernel_rfl) (by simp) ?_
              refine AllReadyH.cons rfl (fun K hK => ?_) AllReadyH.nil
              go_simp
              obtain ⟨W98, hW98⟩ : ∃ W98, W98 = World.alloc W97 (.cells #[.int .i64 ca, .int .i64 cb, .int .i64 k0, .string o1, .string o2, .string o3, .string o4, .string o5, .string o6, .int .i64 k7, .int .i64 k8, .map (some bv), .map (some be), .string ⟨#[]⟩] 70) := ⟨_, rfl⟩
              obtain ⟨bs, hbs⟩ : ∃ bs, bs = W97.heap.size := ⟨_, rfl⟩
              have hbn : Below W97.heap.size W97 W98 := by rw [hW98]; exact below_alloc _ _
              have HBW98 : Hid (Below u.heap.size u W98) := Below.trans HBW97.out (Below.mono hbn (Below.size HBW97.out))
              have HMW98v : Hid (MapIn u bv W98) := MapIn.below HMW97v.out hbn
              have HMW98e : Hid (MapIn u be W98) := MapIn.below HMW97e.out hbn
              have HSr : Hid (∀ (j : Nat) x, ([.int .i64 ca, .int .i64 cb, .int .i64 k0, .string o1, .string o2, .string o3, .string o4, .string o5, .string o6, .int .i64 k7, .int .i64 k8, .map (some bv), .map (some be), .string ⟨#[]⟩] : List Value)[j]? = some x → W98.cell? ⟨bs, j, none⟩ = some x) := fun j x hx => by rw [hW98, hbs, World.cell?_alloc_mark]; simpa using hx
              have HSl : Hid (bs < W98.heap.size) := by show bs < _; rw [hW98, hbs]; simp
              rw [← hW98, ← hbs]
              clear hW98 hbs hbn
              refine hK.out _ _ (KeptQ.ofBelow (HBW98.out)) (fun hHeld2 => ?_)
              clear hK K hHeld
              have hHeld := hHeld2
              clear hHeld2
              have HRow : Hid (RowC W98 14 (.slice pp m cc) m (txsC vb eb (q.ans + 1) q.wait)) := by
                have := (HQ.out.2.below HQ.out.1.np HBW98.out).r.row
                rw [← HM.out] at this
                exact this
              have HSrc : Hid (Src Try.prog 14 63 (.slice (some ⟨bs, 0, none⟩) 1 1) 1 [.int .i64 ca, .int .i64 cb, .int .i64 k0, .string o1, .string o2, .string o3, .string o4, .string o5, .string o6, .int .i64 k7, .int .i64 k8, .map (some bv), .map (some be), .string ⟨#[]⟩] W98) := src_tx W98 [.int .i64 ca, .int .i64 cb, .int .i64 k0, .string o1, .string o2, .string o3, .string o4, .string o5, .string o6, .int .i64 k7, .int .i64 k8, .map (some bv), .map (some be), .string ⟨#[]⟩] HSr.out rfl (txC_one (Me.fresh ca cb ⟨k0, o1, o2, o3, o4, o5, o6, k7, k8⟩) bv be)
              refine wpAnyH_ready (rs := [14]) (by kernel_rfl) (by simp) ?_
              refine AllReadyH.cons rfl (fun K hK => ?_) AllReadyH.nil
              refine stepM 60 rfl rfl _ _ _ _ 70 rfl Try.underlying63 _ _ _ txInfoZ rfl (.slice pp m cc) m _ rfl HRow.out _ 1 _ rfl HSrc.out (by omega) (by unfold maxLen; omega) ?_
              intro v' W99 hr2 hg2 hk2
              obtain ⟨p2, c2, hv2, _, _⟩ := hr2.form
              have HFin : Hid (∀ F, F = W99.setCell ⟨B, 4, none⟩ v' → ∃ who', AftT who u F B (Me.begin q ca cb ⟨k0, o1, o2, o3, o4, o5, o6, k7, k8⟩) (n + 1) who') := fun F hF => AftT.app HQ.out.1 HQ.out.2 HBW98.out (MapIn.is HMW98v.out) (MapIn.is HMW98e.out) HNe.out ⟨MapIn.lo HMW98v.out, MapIn.lo HMW98e.out⟩ (by rw [← HM.out]; exact hr2) hg2 hk2 hF HOk2.out
              have hKn : KeptQ who u W99 := (KeptQ.ofBelow HBW98.out).grown hg2 (fun k hk _ => by have := HQ.out.2.r.wr k hk; omega)
              have HCn : Hid (W99.cell? ⟨B, 4, none⟩ = some (.slice pp m cc) ∧ W99.frozen? ⟨B, 4, none⟩ = false) := by
                have hq2 := HQ.out.2.below HQ.out.1.np HBW98.out
                have hb : W99.heap[B]? = W98.heap[B]? := hg2.block B (hq2.r.here B (by rw [hq2.wB]; omega)) (fun e => by have := HQ.out.2.r.wr B e.symm; rw [HQ.out.2.wB] at this; omega)
                exact ⟨(World.cell?_of_block (a := ⟨B, 4, none⟩) hb).trans hq2.b.c4, (World.frozen?_of_block (a := ⟨B, 4, none⟩) hb).trans (hq2.b.fz 4)⟩
              have HKn : Hid (KeptQ who u W99) := hKn
              subst hv2
              clear hr2 hg2 hk2 hKn
              refine hK.out _ _ HKn.out (fun hHeld2 => ?_)
              clear hK K hHeld
              have hHeld := hHeld2
              clear hHeld2
              simp only [Act.put, List.setIfInBounds_toArray, List.set_cons_zero, List.set_cons_succ]
              refine takeM (i := 15) (d := 61) (v := .pointer (some ⟨B, 0, none⟩)) rfl rfl (by kernel_rfl) (by kernel_rfl) (by kernel_rfl) (fun _ _ _ h => h) (Or.inl ⟨by rfl, ?_⟩) (by assumption) ?_
              · intro X hSw
                obtain ⟨e1, e2, e3, e4, e5, e6, e7, e8, e9, e10, e11⟩ := HCL.out X hSw
                clear hSw
                go_simp
              simp only [Act.put, List.setIfInBounds_toArray, List.set_cons_zero, List.set_cons_succ]
              refine takeM (i := 16) (d := 62) (v := .pointer (some ⟨B, 4, none⟩)) rfl rfl (by kernel_rfl) (by kernel_rfl) (by kernel_rfl) (fun _ _ _ h => h) (Or.inl ⟨by rfl, ?_⟩) (by assumption) ?_
              · intro X hSw
                obtain ⟨e1, e2, e3, e4, e5, e6, e7, e8, e9, e10, e11⟩ := HCL.out X hSw
                clear hSw
                go_simp
              simp only [Act.put, List.setIfInBounds_toArray, List.set_cons_zero, List.set_cons_succ]
              refine wpAnyH_ready (rs := [17]) (by kernel_rfl) (by simp) ?_
              refine AllReadyH.cons rfl (fun K hK => ?_) AllReadyH.nil
              obtain ⟨c4, f4⟩ := HCn.out
              go_simp
              obtain ⟨W100, hW100⟩ : ∃ W100, W100 = World.setCell W99 ⟨B, 4, none⟩ (.slice p2 (m + 1) c2) := ⟨_, rfl⟩
              obtain ⟨who', hA⟩ := HFin.out W100 hW100
              have HA : Hid (AftT who u W100 B (Me.begin q ca cb ⟨k0, o1, o2, o3, o4, o5, o6, k7, k8⟩) (n + 1) who') := hA
              rw [← hW100]
              clear hW100 hA c4 f4
              refine hK.out _ _ HA.out.2.2 (fun hHeld2 => ?_)
              clear hK K hHeld hHeld2
              refine wpAnyH_done (by kernel_rfl) ?_ _
              go_wp2_with fail
              go_meet
              exact ⟨rfl, who', HA⟩
            · go_simp
              obtain ⟨W101, hW101⟩ : ∃ W101, W101 = World.alloc W97 (.cells #[.int .i64 ca, .int .i64 cb, .int .i64 k0, .string o1, .string o2, .string o3, .string o4, .string o5, .string o6, .int .i64 k7, .int .i64 k8, .map (some bv), .map (some be), .string ⟨#[]⟩] 70) := ⟨_, rfl⟩
              obtain ⟨bs, hbs⟩ : ∃ bs, bs = W97.heap.size := ⟨_, rfl⟩
              have hbn : Below W97.heap.size W97 W101 := by rw [hW101]; exact below_alloc _ _
              have HBW101 : Hid (Below u.heap.size u W101) := Below.trans HBW97.out (Below.mono hbn (Below.size HBW97.out))
              have HMW101v : Hid (MapIn u bv W101) := MapIn.below HMW97v.out hbn
              have HMW101e : Hid (MapIn u be W101) := MapIn.below HMW97e.out hbn
              have HSr : Hid (∀ (j : Nat) x, ([.int .i64 ca, .int .i64 cb, .int .i64 k0, .string o1, .string o2, .string o3, .string o4, .string o5, .string o6, .int .i64 k7, .int .i64 k8, .map (some bv), .map (some be), .string ⟨#[]⟩] : List Value)[j]? = some x → W101.cell? ⟨bs, j, none⟩ = some x) := fun j x hx => by rw [hW101, hbs, World.cell?_alloc_mark]; simpa using hx
              have HSl : Hid (bs < W101.heap.size) := by show bs < _; rw [hW101, hbs]; simp
              rw [← hW101, ← hbs]
              clear hW101 hbs hbn
              refine hK.out _ _ (KeptQ.ofBelow (HBW101.out)) (fun hHeld2 => ?_)
              clear hK K hHeld
              have hHeld := hHeld2
              clear hHeld2
              refine wpAnyH_ready (rs := [4]) (by kernel_rfl) (by simp) ?_
              refine AllReadyH.cons rfl (fun K hK => ?_) AllReadyH.nil
              have y4 := (HQ4.out W101 HBW101.out).2
              go_simp
              refine hK.out _ _ (KeptQ.ofBelow (HBW101.out)) (fun hHeld2 => ?_)
              clear hK K hHeld
              have hHeld := hHeld2
              clear hHeld2
              clear y4
              have HRow : Hid (RowC W101 14 (.slice pp m cc) m (txsC vb eb (q.ans + 1) q.wait)) := by
                have := (HQ.out.2.below HQ.out.1.np HBW101.out).r.row
                rw [← HM.out] at this
                exact this
              have HSrc : Hid (Src Try.prog 14 63 (.slice (some ⟨bs, 0, none⟩) 1 1) 1 [.int .i64 ca, .int .i64 cb, .int .i64 k0, .string o1, .string o2, .string o3, .string o4, .string o5, .string o6, .int .i64 k7, .int .i64 k8, .map (some bv), .map (some be), .string ⟨#[]⟩] W101) := src_tx W101 [.int .i64 ca, .int .i64 cb, .int .i64 k0, .string o1, .string o2, .string o3, .string o4, .string o5, .string o6, .int .i64 k7, .int .i64 k8, .map (some bv), .map (some be), .string ⟨#[]⟩] HSr.out rfl (txC_one (Me.fresh ca cb ⟨k0, o1, o2, o3, o4, o5, o6, k7, k8⟩) bv be)
              refine wpAnyH_ready (rs := [14]) (by kernel_rfl) (by simp) ?_
              refine AllReadyH.cons rfl (fun K hK => ?_) AllReadyH.nil
              refine stepM 60 rfl rfl _ _ _ _ 70 rfl Try.underlying63 _ _ _ txInfoZ rfl (.slice pp m cc) m _ rfl HRow.out _ 1 _ rfl HSrc.out (by omega) (by unfold maxLen; omega) ?_
              intro v' W102 hr2 hg2 hk2
              obtain ⟨p2, c2, hv2, _, _⟩ := hr2.form
              have HFin : Hid (∀ F, F = W102.setCell ⟨B, 4, none⟩ v' → ∃ who', AftT who u F B (Me.begin q ca cb ⟨k0, o1, o2, o3, o4, o5, o6, k7, k8⟩) (n + 1) who') := fun F hF => AftT.app HQ.out.1 HQ.out.2 HBW101.out (MapIn.is HMW101v.out) (MapIn.is HMW101e.out) HNe.out ⟨MapIn.lo HMW101v.out, MapIn.lo HMW101e.out⟩ (by rw [← HM.out]; exact hr2) hg2 hk2 hF HOk2.out
              have hKn : KeptQ who u W102 := (KeptQ.ofBelow HBW101.out).grown hg2 (fun k hk _ => by have := HQ.out.2.r.wr k hk; omega)
              have HCn : Hid (W102.cell? ⟨B, 4, none⟩ = some (.slice pp m cc) ∧ W102.frozen? ⟨B, 4, none⟩ = false) := by
                have hq2 := HQ.out.2.below HQ.out.1.np HBW101.out
                have hb : W102.heap[B]? = W101.heap[B]? := hg2.block B (hq2.r.here B (by rw [hq2.wB]; omega)) (fun e => by have := HQ.out.2.r.wr B e.symm; rw [HQ.out.2.wB] at this; omega)
                exact ⟨(World.cell?_of_block (a := ⟨B, 4, none⟩) hb).trans hq2.b.c4, (World.frozen?_of_block (a := ⟨B, 4, none⟩) hb).trans (hq2.b.fz 4)⟩
              have HKn : Hid (KeptQ who u W102) := hKn
              subst hv2
              clear hr2 hg2 hk2 hKn
              refine hK.out _ _ HKn.out (fun hHeld2 => ?_)
              clear hK K hHeld
              have hHeld := hHeld2
              clear hHeld2
              simp only [Act.put, List.setIfInBounds_toArray, List.set_cons_zero, List.set_cons_succ]
              refine takeM (i := 15) (d := 61) (v := .pointer (some ⟨B, 0, none⟩)) rfl rfl (by kernel_rfl) (by kernel_rfl) (by kernel_rfl) (fun _ _ _ h => h) (Or.inl ⟨by rfl, ?_⟩) (by assumption) ?_
              · intro X hSw
                obtain ⟨e1, e2, e3, e4, e5, e6, e7, e8, e9, e10, e11⟩ := HCL.out X hSw
                clear hSw
                go_simp
              simp only [Act.put, List.setIfInBounds_toArray, List.set_cons_zero, List.set_cons_succ]
              refine takeM (i := 16) (d := 62) (v := .pointer (some ⟨B, 4, none⟩)) rfl rfl (by kernel_rfl) (by kernel_rfl) (by kernel_rfl) (fun _ _ _ h => h) (Or.inl ⟨by rfl, ?_⟩) (by assumption) ?_
              · intro X hSw
                obtain ⟨e1, e2, e3, e4, e5, e6, e7, e8, e9, e10, e11⟩ := HCL.out X hSw
                clear hSw
                go_simp
              simp only [Act.put, List.setIfInBounds_toArray, List.set_cons_zero, List.set_cons_succ]
              refine wpAnyH_ready (rs := [17]) (by kernel_rfl) (by simp) ?_
              refine AllReadyH.cons rfl (fun K hK => ?_) AllReadyH.nil
              obtain ⟨c4, f4⟩ := HCn.out
              go_simp
              obtain ⟨W103, hW103⟩ : ∃ W103, W103 = World.setCell W102 ⟨B, 4, none⟩ (.slice p2 (m + 1) c2) := ⟨_, rfl⟩
              obtain ⟨who', hA⟩ := HFin.out W103 hW103
              have HA : Hid (AftT who u W103 B (Me.begin q ca cb ⟨k0, o1, o2, o3, o4, o5, o6, k7, k8⟩) (n + 1) who') := hA
              rw [← hW103]
              clear hW103 hA c4 f4
              refine hK.out _ _ HA.out.2.2 (fun hHeld2 => ?_)
              clear hK K hHeld hHeld2
              refine wpAnyH_done (by kernel_rfl) ?_ _
              go_wp2_with fail
              go_meet
              exact ⟨rfl, who', HA⟩
      · go_simp
        obtain ⟨W104, hW104⟩ : ∃ W104, W104 = World.alloc w5 (.map #[] 0) := ⟨_, rfl⟩
        obtain ⟨be, hbe⟩ : ∃ be, be = w5.heap.size := ⟨_, rfl⟩
        have hbn : Below w5.heap.size w5 W104 := by rw [hW104]; exact below_alloc _ _
        have HBW104 : Hid (Below u.heap.size u W104) := Below.trans HBw5.out (Below.mono hbn (Below.size HBw5.out))
        have HMW104e : Hid (MapIn u be W104) := by rw [hbe, hW104]; exact MapIn.new HBw5.out
        rw [← hW104, ← hbe]
        clear hW104 hbe hbn
        refine hK.out _ _ (KeptQ.ofBelow (HBW104.out)) (fun hHeld2 => ?_)
        clear hK K hHeld
        have hHeld := hHeld2
        clear hHeld2
        refine wpAnyH_ready (rs := [4, 9, 10]) (by kernel_rfl) (by simp) ?_
        refine AllReadyH.cons rfl (fun K hK => ?_) (AllReadyH.cons rfl (fun K hK => ?_) (AllReadyH.cons rfl (fun K hK => ?_) AllReadyH.nil))
        · have y4 := (HQ4.out W104 HBW104.out).2
          go_simp
          refine hK.out _ _ (KeptQ.ofBelow (HBW104.out)) (fun hHeld2 => ?_)
          clear hK K hHeld
          have hHeld := hHeld2
          clear hHeld2
          clear y4
          refine wpAnyH_ready (rs := [9, 10]) (by kernel_rfl) (by simp) ?_
          refine AllReadyH.cons rfl (fun K hK => ?_) (AllReadyH.cons rfl (fun K hK => ?_) AllReadyH.nil)
          · go_simp
            go_wp2_with fail
            refine Calls.mono (HKo.out W104) ?_
            rintro e' W105 ⟨rfl, hbn⟩
            have HBW105 : Hid (Below u.heap.size u W105) := Below.trans HBW104.out (Below.mono hbn (Below.size HBW104.out))
            have HMW105e : Hid (MapIn u be W105) := MapIn.below HMW104e.out hbn
            clear hbn
            go_wp2
            refine hK.out _ _ (KeptQ.ofBelow (HBW105.out)) (fun hHeld2 => ?_)
            clear hK K hHeld
            have hHeld := hHeld2
            clear hHeld2
            refine wpAnyH_ready (rs := [10]) (by kernel_rfl) (by simp) ?_
            refine AllReadyH.cons rfl (fun K hK => ?_) AllReadyH.nil
            go_simp
            obtain ⟨W106, hW106⟩ : ∃ W106, W106 = World.alloc W105 (.map #[] 0) := ⟨_, rfl⟩
            obtain ⟨bv, hbv⟩ : ∃ bv, bv = W105.heap.size := ⟨_, rfl⟩
            have hbn : Below W105.heap.size W105 W106 := by rw [hW106]; exact below_alloc _ _
            have HBW106 : Hid (Below u.heap.size u W106) := Below.trans HBW105.out (Below.mono hbn (Below.size HBW105.out))
            have HMW106v : Hid (MapIn u bv W106) := by rw [hbv, hW106]; exact MapIn.new HBW105.out
            have HMW106e : Hid (MapIn u be W106) := MapIn.below HMW105e.out hbn
            have HNe : Hid (bv ≠ be) := by have := MapIn.lt HMW105e.out; show bv ≠ be; omega
            rw [← hW106, ← hbv]
            clear hW106 hbv hbn
            refine hK.out _ _ (KeptQ.ofBelow (HBW106.out)) (fun hHeld2 => ?_)
            clear hK K hHeld
            have hHeld := hHeld2
            clear hHeld2
            refine takeM (i := 12) (d := 58) (v := .agg #[.int .i64 ca, .int .i64 cb, .int .i64 k0, .string o1, .string o2, .string o3, .string o4, .string o5, .string o6, .int .i64 k7, .int .i64 k8, .map (some bv), .map (some be), .string ⟨#[]⟩]) rfl rfl (by kernel_rfl) (by kernel_rfl) (by kernel_rfl) (fun _ _ _ h => h) (Or.inl ⟨by rfl, ?_⟩) (by assumption) ?_
            · intro X hSw
              obtain ⟨e1, e2, e3, e4, e5, e6, e7, e8, e9, e10, e11⟩ := HCL.out X hSw
              clear hSw
              go_simp
            simp only [Act.put, List.setIfInBounds_toArray, List.set_cons_zero, List.set_cons_succ]
            refine wpAnyH_ready (rs := [13]) (by kernel_rfl) (by simp) ?_
            refine AllReadyH.cons rfl (fun K hK => ?_) AllReadyH.nil
            go_simp
            obtain ⟨W107, hW107⟩ : ∃ W107, W107 = World.alloc W106 (.cells #[.int .i64 ca, .int .i64 cb, .int .i64 k0, .string o1, .string o2, .string o3, .string o4, .string o5, .string o6, .int .i64 k7, .int .i64 k8, .map (some bv), .map (some be), .string ⟨#[]⟩] 70) := ⟨_, rfl⟩
            obtain ⟨bs, hbs⟩ : ∃ bs, bs = W106.heap.size := ⟨_, rfl⟩
            have hbn : Below W106.heap.size W106 W107 := by rw [hW107]; exact below_alloc _ _
            have HBW107 : Hid (Below u.heap.size u W107) := Below.trans HBW106.out (Below.mono hbn (Below.size HBW106.out))
            have HMW107v : Hid (MapIn u bv W107) := MapIn.below HMW106v.out hbn
            have HMW107e : Hid (MapIn u be W107) := MapIn.below HMW106e.out hbn
            have HSr : Hid (∀ (j : Nat) x, ([.int .i64 ca, .int .i64 cb, .int .i64 k0, .string o1, .string o2, .string o3, .string o4, .string o5, .string o6, .int .i64 k7, .int .i64 k8, .map (some bv), .map (some be), .string ⟨#[]⟩] : List Value)[j]? = some x → W107.cell? ⟨bs, j, none⟩ = some x) := fun j x hx => by rw [hW107, hbs, World.cell?_alloc_mark]; simpa using hx
            have HSl : Hid (bs < W107.heap.size) := by show bs < _; rw [hW107, hbs]; simp
            rw [← hW107, ← hbs]
            clear hW107 hbs hbn
            refine hK.out _ _ (KeptQ.ofBelow (HBW107.out)) (fun hHeld2 => ?_)
            clear hK K hHeld
            have hHeld := hHeld2
            clear hHeld2
            have HRow : Hid (RowC W107 14 (.slice pp m cc) m (txsC vb eb (q.ans + 1) q.wait)) := by
              have := (HQ.out.2.below HQ.out.1.np HBW107.out).r.row
              rw [← HM.out] at this
              exact this
            have HSrc : Hid (Src Try.prog 14 63 (.slice (some ⟨bs, 0, none⟩) 1 1) 1 [.int .i64 ca, .int .i64 cb, .int .i64 k0, .string o1, .string o2, .string o3, .string o4, .string o5, .string o6, .int .i64 k7, .int .i64 k8, .map (some bv), .map (some be), .string ⟨#[]⟩] W107) := src_tx W107 [.int .i64 ca, .int .i64 cb, .int .i64 k0, .string o1, .string o2, .string o3, .string o4, .string o5, .string o6, .int .i64 k7, .int .i64 k8, .map (some bv), .map (some be), .string ⟨#[]⟩] HSr.out rfl (txC_one (Me.fresh ca cb ⟨k0, o1, o2, o3, o4, o5, o6, k7, k8⟩) bv be)
            refine wpAnyH_ready (rs := [14]) (by kernel_rfl) (by simp) ?_
            refine AllReadyH.cons rfl (fun K hK => ?_) AllReadyH.nil
            refine stepM 60 rfl rfl _ _ _ _ 70 rfl Try.underlying63 _ _ _ txInfoZ rfl (.slice pp m cc) m _ rfl HRow.out _ 1 _ rfl HSrc.out (by omega) (by unfold maxLen; omega) ?_
            intro v' W108 hr2 hg2 hk2
            obtain ⟨p2, c2, hv2, _, _⟩ := hr2.form
            have HFin : Hid (∀ F, F = W108.setCell ⟨B, 4, none⟩ v' → ∃ who', AftT who u F B (Me.begin q ca cb ⟨k0, o1, o2, o3, o4, o5, o6, k7, k8⟩) (n + 1) who') := fun F hF => AftT.app HQ.out.1 HQ.out.2 HBW107.out (MapIn.is HMW107v.out) (MapIn.is HMW107e.out) HNe.out ⟨MapIn.lo HMW107v.out, MapIn.lo HMW107e.out⟩ (by rw [← HM.out]; exact hr2) hg2 hk2 hF HOk2.out
            have hKn : KeptQ who u W108 := (KeptQ.ofBelow HBW107.out).grown hg2 (fun k hk _ => by have := HQ.out.2.r.wr k hk; omega)
            have HCn : Hid (W108.cell? ⟨B, 4, none⟩ = some (.slice pp m cc) ∧ W108.frozen? ⟨B, 4, none⟩ = false) := by
              have hq2 := HQ.out.2.below HQ.out.1.np HBW107.out
              have hb : W108.heap[B]? = W107.heap[B]? := hg2.block B (hq2.r.here B (by rw [hq2.wB]; omega)) (fun e => by have := HQ.out.2.r.wr B e.symm; rw [HQ.out.2.wB] at this; omega)
              exact ⟨(World.cell?_of_block (a := ⟨B, 4, none⟩) hb).trans hq2.b.c4, (World.frozen?_of_block (a := ⟨B, 4, none⟩) hb).trans (hq2.b.fz 4)⟩
            have HKn : Hid (KeptQ who u W108) := hKn
            subst hv2
            clear hr2 hg2 hk2 hKn
            refine hK.out _ _ HKn.out (fun hHeld2 => ?_)
            clear hK K hHeld
            have hHeld := hHeld2
            clear hHeld2
            simp only [Act.put, List.setIfInBounds_toArray, List.set_cons_zero, List.set_cons_succ]
            refine takeM (i := 15) (d := 61) (v := .pointer (some ⟨B, 0, none⟩)) rfl rfl (by kernel_rfl) (by kernel_rfl) (by kernel_rfl) (fun _ _ _ h => h) (Or.inl ⟨by rfl, ?_⟩) (by assumption) ?_
            · intro X hSw
              obtain ⟨e1, e2, e3, e4, e5, e6, e7, e8, e9, e10, e11⟩ := HCL.out X hSw
              clear hSw
              go_simp
            simp only [Act.put, List.setIfInBounds_toArray, List.set_cons_zero, List.set_cons_succ]
            refine takeM (i := 16) (d := 62) (v := .pointer (some ⟨B, 4, none⟩)) rfl rfl (by kernel_rfl) (by kernel_rfl) (by kernel_rfl) (fun _ _ _ h => h) (Or.inl ⟨by rfl, ?_⟩) (by assumption) ?_
            · intro X hSw
              obtain ⟨e1, e2, e3, e4, e5, e6, e7, e8, e9, e10, e11⟩ := HCL.out X hSw
              clear hSw
              go_simp
            simp only [Act.put, List.setIfInBounds_toArray, List.set_cons_zero, List.set_cons_succ]
            refine wpAnyH_ready (rs := [17]) (by kernel_rfl) (by simp) ?_
            refine AllReadyH.cons rfl (fun K hK => ?_) AllReadyH.nil
            obtain ⟨c4, f4⟩ := HCn.out
            go_simp
            obtain ⟨W109, hW109⟩ : ∃ W109, W109 = World.setCell W108 ⟨B, 4, none⟩ (.slice p2 (m + 1) c2) := ⟨_, rfl⟩
            obtain ⟨who', hA⟩ := HFin.out W109 hW109
            have HA : Hid (AftT who u W109 B (Me.begin q ca cb ⟨k0, o1, o2, o3, o4, o5, o6, k7, k8⟩) (n + 1) who') := hA
            rw [← hW109]
            clear hW109 hA c4 f4
            refine hK.out _ _ HA.out.2.2 (fun hHeld2 => ?_)
            clear hK K hHeld hHeld2
            refine wpAnyH_done (by kernel_rfl) ?_ _
            go_wp2_with fail
            go_meet
            exact ⟨rfl, who', HA⟩
          · go_simp
            obtain ⟨W110, hW110⟩ : ∃ W110, W110 = World.alloc W104 (.map #[] 0) := ⟨_, rfl⟩
            obtain ⟨bv, hbv⟩ : ∃ bv, bv = W104.heap.size := ⟨_, rfl⟩
            have hbn : Below W104.heap.size W104 W110 := by rw [hW110]; exact below_alloc _ _
            have HBW110 : Hid (Below u.heap.size u W110) := Below.trans HBW104.out (Below.mono hbn (Below.size HBW104.out))
            have HMW110v : Hid (MapIn u bv W110) := by rw [hbv, hW110]; exact MapIn.new HBW104.out
            have HMW110e : Hid (MapIn u be W110) := MapIn.below HMW104e.out hbn
            have HNe : Hid (bv ≠ be) := by have := MapIn.lt HMW104e.out; show bv ≠ be; omega
            rw [← hW110, ← hbv]
            clear hW110 hbv hbn
            refine hK.out _ _ (KeptQ.ofBelow (HBW110.out)) (fun hHeld2 => ?_)
            clear hK K hHeld
            have hHeld := hHeld2
            clear hHeld2
            refine wpAnyH_ready (rs := [9]) (by kernel_rfl) (by simp) ?_
            refine AllReadyH.cons rfl (fun K hK => ?_) AllReadyH.nil
            go_simp
            go_wp2_with fail
            refine Calls.mono (HKo.out W110) ?_
            rintro e' W111 ⟨rfl, hbn⟩
            have HBW111 : Hid (Below u.heap.size u W111) := Below.trans HBW110.out (Below.mono hbn (Below.size HBW110.out))
            have HMW111v : Hid (MapIn u bv W111) := MapIn.below HMW110v.out hbn
            have HMW111e : Hid (MapIn u be W111) := MapIn.below HMW110e.out hbn
            clear hbn
            go_wp2
            refine hK.out _ _ (KeptQ.ofBelow (HBW111.out)) (fun hHeld2 => ?_)
            clear hK K hHeld
            have hHeld := hHeld2
            clear hHeld2
            refine takeM (i := 12) (d := 58) (v := .agg #[.int .i64 ca, .int .i64 cb, .int .i64 k0, .string o1, .string o2, .string o3, .string o4, .string o5, .string o6, .int .i64 k7, .int .i64 k8, .map (some bv), .map (some be), .string ⟨#[]⟩]) rfl rfl (by kernel_rfl) (by kernel_rfl) (by kernel_rfl) (fun _ _ _ h => h) (Or.inl ⟨by rfl, ?_⟩) (by assumption) ?_
            · intro X hSw
              obtain ⟨e1, e2, e3, e4, e5, e6, e7, e8, e9, e10, e11⟩ := HCL.out X hSw
              clear hSw
              go_simp
            simp only [Act.put, List.setIfInBounds_toArray, List.set_cons_zero, List.set_cons_succ]
            refine wpAnyH_ready (rs := [13]) (by kernel_rfl) (by simp) ?_
            refine AllReadyH.cons rfl (fun K hK => ?_) AllReadyH.nil
            go_simp
            obtain ⟨W112, hW112⟩ : ∃ W112, W112 = World.alloc W111 (.cells #[.int .i64 ca, .int .i64 cb, .int .i64 k0, .string o1, .string o2, .string o3, .string o4, .string o5, .string o6, .int .i64 k7, .int .i64 k8, .map (some bv), .map (some be), .string ⟨#[]⟩] 70) := ⟨_, rfl⟩
            obtain ⟨bs, hbs⟩ : ∃ bs, bs = W111.heap.size := ⟨_, rfl⟩
            have hbn : Below W111.heap.size W111 W112 := by rw [hW112]; exact below_alloc _ _
            have HBW112 : Hid (Below u.heap.size u W112) := Below.trans HBW111.out (Below.mono hbn (Below.size HBW111.out))
            have HMW112v : Hid (MapIn u bv W112) := MapIn.below HMW111v.out hbn
            have HMW112e : Hid (MapIn u be W112) := MapIn.below HMW111e.out hbn
            have HSr : Hid (∀ (j : Nat) x, ([.int .i64 ca, .int .i64 cb, .int .i64 k0, .string o1, .string o2, .string o3, .string o4, .string o5, .string o6, .int .i64 k7, .int .i64 k8, .map (some bv), .map (some be), .string ⟨#[]⟩] : List Value)[j]? = some x → W112.cell? ⟨bs, j, none⟩ = some x) := fun j x hx => by rw [hW112, hbs, World.cell?_alloc_mark]; simpa using hx
            have HSl : Hid (bs < W112.heap.size) := by show bs < _; rw [hW112, hbs]; simp
            rw [← hW112, ← hbs]
            clear hW112 hbs hbn
            refine hK.out _ _ (KeptQ.ofBelow (HBW112.out)) (fun hHeld2 => ?_)
            clear hK K hHeld
            have hHeld := hHeld2
            clear hHeld2
            have HRow : Hid (RowC W112 14 (.slice pp m cc) m (txsC vb eb (q.ans + 1) q.wait)) := by
              have := (HQ.out.2.below HQ.out.1.np HBW112.out).r.row
              rw [← HM.out] at this
              exact this
            have HSrc : Hid (Src Try.prog 14 63 (.slice (some ⟨bs, 0, none⟩) 1 1) 1 [.int .i64 ca, .int .i64 cb, .int .i64 k0, .string o1, .string o2, .string o3, .string o4, .string o5, .string o6, .int .i64 k7, .int .i64 k8, .map (some bv), .map (some be), .string ⟨#[]⟩] W112) := src_tx W112 [.int .i64 ca, .int .i64 cb, .int .i64 k0, .string o1, .string o2, .string o3, .string o4, .string o5, .string o6, .int .i64 k7, .int .i64 k8, .map (some bv), .map (some be), .string ⟨#[]⟩] HSr.out rfl (txC_one (Me.fresh ca cb ⟨k0, o1, o2, o3, o4, o5, o6, k7, k8⟩) bv be)
            refine wpAnyH_ready (rs := [14]) (by kernel_rfl) (by simp) ?_
            refine AllReadyH.cons rfl (fun K hK => ?_) AllReadyH.nil
            refine stepM 60 rfl rfl _ _ _ _ 70 rfl Try.underlying63 _ _ _ txInfoZ rfl (.slice pp m cc) m _ rfl HRow.out _ 1 _ rfl HSrc.out (by omega) (by unfold maxLen; omega) ?_
            intro v' W113 hr2 hg2 hk2
            obtain ⟨p2, c2, hv2, _, _⟩ := hr2.form
            have HFin : Hid (∀ F, F = W113.setCell ⟨B, 4, none⟩ v' → ∃ who', AftT who u F B (Me.begin q ca cb ⟨k0, o1, o2, o3, o4, o5, o6, k7, k8⟩) (n + 1) who') := fun F hF => AftT.app HQ.out.1 HQ.out.2 HBW112.out (MapIn.is HMW112v.out) (MapIn.is HMW112e.out) HNe.out ⟨MapIn.lo HMW112v.out, MapIn.lo HMW112e.out⟩ (by rw [← HM.out]; exact hr2) hg2 hk2 hF HOk2.out
            have hKn : KeptQ who u W113 := (KeptQ.ofBelow HBW112.out).grown hg2 (fun k hk _ => by have := HQ.out.2.r.wr k hk; omega)
            have HCn : Hid (W113.cell? ⟨B, 4, none⟩ = some (.slice pp m cc) ∧ W113.frozen? ⟨B, 4, none⟩ = false) := by
              have hq2 := HQ.out.2.below HQ.out.1.np HBW112.out
              have hb : W113.heap[B]? = W112.heap[B]? := hg2.block B (hq2.r.here B (by rw [hq2.wB]; omega)) (fun e => by have := HQ.out.2.r.wr B e.symm; rw [HQ.out.2.wB] at this; omega)
              exact ⟨(World.cell?_of_block (a := ⟨B, 4, none⟩) hb).trans hq2.b.c4, (World.frozen?_of_block (a := ⟨B, 4, none⟩) hb).trans (hq2.b.fz 4)⟩
            have HKn : Hid (KeptQ who u W113) := hKn
            subst hv2
            clear hr2 hg2 hk2 hKn
            refine hK.out _ _ HKn.out (fun hHeld2 => ?_)
            clear hK K hHeld
            have hHeld := hHeld2
            clear hHeld2
            simp only [Act.put, List.setIfInBounds_toArray, List.set_cons_zero, List.set_cons_succ]
            refine takeM (i := 15) (d := 61) (v := .pointer (some ⟨B, 0, none⟩)) rfl rfl (by kernel_rfl) (by kernel_rfl) (by kernel_rfl) (fun _ _ _ h => h) (Or.inl ⟨by rfl, ?_⟩) (by assumption) ?_
            · intro X hSw
              obtain ⟨e1, e2, e3, e4, e5, e6, e7, e8, e9, e10, e11⟩ := HCL.out X hSw
              clear hSw
              go_simp
            simp only [Act.put, List.setIfInBounds_toArray, List.set_cons_zero, List.set_cons_succ]
            refine takeM (i := 16) (d := 62) (v := .pointer (some ⟨B, 4, none⟩)) rfl rfl (by kernel_rfl) (by kernel_rfl) (by kernel_rfl) (fun _ _ _ h => h) (Or.inl ⟨by rfl, ?_⟩) (by assumption) ?_
            · intro X hSw
              obtain ⟨e1, e2, e3, e4, e5, e6, e7, e8, e9, e10, e11⟩ := HCL.out X hSw
              clear hSw
              go_simp
            simp only [Act.put, List.setIfInBounds_toArray, List.set_cons_zero, List.set_cons_succ]
            refine wpAnyH_ready (rs := [17]) (by kernel_rfl) (by simp) ?_
            refine AllReadyH.cons rfl (fun K hK => ?_) AllReadyH.nil
            obtain ⟨c4, f4⟩ := HCn.out
            go_simp
            obtain ⟨W114, hW114⟩ : ∃ W114, W114 = World.setCell W113 ⟨B, 4, none⟩ (.slice p2 (m + 1) c2) := ⟨_, rfl⟩
            obtain ⟨who', hA⟩ := HFin.out W114 hW114
            have HA : Hid (AftT who u W114 B (Me.begin q ca cb ⟨k0, o1, o2, o3, o4, o5, o6, k7, k8⟩) (n + 1) who') := hA
            rw [← hW114]
            clear hW114 hA c4 f4
            refine hK.out _ _ HA.out.2.2 (fun hHeld2 => ?_)
            clear hK K hHeld hHeld2
            refine wpAnyH_done (by kernel_rfl) ?_ _
            go_wp2_with fail
            go_meet
            exact ⟨rfl, who', HA⟩
        · go_simp
          go_wp2_with fail
          refine Calls.mono (HKo.out W104) ?_
          rintro e' W115 ⟨rfl, hbn⟩
          have HBW115 : Hid (Below u.heap.size u W115) := Below.trans HBW104.out (Below.mono hbn (Below.size HBW104.out))
          have HMW115e : Hid (MapIn u be W115) := MapIn.below HMW104e.out hbn
          clear hbn
          go_wp2
          refine hK.out _ _ (KeptQ.ofBelow (HBW115.out)) (fun hHeld2 => ?_)
          clear hK K hHeld
          have hHeld := hHeld2
          clear hHeld2
          refine wpAnyH_ready (rs := [4, 10]) (by kernel_rfl) (by simp) ?_
          refine AllReadyH.cons rfl (fun K hK => ?_) (AllReadyH.cons rfl (fun K hK => ?_) AllReadyH.nil)
          · have y4 := (HQ4.out W115 HBW115.out).2
            go_simp
            refine hK.out _ _ (KeptQ.ofBelow (HBW115.out)) (fun hHeld2 => ?_)
            clear hK K hHeld
            have hHeld := hHeld2
            clear hHeld2
            clear y4
            refine wpAnyH_ready (rs := [10]) (by kernel_rfl) (by simp) ?_
            refine AllReadyH.cons rfl (fun K hK => ?_) AllReadyH.nil
            go_simp
            obtain ⟨W116, hW116⟩ : ∃ W116, W116 = World.alloc W115 (.map #[] 0) := ⟨_, rfl⟩
            obtain ⟨bv, hbv⟩ : ∃ bv, bv = W115.heap.size := ⟨_, rfl⟩
            have hbn : Below W115.heap.size W115 W116 := by rw [hW116]; exact below_alloc _ _
            have HBW116 : Hid (Below u.heap.size u W116) := Below.trans HBW115.out (Below.mono hbn (Below.size HBW115.out))
            have HMW116v : Hid (MapIn u bv W116) := by rw [hbv, hW116]; exact MapIn.new HBW115.out
            have HMW116e : Hid (MapIn u be W116) := MapIn.below HMW115e.out hbn
            have HNe : Hid (bv ≠ be) := by have := MapIn.lt HMW115e.out; show bv ≠ be; omega
            rw [← hW116, ← hbv]
            clear hW116 hbv hbn
            refine hK.out _ _ (KeptQ.ofBelow (HBW116.out)) (fun hHeld2 => ?_)
            clear hK K hHeld
            have hHeld := hHeld2
            clear hHeld2
            refine takeM (i := 12) (d := 58) (v := .agg #[.int .i64 ca, .int .i64 cb, .int .i64 k0, .string o1, .string o2, .string o3, .string o4, .string o5, .string o6, .int .i64 k7, .int .i64 k8, .map (some bv), .map (some be), .string ⟨#[]⟩]) rfl rfl (by kernel_rfl) (by kernel_rfl) (by kernel_rfl) (fun _ _ _ h => h) (Or.inl ⟨by rfl, ?_⟩) (by assumption) ?_
            · intro X hSw
              obtain ⟨e1, e2, e3, e4, e5, e6, e7, e8, e9, e10, e11⟩ := HCL.out X hSw
              clear hSw
              go_simp
            simp only [Act.put, List.setIfInBounds_toArray, List.set_cons_zero, List.set_cons_succ]
            refine wpAnyH_ready (rs := [13]) (by kernel_rfl) (by simp) ?_
            refine AllReadyH.cons rfl (fun K hK => ?_) AllReadyH.nil
            go_simp
            obtain ⟨W117, hW117⟩ : ∃ W117, W117 = World.alloc W116 (.cells #[.int .i64 ca, .int .i64 cb, .int .i64 k0, .string o1, .string o2, .string o3, .string o4, .string o5, .string o6, .int .i64 k7, .int .i64 k8, .map (some bv), .map (some be), .string ⟨#[]⟩] 70) := ⟨_, rfl⟩
            obtain ⟨bs, hbs⟩ : ∃ bs, bs = W116.heap.size := ⟨_, rfl⟩
            have hbn : Below W116.heap.size W116 W117 := by rw [hW117]; exact below_alloc _ _
            have HBW117 : Hid (Below u.heap.size u W117) := Below.trans HBW116.out (Below.mono hbn (Below.size HBW116.out))
            have HMW117v : Hid (MapIn u bv W117) := MapIn.below HMW116v.out hbn
            have HMW117e : Hid (MapIn u be W117) := MapIn.below HMW116e.out hbn
            have HSr : Hid (∀ (j : Nat) x, ([.int .i64 ca, .int .i64 cb, .int .i64 k0, .string o1, .string o2, .string o3, .string o4, .string o5, .string o6, .int .i64 k7, .int .i64 k8, .map (some bv), .map (some be), .string ⟨#[]⟩] : List Value)[j]? = some x → W117.cell? ⟨bs, j, none⟩ = some x) := fun j x hx => by rw [hW117, hbs, World.cell?_alloc_mark]; simpa using hx
            have HSl : Hid (bs < W117.heap.size) := by show bs < _; rw [hW117, hbs]; simp
            rw [← hW117, ← hbs]
            clear hW117 hbs hbn
            refine hK.out _ _ (KeptQ.ofBelow (HBW117.out)) (fun hHeld2 => ?_)
            clear hK K hHeld
            have hHeld := hHeld2
            clear hHeld2
            have HRow : Hid (RowC W117 14 (.slice pp m cc) m (txsC vb eb (q.ans + 1) q.wait)) := by
              have := (HQ.out.2.below HQ.out.1.np HBW117.out).r.row
              rw [← HM.out] at this
              exact this
            have HSrc : Hid (Src Try.prog 14 63 (.slice (some ⟨bs, 0, none⟩) 1 1) 1 [.int .i64 ca, .int .i64 cb, .int .i64 k0, .string o1, .string o2, .string o3, .string o4, .string o5, .string o6, .int .i64 k7, .int .i64 k8, .map (some bv), .map (some be), .string ⟨#[]⟩] W117) := src_tx W117 [.int .i64 ca, .int .i64 cb, .int .i64 k0, .string o1, .string o2, .string o3, .string o4, .string o5, .string o6, .int .i64 k7, .int .i64 k8, .map (some bv), .map (some be), .string ⟨#[]⟩] HSr.out rfl (txC_one (Me.fresh ca cb ⟨k0, o1, o2, o3, o4, o5, o6, k7, k8⟩) bv be)
            refine wpAnyH_ready (rs := [14]) (by kernel_rfl) (by simp) ?_
            refine AllReadyH.cons rfl (fun K hK => ?_) AllReadyH.nil
            refine stepM 60 rfl rfl _ _ _ _ 70 rfl Try.underlying63 _ _ _ txInfoZ rfl (.slice pp m cc) m _ rfl HRow.out _ 1 _ rfl HSrc.out (by omega) (by unfold maxLen; omega) ?_
            intro v' W118 hr2 hg2 hk2
            obtain ⟨p2, c2, hv2, _, _⟩ := hr2.form
            have HFin : Hid (∀ F, F = W118.setCell ⟨B, 4, none⟩ v' → ∃ who', AftT who u F B (Me.begin q ca cb ⟨k0, o1, o2, o3, o4, o5, o6, k7, k8⟩) (n + 1) who') := fun F hF => AftT.app HQ.out.1 HQ.out.2 HBW117.out (MapIn.is HMW117v.out) (MapIn.is HMW117e.out) HNe.out ⟨MapIn.lo HMW117v.out, MapIn.lo HMW117e.out⟩ (by rw [← HM.out]; exact hr2) hg2 hk2 hF HOk2.out
            have hKn : KeptQ who u W118 := (KeptQ.ofBelow HBW117.out).grown hg2 (fun k hk _ => by have := HQ.out.2.r.wr k hk; omega)
            have HCn : Hid (W118.cell? ⟨B, 4, none⟩ = some (.slice pp m cc) ∧ W118.frozen? ⟨B, 4, none⟩ = false) := by
              have hq2 := HQ.out.2.below HQ.out.1.np HBW117.out
              have hb : W118.heap[B]? = W117.heap[B]? := hg2.block B (hq2.r.here B (by rw [hq2.wB]; omega)) (fun e => by have := HQ.out.2.r.wr B e.symm; rw [HQ.out.2.wB] at this; omega)
              exact ⟨(World.cell?_of_block (a := ⟨B, 4, none⟩) hb).trans hq2.b.c4, (World.frozen?_of_block (a := ⟨B, 4, none⟩) hb).trans (hq2.b.fz 4)⟩
            have HKn : Hid (KeptQ who u W118) := hKn
            subst hv2
            clear hr2 hg2 hk2 hKn
            refine hK.out _ _ HKn.out (fun hHeld2 => ?_)
            clear hK K hHeld
            have hHeld := hHeld2
            clear hHeld2
            simp only [Act.put, List.setIfInBounds_toArray, List.set_cons_zero, List.set_cons_succ]
            refine takeM (i := 15) (d := 61) (v := .pointer (some ⟨B, 0, none⟩)) rfl rfl (by kernel_rfl) (by kernel_rfl) (by kernel_rfl) (fun _ _ _ h => h) (Or.inl ⟨by rfl, ?_⟩) (by assumption) ?_
            · intro X hSw
              obtain ⟨e1, e2, e3, e4, e5, e6, e7, e8, e9, e10, e11⟩ := HCL.out X hSw
              clear hSw
              go_simp
            simp only [Act.put, List.setIfInBounds_toArray, List.set_cons_zero, List.set_cons_succ]
            refine takeM (i := 16) (d := 62) (v := .pointer (some ⟨B, 4, none⟩)) rfl rfl (by kernel_rfl) (by kernel_rfl) (by kernel_rfl) (fun _ _ _ h => h) (Or.inl ⟨by rfl, ?_⟩) (by assumption) ?_
            · intro X hSw
              obtain ⟨e1, e2, e3, e4, e5, e6, e7, e8, e9, e10, e11⟩ := HCL.out X hSw
              clear hSw
              go_simp
            simp only [Act.put, List.setIfInBounds_toArray, List.set_cons_zero, List.set_cons_succ]
            refine wpAnyH_ready (rs := [17]) (by kernel_rfl) (by simp) ?_
            refine AllReadyH.cons rfl (fun K hK => ?_) AllReadyH.nil
            obtain ⟨c4, f4⟩ := HCn.out
            go_simp
            obtain ⟨W119, hW119⟩ : ∃ W119, W119 = World.setCell W118 ⟨B, 4, none⟩ (.slice p2 (m + 1) c2) := ⟨_, rfl⟩
            obtain ⟨who', hA⟩ := HFin.out W119 hW119
            have HA : Hid (AftT who u W119 B (Me.begin q ca cb ⟨k0, o1, o2, o3, o4, o5, o6, k7, k8⟩) (n + 1) who') := hA
            rw [← hW119]
            clear hW119 hA c4 f4
            refine hK.out _ _ HA.out.2.2 (fun hHeld2 => ?_)
            clear hK K hHeld hHeld2
            refine wpAnyH_done (by kernel_rfl) ?_ _
            go_wp2_with fail
            go_meet
            exact ⟨rfl, who', HA⟩
          · go_simp
            obtain ⟨W120, hW120⟩ : ∃ W120, W120 = World.alloc W115 (.map #[] 0) := ⟨_, rfl⟩
            obtain ⟨bv, hbv⟩ : ∃ bv, bv = W115.heap.size := ⟨_, rfl⟩
            have hbn : Below W115.heap.size W115 W120 := by rw [hW120]; exact below_alloc _ _
            have HBW120 : Hid (Below u.heap.size u W120) := Below.trans HBW115.out (Below.mono hbn (Below.size HBW115.out))
            have HMW120v : Hid (MapIn u bv W120) := by rw [hbv, hW120]; exact MapIn.new HBW115.out
            have HMW120e : Hid (MapIn u be W120) := MapIn.below HMW115e.out hbn
            have HNe : Hid (bv ≠ be) := by have := MapIn.lt HMW115e.out; show bv ≠ be; omega
            rw [← hW120, ← hbv]
            clear hW120 hbv hbn
            refine hK.out _ _ (KeptQ.ofBelow (HBW120.out)) (fun hHeld2 => ?_)
            clear hK K hHeld
            have hHeld := hHeld2
            clear hHeld2
            refine takeM (i := 12) (d := 58) (v := .agg #[.int .i64 ca, .int .i64 cb, .int .i64 k0, .string o1, .string o2, .string o3, .string o4, .string o5, .string o6, .int .i64 k7, .int .i64 k8, .map (some bv), .map (some be), .string ⟨#[]⟩]) rfl rfl (by kernel_rfl) (by kernel_rfl) (by kernel_rfl) (fun _ _ _ h => h) (Or.inl ⟨by rfl, ?_⟩) (by assumption) ?_
            · intro X hSw
              obtain ⟨e1, e2, e3, e4, e5, e6, e7, e8, e9, e10, e11⟩ := HCL.out X hSw
              clear hSw
              go_simp
            simp only [Act.put, List.setIfInBounds_toArray, List.set_cons_zero, List.set_cons_succ]
            refine wpAnyH_ready (rs := [4, 13]) (by kernel_rfl) (by simp) ?_
            refine AllReadyH.cons rfl (fun K hK => ?_) (AllReadyH.cons rfl (fun K hK => ?_) AllReadyH.nil)
            · have y4 := (HQ4.out W120 HBW120.out).2
              go_simp
              refine hK.out _ _ (KeptQ.ofBelow (HBW120.out)) (fun hHeld2 => ?_)
              clear hK K hHeld
              have hHeld := hHeld2
              clear hHeld2
              clear y4
              refine wpAnyH_ready (rs := [13]) (by kernel_rfl) (by simp) ?_
              refine AllReadyH.cons rfl (fun K hK => ?_) AllReadyH.nil
              go_simp
              obtain ⟨W121, hW121⟩ : ∃ W121, W121 = World.alloc W120 (.cells #[.int .i64 ca, .int .i64 cb, .int .i64 k0, .string o1, .string o2, .string o3, .string o4, .string o5, .string o6, .int .i64 k7, .int .i64 k8, .map (some bv), .map (some be), .string ⟨#[]⟩] 70) := ⟨_, rfl⟩
              obtain ⟨bs, hbs⟩ : ∃ bs, bs = W120.heap.size := ⟨_, rfl⟩
              have hbn : Below W120.heap.size W120 W121 := by rw [hW121]; exact below_alloc _ _
              have HBW121 : Hid (Below u.heap.size u W121) := Below.trans HBW120.out (Below.mono hbn (Below.size HBW120.out))
              have HMW121v : Hid (MapIn u bv W121) := MapIn.below HMW120v.out hbn
              have HMW121e : Hid (MapIn u be W121) := MapIn.below HMW120e.out hbn
              have HSr : Hid (∀ (j : Nat) x, ([.int .i64 ca, .int .i64 cb, .int .i64 k0, .string o1, .string o2, .string o3, .string o4, .string o5, .string o6, .int .i64 k7, .int .i64 k8, .map (some bv), .map (some be), .string ⟨#[]⟩] : List Value)[j]? = some x → W121.cell? ⟨bs, j, none⟩ = some x) := fun j x hx => by rw [hW121, hbs, World.cell?_alloc_mark]; simpa using hx
              have HSl : Hid (bs < W121.heap.size) := by show bs < _; rw [hW121, hbs]; simp
              rw [← hW121, ← hbs]
              clear hW121 hbs hbn
              refine hK.out _ _ (KeptQ.ofBelow (HBW121.out)) (fun hHeld2 => ?_)
              clear hK K hHeld
              have hHeld := hHeld2
              clear hHeld2
              have HRow : Hid (RowC W121 14 (.slice pp m cc) m (txsC vb eb (q.ans + 1) q.wait)) := by
                have := (HQ.out.2.below HQ.out.1.np HBW121.out).r.row
                rw [← HM.out] at this
                exact this
              have HSrc : Hid (Src Try.prog 14 63 (.slice (some ⟨bs, 0, none⟩) 1 1) 1 [.int .i64 ca, .int .i64 cb, .int .i64 k0, .string o1, .string o2, .string o3, .string o4, .string o5, .string o6, .int .i64 k7, .int .i64 k8, .map (some bv), .map (some be), .string ⟨#[]⟩] W121) := src_tx W121 [.int .i64 ca, .int .i64 cb, .int .i64 k0, .string o1, .string o2, .string o3, .string o4, .string o5, .string o6, .int .i64 k7, .int .i64 k8, .map (some bv), .map (some be), .string ⟨#[]⟩] HSr.out rfl (txC_one (Me.fresh ca cb ⟨k0, o1, o2, o3, o4, o5, o6, k7, k8⟩) bv be)
              refine wpAnyH_ready (rs := [14]) (by kernel_rfl) (by simp) ?_
              refine AllReadyH.cons rfl (fun K hK => ?_) AllReadyH.nil
              refine stepM 60 rfl rfl _ _ _ _ 70 rfl Try.underlying63 _ _ _ txInfoZ rfl (.slice pp m cc) m _ rfl HRow.out _ 1 _ rfl HSrc.out (by omega) (by unfold maxLen; omega) ?_
              intro v' W122 hr2 hg2 hk2
              obtain ⟨p2, c2, hv2, _, _⟩ := hr2.form
              have HFin : Hid (∀ F, F = W122.setCell ⟨B, 4, none⟩ v' → ∃ who', AftT who u F B (Me.begin q ca cb ⟨k0, o1, o2, o3, o4, o5, o6, k7, k8⟩) (n + 1) who') := fun F hF => AftT.app HQ.out.1 HQ.out.2 HBW121.out (MapIn.is HMW121v.out) (MapIn.is HMW121e.out) HNe.out ⟨MapIn.lo HMW121v.out, MapIn.lo HMW121e.out⟩ (by rw [← HM.out]; exact hr2) hg2 hk2 hF HOk2.out
              have hKn : KeptQ who u W122 := (KeptQ.ofBelow HBW121.out).grown hg2 (fun k hk _ => by have := HQ.out.2.r.wr k hk; omega)
              have HCn : Hid (W122.cell? ⟨B, 4, none⟩ = some (.slice pp m cc) ∧ W122.frozen? ⟨B, 4, none⟩ = false) := by
                have hq2 := HQ.out.2.below HQ.out.1.np HBW121.out
                have hb : W122.heap[B]? = W121.heap[B]? := hg2.block B (hq2.r.here B (by rw [hq2.wB]; omega)) (fun e => by have := HQ.out.2.r.wr B e.symm; rw [HQ.out.2.wB] at this; omega)
                exact ⟨(World.cell?_of_block (a := ⟨B, 4, none⟩) hb).trans hq2.b.c4, (World.frozen?_of_block (a := ⟨B, 4, none⟩) hb).trans (hq2.b.fz 4)⟩
              have HKn : Hid (KeptQ who u W122) := hKn
              subst hv2
              clear hr2 hg2 hk2 hKn
              refine hK.out _ _ HKn.out (fun hHeld2 => ?_)
              clear hK K hHeld
              have hHeld := hHeld2
              clear hHeld2
              simp only [Act.put, List.setIfInBounds_toArray, List.set_cons_zero, List.set_cons_succ]
              refine takeM (i := 15) (d := 61) (v := .pointer (some ⟨B, 0, none⟩)) rfl rfl (by kernel_rfl) (by kernel_rfl) (by kernel_rfl) (fun _ _ _ h => h) (Or.inl ⟨by rfl, ?_⟩) (by assumption) ?_
              · intro X hSw
                obtain ⟨e1, e2, e3, e4, e5, e6, e7, e8, e9, e10, e11⟩ := HCL.out X hSw
                clear hSw
                go_simp
              simp only [Act.put, List.setIfInBounds_toArray, List.set_cons_zero, List.set_cons_succ]
              refine takeM (i := 16) (d := 62) (v := .pointer (some ⟨B, 4, none⟩)) rfl rfl (by kernel_rfl) (by kernel_rfl) (by kernel_rfl) (fun _ _ _ h => h) (Or.inl ⟨by rfl, ?_⟩) (by assumption) ?_
              · intro X hSw
                obtain ⟨e1, e2, e3, e4, e5, e6, e7, e8, e9, e10, e11⟩ := HCL.out X hSw
                clear hSw
                go_simp
              simp only [Act.put, List.setIfInBounds_toArray, List.set_cons_zero, List.set_cons_succ]
              refine wpAnyH_ready (rs := [17]) (by kernel_rfl) (by simp) ?_
              refine AllReadyH.cons rfl (fun K hK => ?_) AllReadyH.nil
              obtain ⟨c4, f4⟩ := HCn.out
              go_simp
              obtain ⟨W123, hW123⟩ : ∃ W123, W123 = World.setCell W122 ⟨B, 4, none⟩ (.slice p2 (m + 1) c2) := ⟨_, rfl⟩
              obtain ⟨who', hA⟩ := HFin.out W123 hW123
              have HA : Hid (AftT who u W123 B (Me.begin q ca cb ⟨k0, o1, o2, o3, o4, o5, o6, k7, k8⟩) (n + 1) who') := hA
              rw [← hW123]
              clear hW123 hA c4 f4
              refine hK.out _ _ HA.out.2.2 (fun hHeld2 => ?_)
              clear hK K hHeld hHeld2
              refine wpAnyH_done (by kernel_rfl) ?_ _
              go_wp2_with fail
              go_meet
              exact ⟨rfl, who', HA⟩
            · go_simp
              obtain ⟨W124, hW124⟩ : ∃ W124, W124 = World.alloc W120 (.cells #[.int .i64 ca, .int .i64 cb, .int .i64 k0, .string o1, .string o2, .string o3, .string o4, .string o5, .string o6, .int .i64 k7, .int .i64 k8, .map (some bv), .map (some be), .string ⟨#[]⟩] 70) := ⟨_, rfl⟩
              obtain ⟨bs, hbs⟩ : ∃ bs, bs = W120.heap.size := ⟨_, rfl⟩
              have hbn : Below W120.heap.size W120 W124 := by rw [hW124]; exact below_alloc _ _
              have HBW124 : Hid (Below u.heap.size u W124) := Below.trans HBW120.out (Below.mono hbn (Below.size HBW120.out))
              have HMW124v : Hid (MapIn u bv W124) := MapIn.below HMW120v.out hbn
              have HMW124e : Hid (MapIn u be W124) := MapIn.below HMW120e.out hbn
              have HSr : Hid (∀ (j : Nat) x, ([.int .i64 ca, .int .i64 cb, .int .i64 k0, .string o1, .string o2, .string o3, .string o4, .string o5, .string o6, .int .i64 k7, .int .i64 k8, .map (some bv), .map (some be), .string ⟨#[]⟩] : List Value)[j]? = some x → W124.cell? ⟨bs, j, none⟩ = some x) := fun j x hx => by rw [hW124, hbs, World.cell?_alloc_mark]; simpa using hx
              have HSl : Hid (bs < W124.heap.size) := by show bs < _; rw [hW124, hbs]; simp
              rw [← hW124, ← hbs]
              clear hW124 hbs hbn
              refine hK.out _ _ (KeptQ.ofBelow (HBW124.out)) (fun hHeld2 => ?_)
              clear hK K hHeld
              have hHeld := hHeld2
              clear hHeld2
              refine wpAnyH_ready (rs := [4]) (by kernel_rfl) (by simp) ?_
              refine AllReadyH.cons rfl (fun K hK => ?_) AllReadyH.nil
              have y4 := (HQ4.out W124 HBW124.out).2
              go_simp
              refine hK.out _ _ (KeptQ.ofBelow (HBW124.out)) (fun hHeld2 => ?_)
              clear hK K hHeld
              have hHeld := hHeld2
              clear hHeld2
              clear y4
              have HRow : Hid (RowC W124 14 (.slice pp m cc) m (txsC vb eb (q.ans + 1) q.wait)) := by
                have := (HQ.out.2.below HQ.out.1.np HBW124.out).r.row
                rw [← HM.out] at this
                exact this
              have HSrc : Hid (Src Try.prog 14 63 (.slice (some ⟨bs, 0, none⟩) 1 1) 1 [.int .i64 ca, .int .i64 cb, .int .i64 k0, .string o1, .string o2, .string o3, .string o4, .string o5, .string o6, .int .i64 k7, .int .i64 k8, .map (some bv), .map (some be), .string ⟨#[]⟩] W124) := src_tx W124 [.int .i64 ca, .int .i64 cb, .int .i64 k0, .string o1, .string o2, .string o3, .string o4, .string o5, .string o6, .int .i64 k7, .int .i64 k8, .map (some bv), .map (some be), .string ⟨#[]⟩] HSr.out rfl (txC_one (Me.fresh ca cb ⟨k0, o1, o2, o3, o4, o5, o6, k7, k8⟩) bv be)
              refine wpAnyH_ready (rs := [14]) (by kernel_rfl) (by simp) ?_
              refine AllReadyH.cons rfl (fun K hK => ?_) AllReadyH.nil
              refine stepM 60 rfl rfl _ _ _ _ 70 rfl Try.underlying63 _ _ _ txInfoZ rfl (.slice pp m cc) m _ rfl HRow.out _ 1 _ rfl HSrc.out (by omega) (by unfold maxLen; omega) ?_
              intro v' W125 hr2 hg2 hk2
              obtain ⟨p2, c2, hv2, _, _⟩ := hr2.form
              have HFin : Hid (∀ F, F = W125.setCell ⟨B, 4, none⟩ v' → ∃ who', AftT who u F B (Me.begin q ca cb ⟨k0, o1, o2, o3, o4, o5, o6, k7, k8⟩) (n + 1) who') := fun F hF => AftT.app HQ.out.1 HQ.out.2 HBW124.out (MapIn.is HMW124v.out) (MapIn.is HMW124e.out) HNe.out ⟨MapIn.lo HMW124v.out, MapIn.lo HMW124e.out⟩ (by rw [← HM.out]; exact hr2) hg2 hk2 hF HOk2.out
              have hKn : KeptQ who u W125 := (KeptQ.ofBelow HBW124.out).grown hg2 (fun k hk _ => by have := HQ.out.2.r.wr k hk; omega)
              have HCn : Hid (W125.cell? ⟨B, 4, none⟩ = some (.slice pp m cc) ∧ W125.frozen? ⟨B, 4, none⟩ = false) := by
                have hq2 := HQ.out.2.below HQ.out.1.np HBW124.out
                have hb : W125.heap[B]? = W124.heap[B]? := hg2.block B (hq2.r.here B (by rw [hq2.wB]; omega)) (fun e => by have := HQ.out.2.r.wr B e.symm; rw [HQ.out.2.wB] at this; omega)
                exact ⟨(World.cell?_of_block (a := ⟨B, 4, none⟩) hb).trans hq2.b.c4, (World.frozen?_of_block (a := ⟨B, 4, none⟩) hb).trans (hq2.b.fz 4)⟩
              have HKn : Hid (KeptQ who u W125) := hKn
              subst hv2
              clear hr2 hg2 hk2 hKn
              refine hK.out _ _ HKn.out (fun hHeld2 => ?_)
              clear hK K hHeld
              have hHeld := hHeld2
              clear hHeld2
              simp only [Act.put, List.setIfInBounds_toArray, List.set_cons_zero, List.set_cons_succ]
              refine takeM (i := 15) (d := 61) (v := .pointer (some ⟨B, 0, none⟩)) rfl rfl (by kernel_rfl) (by kernel_rfl) (by kernel_rfl) (fun _ _ _ h => h) (Or.inl ⟨by rfl, ?_⟩) (by assumption) ?_
              · intro X hSw
                obtain ⟨e1, e2, e3, e4, e5, e6, e7, e8, e9, e10, e11⟩ := HCL.out X hSw
                clear hSw
                go_simp
              simp only [Act.put, List.setIfInBounds_toArray, List.set_cons_zero, List.set_cons_succ]
              refine takeM (i := 16) (d := 62) (v := .pointer (some ⟨B, 4, none⟩)) rfl rfl (by kernel_rfl) (by kernel_rfl) (by kernel_rfl) (fun _ _ _ h => h) (Or.inl ⟨by rfl, ?_⟩) (by assumption) ?_
              · intro X hSw
                obtain ⟨e1, e2, e3, e4, e5, e6, e7, e8, e9, e10, e11⟩ := HCL.out X hSw
                clear hSw
                go_simp
              simp only [Act.put, List.setIfInBounds_toArray, List.set_cons_zero, List.set_cons_succ]
              refine wpAnyH_ready (rs := [17]) (by kernel_rfl) (by simp) ?_
              refine AllReadyH.cons rfl (fun K hK => ?_) AllReadyH.nil
              obtain ⟨c4, f4⟩ := HCn.out
              go_simp
              obtain ⟨W126, hW126⟩ : ∃ W126, W126 = World.setCell W125 ⟨B, 4, none⟩ (.slice p2 (m + 1) c2) := ⟨_, rfl⟩
              obtain ⟨who', hA⟩ := HFin.out W126 hW126
              have HA : Hid (AftT who u W126 B (Me.begin q ca cb ⟨k0, o1, o2, o3, o4, o5, o6, k7, k8⟩) (n + 1) who') := hA
              rw [← hW126]
              clear hW126 hA c4 f4
              refine hK.out _ _ HA.out.2.2 (fun hHeld2 => ?_)
              clear hK K hHeld hHeld2
              refine wpAnyH_done (by kernel_rfl) ?_ _
              go_wp2_with fail
              go_meet
              exact ⟨rfl, who', HA⟩
        · go_simp
          obtain ⟨W127, hW127⟩ : ∃ W127, W127 = World.alloc W104 (.map #[] 0) := ⟨_, rfl⟩
          obtain ⟨bv, hbv⟩ : ∃ bv, bv = W104.heap.size := ⟨_, rfl⟩
          have hbn : Below W104.heap.size W104 W127 := by rw [hW127]; exact below_alloc _ _
          have HBW127 : Hid (Below u.heap.size u W127) := Below.trans HBW104.out (Below.mono hbn (Below.size HBW104.out))
          have HMW127v : Hid (MapIn u bv W127) := by rw [hbv, hW127]; exact MapIn.new HBW104.out
          have HMW127e : Hid (MapIn u be W127) := MapIn.below HMW104e.out hbn
          have HNe : Hid (bv ≠ be) := by have := MapIn.lt HMW104e.out; show bv ≠ be; omega
          rw [← hW127, ← hbv]
          clear hW127 hbv hbn
          refine hK.out _ _ (KeptQ.ofBelow (HBW127.out)) (fun hHeld2 => ?_)
          clear hK K hHeld
          have hHeld := hHeld2
          clear hHeld2
          refine wpAnyH_ready (rs := [4, 9]) (by kernel_rfl) (by simp) ?_
          refine AllReadyH.cons rfl (fun K hK => ?_) (AllReadyH.cons rfl (fun K hK => ?_) AllReadyH.nil)
          · have y4 := (HQ4.out W127 HBW127.out).2
            go_simp
            refine hK.out _ _ (KeptQ.ofBelow (HBW127.out)) (fun hHeld2 => ?_)
            clear hK K hHeld
            have hHeld := hHeld2
            clear hHeld2
            clear y4
            refine wpAnyH_ready (rs := [9]) (by kernel_rfl) (by simp) ?_
            refine AllReadyH.cons rfl (fun K hK => ?_) AllReadyH.nil
            go_simp
            go_wp2_with fail
            refine Calls.mono (HKo.out W127) ?_
            rintro e' W128 ⟨rfl, hbn⟩
            have HBW128 : Hid (Below u.heap.size u W128) := Below.trans HBW127.out (Below.mono hbn (Below.size HBW127.out))
            have HMW128v : Hid (MapIn u bv W128) := MapIn.below HMW127v.out hbn
            have HMW128e : Hid (MapIn u be W128) := MapIn.below HMW127e.out hbn
            clear hbn
            go_wp2
            refine hK.out _ _ (KeptQ.ofBelow (HBW128.out)) (fun hHeld2 => ?_)
            clear hK K hHeld
            have hHeld := hHeld2
            clear hHeld2
            refine takeM (i := 12) (d := 58) (v := .agg #[.int .i64 ca, .int .i64 cb, .int .i64 k0, .string o1, .string o2, .string o3, .string o4, .string o5, .string o6, .int .i64 k7, .int .i64 k8, .map (some bv), .map (some be), .string ⟨#[]⟩]) rfl rfl (by kernel_rfl) (by kernel_rfl) (by kernel_rfl) (fun _ _ _ h => h) (Or.inl ⟨by rfl, ?_⟩) (by assumption) ?_
            · intro X hSw
              obtain ⟨e1, e2, e3, e4, e5, e6, e7, e8, e9, e10, e11⟩ := HCL.out X hSw
              clear hSw
              go_simp
            simp only [Act.put, List.setIfInBounds_toArray, List.set_cons_zero, List.set_cons_succ]
            refine wpAnyH_ready (rs := [13]) (by kernel_rfl) (by simp) ?_
            refine AllReadyH.cons rfl (fun K hK => ?_) AllReadyH.nil
            go_simp
            obtain ⟨W129, hW129⟩ : ∃ W129, W129 = World.alloc W128 (.cells #[.int .i64 ca, .int .i64 cb, .int .i64 k0, .string o1, .string o2, .string o3, .string o4, .string o5, .string o6, .int .i64 k7, .int .i64 k8, .map (some bv), .map (some be), .string ⟨#[]⟩] 70) := ⟨_, rfl⟩
            obtain ⟨bs, hbs⟩ : ∃ bs, bs = W128.heap.size := ⟨_, rfl⟩
            have hbn : Below W128.heap.size W128 W129 := by rw [hW129]; exact below_alloc _ _
            have HBW129 : Hid (Below u.heap.size u W129) := Below.trans HBW128.out (Below.mono hbn (Below.size HBW128.out))
            have HMW129v : Hid (MapIn u bv W129) := MapIn.below HMW128v.out hbn
            have HMW129e : Hid (MapIn u be W129) := MapIn.below HMW128e.out hbn
            have HSr : Hid (∀ (j : Nat) x, ([.int .i64 ca, .int .i64 cb, .int .i64 k0, .string o1, .string o2, .string o3, .string o4, .string o5, .string o6, .int .i64 k7, .int .i64 k8, .map (some bv), .map (some be), .string ⟨#[]⟩] : List Value)[j]? = some x → W129.cell? ⟨bs, j, none⟩ = some x) := fun j x hx => by rw [hW129, hbs, World.cell?_alloc_mark]; simpa using hx
            have HSl : Hid (bs < W129.heap.size) := by show bs < _; rw [hW129, hbs]; simp
            rw [← hW129, ← hbs]
            clear hW129 hbs hbn
            refine hK.out _ _ (KeptQ.ofBelow (HBW129.out)) (fun hHeld2 => ?_)
            clear hK K hHeld
            have hHeld := hHeld2
            clear hHeld2
            have HRow : Hid (RowC W129 14 (.slice pp m cc) m (txsC vb eb (q.ans + 1) q.wait)) := by
              have := (HQ.out.2.below HQ.out.1.np HBW129.out).r.row
              rw [← HM.out] at this
              exact this
            have HSrc : Hid (Src Try.prog 14 63 (.slice (some ⟨bs, 0, none⟩) 1 1) 1 [.int .i64 ca, .int .i64 cb, .int .i64 k0, .string o1, .string o2, .string o3, .string o4, .string o5, .string o6, .int .i64 k7, .int .i64 k8, .map (some bv), .map (some be), .string ⟨#[]⟩] W129) := src_tx W129 [.int .i64 ca, .int .i64 cb, .int .i64 k0, .string o1, .string o2, .string o3, .string o4, .string o5, .string o6, .int .i64 k7, .int .i64 k8, .map (some bv), .map (some be), .string ⟨#[]⟩] HSr.out rfl (txC_one (Me.fresh ca cb ⟨k0, o1, o2, o3, o4, o5, o6, k7, k8⟩) bv be)
            refine wpAnyH_ready (rs := [14]) (by kernel_rfl) (by simp) ?_
            refine AllReadyH.cons rfl (fun K hK => ?_) AllReadyH.nil
            refine stepM 60 rfl rfl _ _ _ _ 70 rfl Try.underlying63 _ _ _ txInfoZ rfl (.slice pp m cc) m _ rfl HRow.out _ 1 _ rfl HSrc.out (by omega) (by unfold maxLen; omega) ?_
            intro v' W130 hr2 hg2 hk2
            obtain ⟨p2, c2, hv2, _, _⟩ := hr2.form
            have HFin : Hid (∀ F, F = W130.setCell ⟨B, 4, none⟩ v' → ∃ who', AftT who u F B (Me.begin q ca cb ⟨k0, o1, o2, o3, o4, o5, o6, k7, k8⟩) (n + 1) who') := fun F hF => AftT.app HQ.out.1 HQ.out.2 HBW129.out (MapIn.is HMW129v.out) (MapIn.is HMW129e.out) HNe.out ⟨MapIn.lo HMW129v.out, MapIn.lo HMW129e.out⟩ (by rw [← HM.out]; exact hr2) hg2 hk2 hF HOk2.out
            have hKn : KeptQ who u W130 := (KeptQ.ofBelow HBW129.out).grown hg2 (fun k hk _ => by have := HQ.out.2.r.wr k hk; omega)
            have HCn : Hid (W130.cell? ⟨B, 4, none⟩ = some (.slice pp m cc) ∧ W130.frozen? ⟨B, 4, none⟩ = false) := by
              have hq2 := HQ.out.2.below HQ.out.1.np HBW129.out
              have hb : W130.heap[B]? = W129.heap[B]? := hg2.block B (hq2.r.here B (by rw [hq2.wB]; omega)) (fun e => by have := HQ.out.2.r.wr B e.symm; rw [HQ.out.2.wB] at this; omega)
              exact ⟨(World.cell?_of_block (a := ⟨B, 4, none⟩) hb).trans hq2.b.c4, (World.frozen?_of_block (a := ⟨B, 4, none⟩) hb).trans (hq2.b.fz 4)⟩
            have HKn : Hid (KeptQ who u W130) := hKn
            subst hv2
            clear hr2 hg2 hk2 hKn
            refine hK.out _ _ HKn.out (fun hHeld2 => ?_)
            clear hK K hHeld
            have hHeld := hHeld2
            clear hHeld2
            simp only [Act.put, List.setIfInBounds_toArray, List.set_cons_zero, List.set_cons_succ]
            refine takeM (i := 15) (d := 61) (v := .pointer (some ⟨B, 0, none⟩)) rfl rfl (by kernel_rfl) (by kernel_rfl) (by kernel_rfl) (fun _ _ _ h => h) (Or.inl ⟨by rfl, ?_⟩) (by assumption) ?_
            · intro X hSw
              obtain ⟨e1, e2, e3, e4, e5, e6, e7, e8, e9, e10, e11⟩ := HCL.out X hSw
              clear hSw
              go_simp
            simp only [Act.put, List.setIfInBounds_toArray, List.set_cons_zero, List.set_cons_succ]
            refine takeM (i := 16) (d := 62) (v := .pointer (some ⟨B, 4, none⟩)) rfl rfl (by kernel_rfl) (by kernel_rfl) (by kernel_rfl) (fun _ _ _ h => h) (Or.inl ⟨by rfl, ?_⟩) (by assumption) ?_
            · intro X hSw
              obtain ⟨e1, e2, e3, e4, e5, e6, e7, e8, e9, e10, e11⟩ := HCL.out X hSw
              clear hSw
              go_simp
            simp only [Act.put, List.setIfInBounds_toArray, List.set_cons_zero, List.set_cons_succ]
            refine wpAnyH_ready (rs := [17]) (by kernel_rfl) (by simp) ?_
            refine AllReadyH.cons rfl (fun K hK => ?_) AllReadyH.nil
            obtain ⟨c4, f4⟩ := HCn.out
            go_simp
            obtain ⟨W131, hW131⟩ : ∃ W131, W131 = World.setCell W130 ⟨B, 4, none⟩ (.slice p2 (m + 1) c2) := ⟨_, rfl⟩
            obtain ⟨who', hA⟩ := HFin.out W131 hW131
            have HA : Hid (AftT who u W131 B (Me.begin q ca cb ⟨k0, o1, o2, o3, o4, o5, o6, k7, k8⟩) (n + 1) who') := hA
            rw [← hW131]
            clear hW131 hA c4 f4
            refine hK.out _ _ HA.out.2.2 (fun hHeld2 => ?_)
            clear hK K hHeld hHeld2
            refine wpAnyH_done (by kernel_rfl) ?_ _
            go_wp2_with fail
            go_meet
            exact ⟨rfl, who', HA⟩
          · go_simp
            go_wp2_with fail
            refine Calls.mono (HKo.out W127) ?_
            rintro e' W132 ⟨rfl, hbn⟩
            have HBW132 : Hid (Below u.heap.size u W132) := Below.trans HBW127.out (Below.mono hbn (Below.size HBW127.out))
            have HMW132v : Hid (MapIn u bv W132) := MapIn.below HMW127v.out hbn
            have HMW132e : Hid (MapIn u be W132) := MapIn.below HMW127e.out hbn
            clear hbn
            go_wp2
            refine hK.out _ _ (KeptQ.ofBelow (HBW132.out)) (fun hHeld2 => ?_)
            clear hK K hHeld
            have hHeld := hHeld2
            clear hHeld2
            refine takeM (i := 12) (d := 58) (v := .agg #[.int .i64 ca, .int .i64 cb, .int .i64 k0, .string o1, .string o2, .string o3, .string o4, .string o5, .string o6, .int .i64 k7, .int .i64 k8, .map (some bv), .map (some be), .string ⟨#[]⟩]) rfl rfl (by kernel_rfl) (by kernel_rfl) (by kernel_rfl) (fun _ _ _ h => h) (Or.inl ⟨by rfl, ?_⟩) (by assumption) ?_
            · intro X hSw
              obtain ⟨e1, e2, e3, e4, e5, e6, e7, e8, e9, e10, e11⟩ := HCL.out X hSw
              clear hSw
              go_simp
            simp only [Act.put, List.setIfInBounds_toArray, List.set_cons_zero, List.set_cons_succ]
            refine wpAnyH_ready (rs := [4, 13]) (by kernel_rfl) (by simp) ?_
            refine AllReadyH.cons rfl (fun K hK => ?_) (AllReadyH.cons rfl (fun K hK => ?_) AllReadyH.nil)
            · have y4 := (HQ4.out W132 HBW132.out).2
              go_simp
              refine hK.out _ _ (KeptQ.ofBelow (HBW132.out)) (fun hHeld2 => ?_)
              clear hK K hHeld
              have hHeld := hHeld2
              clear hHeld2
              clear y4
              refine wpAnyH_ready (rs := [13]) (by kernel_rfl) (by simp) ?_
              refine AllReadyH.cons rfl (fun K hK => ?_) AllReadyH.nil
              go_simp
              obtain ⟨W133, hW133⟩ : ∃ W133, W133 = World.alloc W132 (.cells #[.int .i64 ca, .int .i64 cb, .int .i64 k0, .string o1, .string o2, .string o3, .string o4, .string o5, .string o6, .int .i64 k7, .int .i64 k8, .map (some bv), .map (some be), .string ⟨#[]⟩] 70) := ⟨_, rfl⟩
              obtain ⟨bs, hbs⟩ : ∃ bs, bs = W132.heap.size := ⟨_, rfl⟩
              have hbn : Below W132.heap.size W132 W133 := by rw [hW133]; exact below_alloc _ _
              have HBW133 : Hid (Below u.heap.size u W133) := Below.trans HBW132.out (Below.mono hbn (Below.size HBW132.out))
              have HMW133v : Hid (MapIn u bv W133) := MapIn.below HMW132v.out hbn
              have HMW133e : Hid (MapIn u be W133) := MapIn.below HMW132e.out hbn
              have HSr : Hid (∀ (j : Nat) x, ([.int .i64 ca, .int .i64 cb, .int .i64 k0, .string o1, .string o2, .string o3, .string o4, .string o5, .string o6, .int .i64 k7, .int .i64 k8, .map (some bv), .map (some be), .string ⟨#[]⟩] : List Value)[j]? = some x → W133.cell? ⟨bs, j, none⟩ = some x) := fun j x hx => by rw [hW133, hbs, World.cell?_alloc_mark]; simpa using hx
              have HSl : Hid (bs < W133.heap.size) := by show bs < _; rw [hW133, hbs]; simp
              rw [← hW133, ← hbs]
              clear hW133 hbs hbn
              refine hK.out _ _ (KeptQ.ofBelow (HBW133.out)) (fun hHeld2 => ?_)
              clear hK K hHeld
              have hHeld := hHeld2
              clear hHeld2
              have HRow : Hid (RowC W133 14 (.slice pp m cc) m (txsC vb eb (q.ans + 1) q.wait)) := by
                have := (HQ.out.2.below HQ.out.1.np HBW133.out).r.row
                rw [← HM.out] at this
                exact this
              have HSrc : Hid (Src Try.prog 14 63 (.slice (some ⟨bs, 0, none⟩) 1 1) 1 [.int .i64 ca, .int .i64 cb, .int .i64 k0, .string o1, .string o2, .string o3, .string o4, .string o5, .string o6, .int .i64 k7, .int .i64 k8, .map (some bv), .map (some be), .string ⟨#[]⟩] W133) := src_tx W133 [.int .i64 ca, .int .i64 cb, .int .i64 k0, .string o1, .string o2, .string o3, .string o4, .string o5, .string o6, .int .i64 k7, .int .i64 k8, .map (some bv), .map (some be), .string ⟨#[]⟩] HSr.out rfl (txC_one (Me.fresh ca cb ⟨k0, o1, o2, o3, o4, o5, o6, k7, k8⟩) bv be)
              refine wpAnyH_ready (rs := [14]) (by kernel_rfl) (by simp) ?_
              refine AllReadyH.cons rfl (fun K hK => ?_) AllReadyH.nil
              refine stepM 60 rfl rfl _ _ _ _ 70 rfl Try.underlying63 _ _ _ txInfoZ rfl (.slice pp m cc) m _ rfl HRow.out _ 1 _ rfl HSrc.out (by omega) (by unfold maxLen; omega) ?_
              intro v' W134 hr2 hg2 hk2
              obtain ⟨p2, c2, hv2, _, _⟩ := hr2.form
              have HFin : Hid (∀ F, F = W134.setCell ⟨B, 4, none⟩ v' → ∃ who', AftT who u F B (Me.begin q ca cb ⟨k0, o1, o2, o3, o4, o5, o6, k7, k8⟩) (n + 1) who') := fun F hF => AftT.app HQ.out.1 HQ.out.2 HBW133.out (MapIn.is HMW133v.out) (MapIn.is HMW133e.out) HNe.out ⟨MapIn.lo HMW133v.out, MapIn.lo HMW133e.out⟩ (by rw [← HM.out]; exact hr2) hg2 hk2 hF HOk2.out
              have hKn : KeptQ who u W134 := (KeptQ.ofBelow HBW133.out).grown hg2 (fun k hk _ => by have := HQ.out.2.r.wr k hk; omega)
              have HCn : Hid (W134.cell? ⟨B, 4, none⟩ = some (.slice pp m cc) ∧ W134.frozen? ⟨B, 4, none⟩ = false) := by
                have hq2 := HQ.out.2.below HQ.out.1.np HBW133.out
                have hb : W134.heap[B]? = W133.heap[B]? := hg2.block B (hq2.r.here B (by rw [hq2.wB]; omega)) (fun e => by have := HQ.out.2.r.wr B e.symm; rw [HQ.out.2.wB] at this; omega)
                exact ⟨(World.cell?_of_block (a := ⟨B, 4, none⟩) hb).trans hq2.b.c4, (World.frozen?_of_block (a := ⟨B, 4, none⟩) hb).trans (hq2.b.fz 4)⟩
              have HKn : Hid (KeptQ who u W134) := hKn
              subst hv2
              clear hr2 hg2 hk2 hKn
              refine hK.out _ _ HKn.out (fun hHeld2 => ?_)
              clear hK K hHeld
              have hHeld := hHeld2
              clear hHeld2
              simp only [Act.put, List.setIfInBounds_toArray, List.set_cons_zero, List.set_cons_succ]
              refine takeM (i := 15) (d := 61) (v := .pointer (some ⟨B, 0, none⟩)) rfl rfl (by kernel_rfl) (by kernel_rfl) (by kernel_rfl) (fun _ _ _ h => h) (Or.inl ⟨by rfl, ?_⟩) (by assumption) ?_
              · intro X hSw
                obtain ⟨e1, e2, e3, e4, e5, e6, e7, e8, e9, e10, e11⟩ := HCL.out X hSw
                clear hSw
                go_simp
              simp only [Act.put, List.setIfInBounds_toArray, List.set_cons_zero, List.set_cons_succ]
              refine takeM (i := 16) (d := 62) (v := .pointer (some ⟨B, 4, none⟩)) rfl rfl (by kernel_rfl) (by kernel_rfl) (by kernel_rfl) (fun _ _ _ h => h) (Or.inl ⟨by rfl, ?_⟩) (by assumption) ?_
              · intro X hSw
                obtain ⟨e1, e2, e3, e4, e5, e6, e7, e8, e9, e10, e11⟩ := HCL.out X hSw
                clear hSw
                go_simp
              simp only [Act.put, List.setIfInBounds_toArray, List.set_cons_zero, List.set_cons_succ]
              refine wpAnyH_ready (rs := [17]) (by kernel_rfl) (by simp) ?_
              refine AllReadyH.cons rfl (fun K hK => ?_) AllReadyH.nil
              obtain ⟨c4, f4⟩ := HCn.out
              go_simp
              obtain ⟨W135, hW135⟩ : ∃ W135, W135 = World.setCell W134 ⟨B, 4, none⟩ (.slice p2 (m + 1) c2) := ⟨_, rfl⟩
              obtain ⟨who', hA⟩ := HFin.out W135 hW135
              have HA : Hid (AftT who u W135 B (Me.begin q ca cb ⟨k0, o1, o2, o3, o4, o5, o6, k7, k8⟩) (n + 1) who') := hA
              rw [← hW135]
              clear hW135 hA c4 f4
              refine hK.out _ _ HA.out.2.2 (fun hHeld2 => ?_)
              clear hK K hHeld hHeld2
              refine wpAnyH_done (by kernel_rfl) ?_ _
              go_wp2_with fail
              go_meet
              exact ⟨rfl, who', HA⟩
            · go_simp
              obtain ⟨W136, hW136⟩ : ∃ W136, W136 = World.alloc W132 (.cells #[.int .i64 ca, .int .i64 cb, .int .i64 k0, .string o1, .string o2, .string o3, .string o4, .string o5, .string o6, .int .i64 k7, .int .i64 k8, .map (some bv), .map (some be), .string ⟨#[]⟩] 70) := ⟨_, rfl⟩
              obtain ⟨bs, hbs⟩ : ∃ bs, bs = W132.heap.size := ⟨_, rfl⟩
              have hbn : Below W132.heap.size W132 W136 := by rw [hW136]; exact below_alloc _ _
              have HBW136 : Hid (Below u.heap.size u W136) := Below.trans HBW132.out (Below.mono hbn (Below.size HBW132.out))
              have HMW136v : Hid (MapIn u bv W136) := MapIn.below HMW132v.out hbn
              have HMW136e : Hid (MapIn u be W136) := MapIn.below HMW132e.out hbn
              have HSr : Hid (∀ (j : Nat) x, ([.int .i64 ca, .int .i64 cb, .int .i64 k0, .string o1, .string o2, .string o3, .string o4, .string o5, .string o6, .int .i64 k7, .int .i64 k8, .map (some bv), .map (some be), .string ⟨#[]⟩] : List Value)[j]? = some x → W136.cell? ⟨bs, j, none⟩ = some x) := fun j x hx => by rw [hW136, hbs, World.cell?_alloc_mark]; simpa using hx
              have HSl : Hid (bs < W136.heap.size) := by show bs < _; rw [hW136, hbs]; simp
              rw [← hW136, ← hbs]
              clear hW136 hbs hbn
              refine hK.out _ _ (KeptQ.ofBelow (HBW136.out)) (fun hHeld2 => ?_)
              clear hK K hHeld
              have hHeld := hHeld2
              clear hHeld2
              refine wpAnyH_ready (rs := [4]) (by kernel_rfl) (by simp) ?_
              refine AllReadyH.cons rfl (fun K hK => ?_) AllReadyH.nil
              have y4 := (HQ4.out W136 HBW136.out).2
              go_simp
              refine hK.out _ _ (KeptQ.ofBelow (HBW136.out)) (fun hHeld2 => ?_)
              clear hK K hHeld
              have hHeld := hHeld2
              clear hHeld2
              clear y4
              have HRow : Hid (RowC W136 14 (.slice pp m cc) m (txsC vb eb (q.ans + 1) q.wait)) := by
                have := (HQ.out.2.below HQ.out.1.np HBW136.out).r.row
                rw [← HM.out] at this
                exact this
              have HSrc : Hid (Src Try.prog 14 63 (.slice (some ⟨bs, 0, none⟩) 1 1) 1 [.int .i64 ca, .int .i64 cb, .int .i64 k0, .string o1, .string o2, .string o3, .string o4, .string o5, .string o6, .int .i64 k7, .int .i64 k8, .map (some bv), .map (some be), .string ⟨#[]⟩] W136) := src_tx W136 [.int .i64 ca, .int .i64 cb, .int .i64 k0, .string o1, .string o2, .string o3, .string o4, .string o5, .string o6, .int .i64 k7, .int .i64 k8, .map (some bv), .map (some be), .string ⟨#[]⟩] HSr.out rfl (txC_one (Me.fresh ca cb ⟨k0, o1, o2, o3, o4, o5, o6, k7, k8⟩) bv be)
              refine wpAnyH_ready (rs := [14]) (by kernel_rfl) (by simp) ?_
              refine AllReadyH.cons rfl (fun K hK => ?_) AllReadyH.nil
              refine stepM 60 rfl rfl _ _ _ _ 70 rfl Try.underlying63 _ _ _ txInfoZ rfl (.slice pp m cc) m _ rfl HRow.out _ 1 _ rfl HSrc.out (by omega) (by unfold maxLen; omega) ?_
              intro v' W137 hr2 hg2 hk2
              obtain ⟨p2, c2, hv2, _, _⟩ := hr2.form
              have HFin : Hid (∀ F, F = W137.setCell ⟨B, 4, none⟩ v' → ∃ who', AftT who u F B (Me.begin q ca cb ⟨k0, o1, o2, o3, o4, o5, o6, k7, k8⟩) (n + 1) who') := fun F hF => AftT.app HQ.out.1 HQ.out.2 HBW136.out (MapIn.is HMW136v.out) (MapIn.is HMW136e.out) HNe.out ⟨MapIn.lo HMW136v.out, MapIn.lo HMW136e.out⟩ (by rw [← HM.out]; exact hr2) hg2 hk2 hF HOk2.out
              have hKn : KeptQ who u W137 := (KeptQ.ofBelow HBW136.out).grown hg2 (fun k hk _ => by have := HQ.out.2.r.wr k hk; omega)
              have HCn : Hid (W137.cell? ⟨B, 4, none⟩ = some (.slice pp m cc) ∧ W137.frozen? ⟨B, 4, none⟩ = false) := by
                have hq2 := HQ.out.2.below HQ.out.1.np HBW136.out
                have hb : W137.heap[B]? = W136.heap[B]? := hg2.block B (hq2.r.here B (by rw [hq2.wB]; omega)) (fun e => by have := HQ.out.2.r.wr B e.symm; rw [HQ.out.2.wB] at this; omega)
                exact ⟨(World.cell?_of_block (a := ⟨B, 4, none⟩) hb).trans hq2.b.c4, (World.frozen?_of_block (a := ⟨B, 4, none⟩) hb).trans (hq2.b.fz 4)⟩
              have HKn : Hid (KeptQ who u W137) := hKn
              subst hv2
              clear hr2 hg2 hk2 hKn
              refine hK.out _ _ HKn.out (fun hHeld2 => ?_)
              clear hK K hHeld
              have hHeld := hHeld2
              clear hHeld2
              simp only [Act.put, List.setIfInBounds_toArray, List.set_cons_zero, List.set_cons_succ]
              refine takeM (i := 15) (d := 61) (v := .pointer (some ⟨B, 0, none⟩)) rfl rfl (by kernel_rfl) (by kernel_rfl) (by kernel_rfl) (fun _ _ _ h => h) (Or.inl ⟨by rfl, ?_⟩) (by assumption) ?_
              · intro X hSw
                obtain ⟨e1, e2, e3, e4, e5, e6, e7, e8, e9, e10, e11⟩ := HCL.out X hSw
                clear hSw
                go_simp
              simp only [Act.put, List.setIfInBounds_toArray, List.set_cons_zero, List.set_cons_succ]
              refine takeM (i := 16) (d := 62) (v := .pointer (some ⟨B, 4, none⟩)) rfl rfl (by kernel_rfl) (by kernel_rfl) (by kernel_rfl) (fun _ _ _ h => h) (Or.inl ⟨by rfl, ?_⟩) (by assumption) ?_
              · intro X hSw
                obtain ⟨e1, e2, e3, e4, e5, e6, e7, e8, e9, e10, e11⟩ := HCL.out X hSw
                clear hSw
                go_simp
              simp only [Act.put, List.setIfInBounds_toArray, List.set_cons_zero, List.set_cons_succ]
              refine wpAnyH_ready (rs := [17]) (by kernel_rfl) (by simp) ?_
              refine AllReadyH.cons rfl (fun K hK => ?_) AllReadyH.nil
              obtain ⟨c4, f4⟩ := HCn.out
              go_simp
              obtain ⟨W138, hW138⟩ : ∃ W138, W138 = World.setCell W137 ⟨B, 4, none⟩ (.slice p2 (m + 1) c2) := ⟨_, rfl⟩
              obtain ⟨who', hA⟩ := HFin.out W138 hW138
              have HA : Hid (AftT who u W138 B (Me.begin q ca cb ⟨k0, o1, o2, o3, o4, o5, o6, k7, k8⟩) (n + 1) who') := hA
              rw [← hW138]
              clear hW138 hA c4 f4
              refine hK.out _ _ HA.out.2.2 (fun hHeld2 => ?_)
              clear hK K hHeld hHeld2
              refine wpAnyH_done (by kernel_rfl) ?_ _
              go_wp2_with fail
              go_meet
              exact ⟨rfl, who', HA⟩
    case rest =>
      obtain ⟨rfl, who', HA⟩ := hcut
      have hz : ∃ p2 c2, wc.cell? ⟨B, 3, none⟩ = some (.int .i64 (q.ans : Int)) ∧ wc.cell? ⟨B, 4, none⟩ = some (.slice p2 (m + 1) c2) := by
        obtain ⟨⟨_, ob, tb, tm, wv, vb, eb, hq⟩, _⟩ := HA.out
        obtain ⟨p2, c2, hv, _, _⟩ := hq.r.row.form
        have hl : (Me.begin q ca cb ⟨k0, o1, o2, o3, o4, o5, o6, k7, k8⟩).wait.length = m + 1 := by show (q.wait ++ [_]).length = m + 1; rw [List.length_append, HM.out]; rfl
        have c4 := hq.b.c4
        rw [hv, hl] at c4
        exact ⟨p2, c2, hq.b.c3, c4⟩
      obtain ⟨p2, c2, y3, y4⟩ := hz
      have HNb : Hid (br ≠ B) := by
        intro e
        have h1 := HBc.out.no.2
        rw [e] at h1
        have := HQ.out.2.wB
        omega
      have hnb := HNb.out
      have hnb' : B ≠ br := fun e => HNb.out e.symm
      have hwr : IntKind.i64.wrap ((q.ans : Int) + ((m + 1 : Nat) : Int)) = (q.ans : Int) + ((m + 1 : Nat) : Int) := by rw [IntKind.wrap_i64]; omega
      obtain ⟨⟨r0, r1, r2⟩, g0, g1, g2⟩ := HBc.out.r wc HA.out.2.2
      obtain ⟨at', hat⟩ : ∃ at', at' = (q.ans : Int) + ((m : Int) + 1) := ⟨_, rfl⟩
      obtain ⟨F, hF⟩ : ∃ F, F = putS wc br [.int .i64 120, .int .i64 at', .slice none 0 0] := ⟨_, rfl⟩
      have hx3 := HBc.out.told HA.out.2.2 (.int .i64 120) (.int .i64 at') (.slice none 0 0)
      rw [← hF] at hx3
      obtain ⟨x0, x1, x2⟩ := hx3
      have HR : Hid (AftT who w (putS wc br _) B _ _ _) := AftT.fin HA.out HBc.out [.int .i64 120, .int .i64 at', .slice none 0 0]
      rw [← hF] at HR
      have hFe : F = ((wc.setCell ⟨br, 0, none⟩ (.int .i64 120)).setCell ⟨br, 1, none⟩ (.int .i64 at')).setCell ⟨br, 2, none⟩ (.slice none 0 0) := hF
      rw [hat] at hFe
      have HFe : Hid _ := hFe
      have HRd : Hid (AftT who w F.drew B (Me.begin q ca cb ⟨k0, o1, o2, o3, o4, o5, o6, k7, k8⟩) (n + 1) who') := AftT.on HR.out (below_drew F)
      have HAt : Hid _ := hat
      clear hF hFe HR
      go_upto_region 12 with fail
      go_simp
      go_region
      go_wp2
      rw [← HFe.out]
      rw [← HAt.out] at HFe
      refine bodyPost_ret (v := .agg #[.int .i64 120, .int .i64 at', .slice none 0 0]) ?qres rfl ?qpost
      case qres => simp [results, Try.results21, go_sem, x0, x1, x2]
      case qpost => exact ⟨who', by rw [HAt.out]; push_cast; rfl, HRd.out⟩
end Go.Proofs.Ytepbmfjimppgcaa
