/-
  A page of posts is read.
-/
import Derived.Test.YtkioeahlajjmiaaMoOff
namespace Go.Proofs.Ytkioeahlajjmiaa
open Go.RowKit

theorem wrap_add {a b : Int} (h1 : 0 ≤ a) (h2 : a ≤ 1024) (h3 : 0 ≤ b) (h4 : b ≤ 64) : IntKind.i64.wrap (a + b) = a + b := wraps_i64 _ (by omega) (by omega)

theorem frm_eq (o : Mo.Op) (c : Mo.Ch) (h0 : 0 ≤ o.frm) : (if ((c.posts.length : Nat) : Int) < o.frm then ((c.posts.length : Nat) : Int) else o.frm) = ((Mo.frmN o c : Nat) : Int) := by
  unfold Mo.frmN
  split <;> omega
theorem end_eq (o : Mo.Op) (c : Mo.Ch) (h0 : 0 ≤ o.most) : (if ((c.posts.length : Nat) : Int) < (Mo.frmN o c : Int) + o.most then ((c.posts.length : Nat) : Int) else (Mo.frmN o c : Int) + o.most) = ((Mo.endN o c : Nat) : Int) := by
  unfold Mo.endN
  split <;> omega
theorem frm_le (o : Mo.Op) (c : Mo.Ch) : Mo.frmN o c ≤ c.posts.length := by unfold Mo.frmN; omega
theorem end_ge (o : Mo.Op) (c : Mo.Ch) : Mo.frmN o c ≤ Mo.endN o c ∧ Mo.endN o c ≤ c.posts.length := by
  have := frm_le o c
  unfold Mo.endN
  omega

section
variable {w W : World} {B : Nat} {s : Mo.St} {who : Nat → Nat} {n bc bo : Nat} {f : ByteArray → ByteArray → Option Nat} {cs : Nat → Mo.Ch}

set_option maxHeartbeats 1600000 in
set_option maxRecDepth 20000 in
theorem read_none (h : MdV w B s who n bc bo f cs) (o : Mo.Op) (ho : OpOk o) (hf : f o.space o.channel = none) :
    Calls Try.prog 29 #[.pointer (some ⟨B, 0, none⟩), .agg #[.int .i64 o.kind, .string o.space, .string o.channel, .string o.user, .string o.text, .string o.toSpace, .string o.to, .int .i64 o.frm, .int .i64 o.most]] w fun e w' => e = .returned (.agg #[.int .i64 3, .int .i64 0, .slice none 0 0]) ∧ Below w.heap.size w w' := by
  obtain ⟨u0, hu0⟩ : ∃ u0, u0 = w.alloc (.cells #[.int .i64 o.kind, .string o.space, .string o.channel, .string o.user, .string o.text, .string o.toSpace, .string o.to, .int .i64 o.frm, .int .i64 o.most] 32) := ⟨_, rfl⟩
  obtain ⟨u, hu⟩ : ∃ u, u = u0.alloc (.cells #[.int .i64 0, .int .i64 0, .slice none 0 0] 29) := ⟨_, rfl⟩
  have hR := RxOf.of w #[.int .i64 o.kind, .string o.space, .string o.channel, .string o.user, .string o.text, .string o.toSpace, .string o.to, .int .i64 o.frm, .int .i64 o.most] hu0 hu
  have hbu := hR.below
  have hV := h.below hbu
  have HR : Hid (RxOf w u #[.int .i64 o.kind, .string o.space, .string o.channel, .string o.user, .string o.text, .string o.toSpace, .string o.to, .int .i64 o.frm, .int .i64 o.most]) := hR
  have HBx : Hid (∀ X, Below u.heap.size u X → X.cell? ⟨w.heap.size, 1, none⟩ = some (.string o.space) ∧ X.cell? ⟨w.heap.size, 2, none⟩ = some (.string o.channel) ∧ X.cell? ⟨w.heap.size, 3, none⟩ = some (.string o.user) ∧ X.cell? ⟨w.heap.size, 4, none⟩ = some (.string o.text) ∧ X.cell? ⟨w.heap.size, 7, none⟩ = some (.int .i64 o.frm) ∧ X.cell? ⟨w.heap.size, 8, none⟩ = some (.int .i64 o.most)) := fun X hX =>
    ⟨hR.op X hX 1, hR.op X hX 2, hR.op X hX 3, hR.op X hX 4, hR.op X hX 7, hR.op X hX 8⟩
  have HFi : Hid _ := find_none hV ho.1 ho.2.1 hf
  obtain ⟨u1, u2, u3, u4, u7, u8⟩ := HBx.out u (Below.refl _ _)
  clear h hV ho hf hbu hR
  go_enter Try.func29, Try.ntmps29
  go_wp2_with fail
  rw [← hu0, ← hu]
  refine Calls.mono HFi.out ?_
  rintro e w1 ⟨rfl, hw1⟩
  have hw1 := hw1.symm
  subst hw1
  clear hu hu0
  obtain ⟨r0, r1, r2, g0, g1, g2⟩ := HR.out.re u (Below.refl u.heap.size u)
  go_wp2
  obtain ⟨x0, x1, x2⟩ := fin3_cells r0 r1 r2 (.int .i64 3) (.int .i64 0) (.slice none 0 0)
  have HF : Hid (Below w.heap.size w (fin3 u (w.heap.size + 1) (.int .i64 3) (.int .i64 0) (.slice none 0 0))) := fin3_below (HR.out.below.trans ((Below.refl u.heap.size u).mono HR.out.below.size)) (Nat.le_succ _) _ _ _
  obtain ⟨Fw, hFw⟩ : ∃ Fw, Fw = fin3 u (w.heap.size + 1) (.int .i64 3) (.int .i64 0) (.slice none 0 0) := ⟨_, rfl⟩
  rw [← hFw] at x0 x1 x2 HF
  unfold fin3 at hFw
  rw [← hFw]
  clear hFw
  refine bodyPost_ret (v := .agg #[.int .i64 3, .int .i64 0, .slice none 0 0]) ?qres rfl ?qpost
  case qres => simp [results, Try.results29, go_sem, x0, x1, x2]
  case qpost => exact ⟨rfl, HF.out⟩

set_option maxHeartbeats 1600000 in
set_option maxRecDepth 20000 in
theorem read_yes (h : MdV w B s who n bc bo f cs) (o : Mo.Op) (ho : OpOk o) {k : Nat} (h0 : 0 ≤ o.frm) (h2 : 0 ≤ o.most) (h3 : o.most ≤ 64) (hf : f o.space o.channel = some k) :
    Calls Try.prog 29 #[.pointer (some ⟨B, 0, none⟩), .agg #[.int .i64 o.kind, .string o.space, .string o.channel, .string o.user, .string o.text, .string o.toSpace, .string o.to, .int .i64 o.frm, .int .i64 o.most]] w fun e w' => ∃ v, e = .returned (.agg #[.int .i64 0, .int .i64 (Mo.endN o (cs k) : Int), v]) ∧ RowC w' 2 v (((cs k).posts.drop (Mo.frmN o (cs k))).take (Mo.endN o (cs k) - Mo.frmN o (cs k))).length (poCells (((cs k).posts.drop (Mo.frmN o (cs k))).take (Mo.endN o (cs k) - Mo.frmN o (cs k)))) ∧ (∀ g, cBlk v = some g → w.heap.size ≤ g) ∧ Below w.heap.size w w' := by
  obtain ⟨u0, hu0⟩ : ∃ u0, u0 = w.alloc (.cells #[.int .i64 o.kind, .string o.space, .string o.channel, .string o.user, .string o.text, .string o.toSpace, .string o.to, .int .i64 o.frm, .int .i64 o.most] 32) := ⟨_, rfl⟩
  obtain ⟨u, hu⟩ : ∃ u, u = u0.alloc (.cells #[.int .i64 0, .int .i64 0, .slice none 0 0] 29) := ⟨_, rfl⟩
  have hR := RxOf.of w #[.int .i64 o.kind, .string o.space, .string o.channel, .string o.user, .string o.text, .string o.toSpace, .string o.to, .int .i64 o.frm, .int .i64 o.most] hu0 hu
  have hbu := hR.below
  have hV := h.below hbu
  have HR : Hid (RxOf w u #[.int .i64 o.kind, .string o.space, .string o.channel, .string o.user, .string o.text, .string o.toSpace, .string o.to, .int .i64 o.frm, .int .i64 o.most]) := hR
  have HBx : Hid (∀ X, Below u.heap.size u X → X.cell? ⟨w.heap.size, 1, none⟩ = some (.string o.space) ∧ X.cell? ⟨w.heap.size, 2, none⟩ = some (.string o.channel) ∧ X.cell? ⟨w.heap.size, 3, none⟩ = some (.string o.user) ∧ X.cell? ⟨w.heap.size, 4, none⟩ = some (.string o.text) ∧ X.cell? ⟨w.heap.size, 7, none⟩ = some (.int .i64 o.frm) ∧ X.cell? ⟨w.heap.size, 8, none⟩ = some (.int .i64 o.most)) := fun X hX =>
    ⟨hR.op X hX 1, hR.op X hX 2, hR.op X hX 3, hR.op X hX 4, hR.op X hX 7, hR.op X hX 8⟩
  have HFi : Hid _ := find_some hV ho.1 ho.2.1 hf
  obtain ⟨bm, v, hc, w4, wm, wr⟩ := hV.one _ _ k hf
  obtain ⟨p, cap, hv, hc1, hc2⟩ := hc.row.form
  have hfe := frm_eq o (cs k) h0
  have hee := end_eq o (cs k) h2
  have hge := end_ge o (cs k)
  obtain ⟨m, hm⟩ : ∃ m, m = (cs k).posts.length := ⟨_, rfl⟩
  have hfew := hc.few
  rw [← hm] at hv hc1 hfew hfe hee hge
  obtain ⟨fr, hfr⟩ : ∃ fr, fr = Mo.frmN o (cs k) := ⟨_, rfl⟩
  obtain ⟨en, hen⟩ : ∃ en, en = Mo.endN o (cs k) := ⟨_, rfl⟩
  rw [← hfr] at hfe hee hge
  rw [← hen] at hee hge
  have HS : Hid (∀ X, Below u.heap.size u X → X.cell? ⟨w.heap.size, 7, none⟩ = some (.int .i64 o.frm) ∧ X.cell? ⟨w.heap.size, 8, none⟩ = some (.int .i64 o.most) ∧ X.cell? ⟨k, 1, none⟩ = some (.slice p m cap)) := fun X hX => by
    have q := (hc.below w4 wm wr hV.here hX).c1
    rw [hv] at q
    exact ⟨hR.op X hX 7, hR.op X hX 8, q⟩
  have hcut : ∀ X : World, (Instr.slice 27 (.slice p m cap) (some (.int .i64 (fr : Int))) (some (.int .i64 (en : Int))) none).run Try.prog X = .ok (.slice (cutP p fr cap 2) (en - fr) (cap - fr)) X := fun X => run_cut2p p m cap fr en hge.1 (by omega) X
  obtain ⟨p', hp'⟩ : ∃ p', p' = cutP p fr cap 2 := ⟨_, rfl⟩
  obtain ⟨m', hm'⟩ : ∃ m', m' = en - fr := ⟨_, rfl⟩
  obtain ⟨c', hc'⟩ : ∃ c', c' = cap - fr := ⟨_, rfl⟩
  rw [← hp', ← hm', ← hc'] at hcut
  have HCl : Hid (∀ X, Below u.heap.size u X → Calls Try.prog 46 #[.slice p' m' c'] X (CloneOut X m' (poCells (((cs k).posts.drop fr).take (en - fr))))) := fun X hX => by
    have hr := (hc.below w4 wm wr hV.here hX).row
    rw [hv, ← hm] at hr
    obtain ⟨q, _⟩ := hr.cut fr en cap hge.1 (by omega) (Nat.le_refl _) hge.2
    rw [← hp', ← hm', ← hc', ← poCells_drop] at q
    rw [← hm', poCells_take]
    exact PClone_c q (fun x hx => poCells_one _ _ (List.mem_of_mem_take hx)) (by omega)
  have hwr : IntKind.i64.wrap ((fr : Int) + o.most) = (fr : Int) + o.most := wrap_add (by omega) (by omega) h2 h3
  have HL : Hid ((((cs k).posts.drop fr).take (en - fr)).length = m') := by
    rw [hm']
    show _ = _
    rw [List.length_take, List.length_drop, ← hm]
    omega
  have HFr : Hid (fr = Mo.frmN o (cs k) ∧ en = Mo.endN o (cs k)) := ⟨hfr, hen⟩
  have hk1 : (fr : Int) ≤ (en : Int) := by omega
  obtain ⟨u1, u2, u3, u4, u7, u8⟩ := HBx.out u (Below.refl _ _)
  clear h hV ho hf hbu hR h0 h2 h3 hc w4 wm wr hv hc1 hc2 hm hfew hge hfr hen hp' hm' hc'
  go_enter Try.func29, Try.ntmps29
  go_wp2_with fail
  rw [← hu0, ← hu]
  refine Calls.mono HFi.out ?_
  rintro e w1 ⟨rfl, hw1⟩
  have hw1 := hw1.symm
  subst hw1
  clear hu hu0
  have HU : Hid (Below u.heap.size u u.drew) := (Below.refl _ _).drew
  clear u1 u2 u3 u4 u7 u8
  go_wp2
  refine wp_region_held_drew (S := fun X => X.cell? ⟨w.heap.size, 7, none⟩ = some (.int .i64 o.frm) ∧ X.cell? ⟨w.heap.size, 8, none⟩ = some (.int .i64 o.most) ∧ X.cell? ⟨k, 1, none⟩ = some (.slice p m cap)) (by kernel_rfl) (HS.out _ HU.out) (fun hHeld => ?_)
  refine take7 (i := 0) (d := 22) (v := .pointer (some ⟨w.heap.size, 7, none⟩)) rfl rfl (by kernel_rfl) (by kernel_rfl) (by kernel_rfl) (fun _ _ _ h => h) (Or.inl ⟨by rfl, ?_⟩) (by assumption) ?_
  · intro X hSw
    go_simp
  simp only [Act.put, List.setIfInBounds_toArray, List.set_cons_zero, List.set_cons_succ]
  refine take7 (i := 1) (d := 23) (v := .int .i64 o.frm) rfl rfl (by kernel_rfl) (by kernel_rfl) (by kernel_rfl) (fun _ _ _ h => h) (Or.inl ⟨by rfl, ?_⟩) (by assumption) ?_
  · intro X hSw
    go_simp
  simp only [Act.put, List.setIfInBounds_toArray, List.set_cons_zero, List.set_cons_succ]
  refine take7 (i := 2) (d := 24) (v := .pointer (some ⟨k, 0, none⟩)) rfl rfl (by kernel_rfl) (by kernel_rfl) (by kernel_rfl) (fun _ _ _ h => h) (Or.inl ⟨by rfl, ?_⟩) (by assumption) ?_
  · intro X hSw
    go_simp
  simp only [Act.put, List.setIfInBounds_toArray, List.set_cons_zero, List.set_cons_succ]
  refine take7 (i := 3) (d := 25) (v := .pointer (some ⟨k, 0, none⟩)) rfl rfl (by kernel_rfl) (by kernel_rfl) (by kernel_rfl) (fun _ _ _ h => h) (Or.inl ⟨by rfl, ?_⟩) (by assumption) ?_
  · intro X hSw
    go_simp
  simp only [Act.put, List.setIfInBounds_toArray, List.set_cons_zero, List.set_cons_succ]
  refine take7 (i := 4) (d := 26) (v := .pointer (some ⟨k, 1, none⟩)) rfl rfl (by kernel_rfl) (by kernel_rfl) (by kernel_rfl) (fun _ _ _ h => h) (Or.inl ⟨by rfl, ?_⟩) (by assumption) ?_
  · intro X hSw
    go_simp
  simp only [Act.put, List.setIfInBounds_toArray, List.set_cons_zero, List.set_cons_succ]
  refine take7 (i := 5) (d := 27) (v := .slice p m cap) rfl rfl (by kernel_rfl) (by kernel_rfl) (by kernel_rfl) (fun _ _ _ h => h) (Or.inl ⟨by rfl, ?_⟩) (by assumption) ?_
  · intro X hSw
    go_simp
  simp only [Act.put, List.setIfInBounds_toArray, List.set_cons_zero, List.set_cons_succ]
  refine take7 (i := 6) (d := 28) (v := .int .i64 (m : Int)) rfl rfl (by kernel_rfl) (by kernel_rfl) (by kernel_rfl) (fun _ _ _ h => h) (Or.inl ⟨by rfl, ?_⟩) (by assumption) ?_
  · intro X hSw
    go_simp
  simp only [Act.put, List.setIfInBounds_toArray, List.set_cons_zero, List.set_cons_succ]
  refine take7 (i := 7) (d := 29) (v := .int .i64 (fr : Int)) rfl rfl (by kernel_rfl) (by kernel_rfl) (by kernel_rfl) (fun _ _ _ h => h) (Or.inl ⟨by rfl, ?_⟩) (by assumption) ?_
  · intro X hSw
    go_simp
  simp only [Act.put, List.setIfInBounds_toArray, List.set_cons_zero, List.set_cons_succ]
  refine take7 (i := 8) (d := 7) (v := .int .i64 (fr : Int)) rfl rfl (by kernel_rfl) (by kernel_rfl) (by kernel_rfl) (fun _ _ _ h => h) (Or.inl ⟨by rfl, ?_⟩) (by assumption) ?_
  · intro X hSw
    go_simp
  simp only [Act.put, List.setIfInBounds_toArray, List.set_cons_zero, List.set_cons_succ]
  refine wpAnyH_done (by kernel_rfl) ?_ _
  clear hHeld
  have HU2 : Hid (Below u.heap.size u u.drew.drew) := HU.out.drew
  go_wp2
  refine wp_region_held_drew (S := fun X => X.cell? ⟨w.heap.size, 7, none⟩ = some (.int .i64 o.frm) ∧ X.cell? ⟨w.heap.size, 8, none⟩ = some (.int .i64 o.most) ∧ X.cell? ⟨k, 1, none⟩ = some (.slice p m cap)) (by kernel_rfl) (HS.out _ HU2.out) (fun hHeld => ?_)
  refine take7 (i := 0) (d := 30) (v := .int .i64 (fr : Int)) rfl rfl (by kernel_rfl) (by kernel_rfl) (by kernel_rfl) (fun _ _ _ h => h) (Or.inl ⟨by rfl, ?_⟩) (by assumption) ?_
  · intro X hSw
    go_simp
  simp only [Act.put, List.setIfInBounds_toArray, List.set_cons_zero, List.set_cons_succ]
  refine take7 (i := 1) (d := 31) (v := .pointer (some ⟨w.heap.size, 8, none⟩)) rfl rfl (by kernel_rfl) (by kernel_rfl) (by kernel_rfl) (fun _ _ _ h => h) (Or.inl ⟨by rfl, ?_⟩) (by assumption) ?_
  · intro X hSw
    go_simp
  simp only [Act.put, List.setIfInBounds_toArray, List.set_cons_zero, List.set_cons_succ]
  refine take7 (i := 2) (d := 32) (v := .int .i64 o.most) rfl rfl (by kernel_rfl) (by kernel_rfl) (by kernel_rfl) (fun _ _ _ h => h) (Or.inl ⟨by rfl, ?_⟩) (by assumption) ?_
  · intro X hSw
    go_simp
  simp only [Act.put, List.setIfInBounds_toArray, List.set_cons_zero, List.set_cons_succ]
  refine take7 (i := 3) (d := 33) (v := .int .i64 ((fr : Int) + o.most)) rfl rfl (by kernel_rfl) (by kernel_rfl) (by kernel_rfl) (fun _ _ _ h => h) (Or.inl ⟨by rfl, ?_⟩) (by assumption) ?_
  · intro X hSw
    go_simp
  simp only [Act.put, List.setIfInBounds_toArray, List.set_cons_zero, List.set_cons_succ]
  refine take7 (i := 4) (d := 34) (v := .pointer (some ⟨k, 0, none⟩)) rfl rfl (by kernel_rfl) (by kernel_rfl) (by kernel_rfl) (fun _ _ _ h => h) (Or.inl ⟨by rfl, ?_⟩) (by assumption) ?_
  · intro X hSw
    go_simp
  simp only [Act.put, List.setIfInBounds_toArray, List.set_cons_zero, List.set_cons_succ]
  refine take7 (i := 5) (d := 35) (v := .pointer (some ⟨k, 0, none⟩)) rfl rfl (by kernel_rfl) (by kernel_rfl) (by kernel_rfl) (fun _ _ _ h => h) (Or.inl ⟨by rfl, ?_⟩) (by assumption) ?_
  · intro X hSw
    go_simp
  simp only [Act.put, List.setIfInBounds_toArray, List.set_cons_zero, List.set_cons_succ]
  refine take7 (i := 6) (d := 36) (v := .pointer (some ⟨k, 1, none⟩)) rfl rfl (by kernel_rfl) (by kernel_rfl) (by kernel_rfl) (fun _ _ _ h => h) (Or.inl ⟨by rfl, ?_⟩) (by assumption) ?_
  · intro X hSw
    go_simp
  simp only [Act.put, List.setIfInBounds_toArray, List.set_cons_zero, List.set_cons_succ]
  refine take7 (i := 7) (d := 37) (v := .slice p m cap) rfl rfl (by kernel_rfl) (by kernel_rfl) (by kernel_rfl) (fun _ _ _ h => h) (Or.inl ⟨by rfl, ?_⟩) (by assumption) ?_
  · intro X hSw
    go_simp
  simp only [Act.put, List.setIfInBounds_toArray, List.set_cons_zero, List.set_cons_succ]
  refine take7 (i := 8) (d := 38) (v := .int .i64 (m : Int)) rfl rfl (by kernel_rfl) (by kernel_rfl) (by kernel_rfl) (fun _ _ _ h => h) (Or.inl ⟨by rfl, ?_⟩) (by assumption) ?_
  · intro X hSw
    go_simp
  simp only [Act.put, List.setIfInBounds_toArray, List.set_cons_zero, List.set_cons_succ]
  refine take7 (i := 9) (d := 39) (v := .int .i64 (en : Int)) rfl rfl (by kernel_rfl) (by kernel_rfl) (by kernel_rfl) (fun _ _ _ h => h) (Or.inl ⟨by rfl, ?_⟩) (by assumption) ?_
  · intro X hSw
    go_simp
  simp only [Act.put, List.setIfInBounds_toArray, List.set_cons_zero, List.set_cons_succ]
  refine take7 (i := 10) (d := 8) (v := .int .i64 (en : Int)) rfl rfl (by kernel_rfl) (by kernel_rfl) (by kernel_rfl) (fun _ _ _ h => h) (Or.inl ⟨by rfl, ?_⟩) (by assumption) ?_
  · intro X hSw
    go_simp
  simp only [Act.put, List.setIfInBounds_toArray, List.set_cons_zero, List.set_cons_succ]
  refine wpAnyH_done (by kernel_rfl) ?_ _
  obtain ⟨X, hX⟩ : ∃ X, X = u.drew.drew := ⟨_, rfl⟩
  have HX : Hid (Below u.heap.size u X) := by rw [hX]; exact HU2.out
  rw [← hX] at hHeld ⊢
  obtain ⟨_, _, hp1⟩ := hHeld
  clear hX HU HU2
  go_wp2_with fail
  refine (HCl.out _ HX.out).mono ?_
  rintro e Y ⟨v', rfl, hrow, hbY, hnew⟩
  obtain ⟨p2, c2, hv2, _⟩ := hrow.form
  subst hv2
  have HRow : Hid (RowC Y 2 (.slice p2 m' c2) m' (poCells (((cs k).posts.drop fr).take (en - fr)))) := hrow
  have HbY : Hid (Below u.heap.size u Y) := HX.out.trans (hbY.mono HX.out.size)
  have HNew : Hid (∀ g, cBlk (.slice p2 m' c2) = some g → w.heap.size ≤ g ∧ g ≠ w.heap.size + 1) := fun g hg => by
    have q1 := hnew g hg
    have q2 := HX.out.size
    have q3 := HR.out.size
    exact ⟨by omega, by omega⟩
  clear hrow hbY hnew hp1 hwr hcut hfe hee hk1
  obtain ⟨r0, r1, r2, g0, g1, g2⟩ := HR.out.re Y HbY.out
  go_wp2
  obtain ⟨x0, x1, x2⟩ := fin3_cells r0 r1 r2 (.int .i64 0) (.int .i64 (en : Int)) (.slice p2 m' c2)
  have HF : Hid (Below w.heap.size w (fin3 Y (w.heap.size + 1) (.int .i64 0) (.int .i64 (en : Int)) (.slice p2 m' c2)) ∧ RowC (fin3 Y (w.heap.size + 1) (.int .i64 0) (.int .i64 (en : Int)) (.slice p2 m' c2)) 2 (.slice p2 m' c2) m' (poCells (((cs k).posts.drop fr).take (en - fr)))) := ⟨fin3_below (HR.out.below.trans (HbY.out.mono HR.out.below.size)) (Nat.le_succ _) _ _ _, HRow.out.carry (fun g hg => fin3_other (HNew.out g hg).2 _ _ _)⟩
  obtain ⟨Fw, hFw⟩ : ∃ Fw, Fw = fin3 Y (w.heap.size + 1) (.int .i64 0) (.int .i64 (en : Int)) (.slice p2 m' c2) := ⟨_, rfl⟩
  rw [← hFw] at x0 x1 x2 HF
  unfold fin3 at hFw
  rw [← hFw]
  clear hFw
  refine bodyPost_ret (v := .agg #[.int .i64 0, .int .i64 (en : Int), .slice p2 m' c2]) ?qres rfl ?qpost
  case qres => simp [results, Try.results29, go_sem, x0, x1, x2]
  case qpost =>
    rw [← HFr.out.1, ← HFr.out.2]
    refine ⟨.slice p2 m' c2, rfl, ?_, fun g hg => (HNew.out g hg).1, HF.out.1⟩
    rw [HL.out]
    exact HF.out.2

end
end Go.Proofs.Ytkioeahlajjmiaa
