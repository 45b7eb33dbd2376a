/-
  What a close does; what any op does.
-/
import Derived.Test.YtkioeahlajjmiaaMoClose
import Derived.Test.YtkioeahlajjmiaaMoMv
namespace Go.Proofs.Ytkioeahlajjmiaa
open Go.RowKit

section
variable {w W : World} {B : Nat} {s : Mo.St} {who : Nat → Nat} {n bc bo : Nat} {f : ByteArray → ByteArray → Option Nat} {cs : Nat → Mo.Ch}

set_option maxHeartbeats 1600000 in
set_option maxRecDepth 20000 in
theorem Do_6 (h : MdV w B s who n bc bo f cs) (o : Mo.Op) (ho : OpOk o) (hm : Mo.may o = true) (hk : o.kind = 6) :
    Calls Try.prog 10 #[.pointer (some ⟨B, 0, none⟩), .agg #[.int .i64 o.kind, .string o.space, .string o.channel, .string o.user, .string o.text, .string o.toSpace, .string o.to, .int .i64 o.frm, .int .i64 o.most]] w (DoOut who w B s n o) := by
  obtain ⟨u0, hu0⟩ : ∃ u0, u0 = w.alloc (.cells #[.int .i64 6, .string o.space, .string o.channel, .string o.user, .string o.text, .string o.toSpace, .string o.to, .int .i64 o.frm, .int .i64 o.most] 32) := ⟨_, rfl⟩
  obtain ⟨u, hu⟩ : ∃ u, u = u0.alloc (.cells #[.int .i64 0, .int .i64 0, .slice none 0 0] 29) := ⟨_, rfl⟩
  have hR := RxOf.of w #[.int .i64 6, .string o.space, .string o.channel, .string o.user, .string o.text, .string o.toSpace, .string o.to, .int .i64 o.frm, .int .i64 o.most] hu0 hu
  have hV := h.below hR.below
  have HM : Hid _ := isMade_c hV
  have HR : Hid (RxOf w u #[.int .i64 6, .string o.space, .string o.channel, .string o.user, .string o.text, .string o.toSpace, .string o.to, .int .i64 o.frm, .int .i64 o.most]) := hR
  have HMay : Hid _ := mayBe_c o ho u
  unfold opV at HMay
  rw [hm] at HMay
  have HIn : Hid (∀ X, Below u.heap.size u X → Calls Try.prog 31 #[.pointer (some ⟨B, 0, none⟩), .string o.space] X fun e w' => ∃ who', e = .returned (.tuple #[]) ∧ Mo.tells s o = ⟨0, 0, []⟩ ∧ AftM who X w' B (Mo.does s o) (n + 1) who') := fun X hX => by
    refine (close_c (hV.below hX) o.space).mono ?_
    rintro e w' ⟨rfl, ha⟩
    have e1 : Mo.does s o = ⟨fun p q => if p = o.space then none else s.ch p q, s.off⟩ := by simp [Mo.does, hm, hk]
    refine ⟨who, rfl, by simp [Mo.tells, hm, hk], ?_⟩
    rw [e1]
    exact ha.more (Nat.le_succ _)
  have HZ : Hid (∀ i, w.heap.size ≤ i → who i = 0) := fun i hi => by
    by_cases e : who i = 0
    · exact e
    · have := h.here i e
      omega
  rw [hk] at HMay ⊢
  obtain ⟨Q, hQ⟩ : ∃ Q, Q = DoOut who w B s n o := ⟨_, rfl⟩
  rw [← hQ]
  have HQ : Hid (Q = DoOut who w B s n o) := hQ
  clear hQ
  obtain ⟨u0', u1, u2, u3, u4, u5, u6, u7, u8⟩ : u.cell? ⟨w.heap.size, 0, none⟩ = some (.int .i64 6) ∧ u.cell? ⟨w.heap.size, 1, none⟩ = some (.string o.space) ∧ u.cell? ⟨w.heap.size, 2, none⟩ = some (.string o.channel) ∧ u.cell? ⟨w.heap.size, 3, none⟩ = some (.string o.user) ∧ u.cell? ⟨w.heap.size, 4, none⟩ = some (.string o.text) ∧ u.cell? ⟨w.heap.size, 5, none⟩ = some (.string o.toSpace) ∧ u.cell? ⟨w.heap.size, 6, none⟩ = some (.string o.to) ∧ u.cell? ⟨w.heap.size, 7, none⟩ = some (.int .i64 o.frm) ∧ u.cell? ⟨w.heap.size, 8, none⟩ = some (.int .i64 o.most) :=
    ⟨hR.op u (Below.refl _ _) 0, hR.op u (Below.refl _ _) 1, hR.op u (Below.refl _ _) 2, hR.op u (Below.refl _ _) 3, hR.op u (Below.refl _ _) 4, hR.op u (Below.refl _ _) 5, hR.op u (Below.refl _ _) 6, hR.op u (Below.refl _ _) 7, hR.op u (Below.refl _ _) 8⟩
  clear h hV ho hm hR hk
  go_enter Try.func10, Try.ntmps10
  go_wp2_with fail
  rw [← hu0, ← hu]
  refine Calls.mono HM.out ?_
  rintro e w1 ⟨rfl, hw1⟩
  have hw1 := hw1.symm
  subst hw1
  clear hu hu0
  go_wp2_with fail
  refine Calls.mono HMay.out ?_
  rintro e Y ⟨rfl, hbY⟩
  have HbY : Hid (Below u.heap.size u Y) := hbY
  obtain ⟨y0, y1, y2, y3, y4, y5, y6, y7, y8⟩ : Y.cell? ⟨w.heap.size, 0, none⟩ = some (.int .i64 6) ∧ Y.cell? ⟨w.heap.size, 1, none⟩ = some (.string o.space) ∧ Y.cell? ⟨w.heap.size, 2, none⟩ = some (.string o.channel) ∧ Y.cell? ⟨w.heap.size, 3, none⟩ = some (.string o.user) ∧ Y.cell? ⟨w.heap.size, 4, none⟩ = some (.string o.text) ∧ Y.cell? ⟨w.heap.size, 5, none⟩ = some (.string o.toSpace) ∧ Y.cell? ⟨w.heap.size, 6, none⟩ = some (.string o.to) ∧ Y.cell? ⟨w.heap.size, 7, none⟩ = some (.int .i64 o.frm) ∧ Y.cell? ⟨w.heap.size, 8, none⟩ = some (.int .i64 o.most) :=
    ⟨HR.out.op Y hbY 0, HR.out.op Y hbY 1, HR.out.op Y hbY 2, HR.out.op Y hbY 3, HR.out.op Y hbY 4, HR.out.op Y hbY 5, HR.out.op Y hbY 6, HR.out.op Y hbY 7, HR.out.op Y hbY 8⟩
  clear hbY u0' u1 u2 u3 u4 u5 u6 u7 u8
  go_wp2_with fail
  refine (HIn.out _ HbY.out).mono ?_
  rintro e X ⟨who', rfl, hT, ha⟩
  have HT : Hid _ := hT
  clear hT
  have cX : ∀ j, X.cell? ⟨w.heap.size + 1, j, none⟩ = Y.cell? ⟨w.heap.size + 1, j, none⟩ := fun j => World.cell?_of_block (a := ⟨w.heap.size + 1, j, none⟩) (ha.2.2.block (w.heap.size + 1) (by have := HbY.out.size; have := HR.out.size; omega) (HZ.out _ (Nat.le_succ _)))
  have fX : ∀ j, X.frozen? ⟨w.heap.size + 1, j, none⟩ = Y.frozen? ⟨w.heap.size + 1, j, none⟩ := fun j => World.frozen?_of_block (a := ⟨w.heap.size + 1, j, none⟩) (ha.2.2.block (w.heap.size + 1) (by have := HbY.out.size; have := HR.out.size; omega) (HZ.out _ (Nat.le_succ _)))
  obtain ⟨q0, q1, q2, q3, q4, q5⟩ := HR.out.re Y HbY.out
  have r0 := (cX 0).trans q0
  have r1 := (cX 1).trans q1
  have r2 := (cX 2).trans q2
  have g0 := (fX 0).trans q3
  have g1 := (fX 1).trans q4
  have g2 := (fX 2).trans q5
  have HA : Hid (AftM who Y X B (Mo.does s o) (n + 1) who') := ha
  clear ha cX fX q0 q1 q2 q3 q4 q5 y0 y1 y2 y3 y4 y5 y6 y7 y8
  go_wp2
  obtain ⟨x0, x1, x2⟩ := fin3_cells r0 r1 r2 (.int .i64 0) (.int .i64 0) (.slice none 0 0)
  have HF : Hid (Q (.returned (.agg #[.int .i64 0, .int .i64 0, .slice none 0 0])) (fin3 X (w.heap.size + 1) (.int .i64 0) (.int .i64 0) (.slice none 0 0))) := by
    rw [HQ.out]
    exact DoOut.err HT.out rfl ((AftM.from HbY.out HA.out).fin3 HR.out.below (Nat.le_succ _) (by have := HR.out.size; omega) (HZ.out _ (Nat.le_succ _)) _ _ _)
  obtain ⟨Fw, hFw⟩ : ∃ Fw, Fw = fin3 X (w.heap.size + 1) (.int .i64 0) (.int .i64 0) (.slice none 0 0) := ⟨_, rfl⟩
  rw [← hFw] at x0 x1 x2 HF
  unfold fin3 at hFw
  rw [← hFw]
  clear hFw
  refine bodyPost_ret (v := .agg #[.int .i64 0, .int .i64 0, .slice none 0 0]) ?qres rfl ?qpost
  case qres => simp [results, Try.results10, go_sem, x0, x1, x2]
  case qpost => exact HF.out

end

section
variable {w X : World} {B : Nat} {s : Mo.St} {n : Nat}

/-- Do of any op. -/
theorem Mf.do6 {loc : Nat → Prop} (h : Mf w X B s n loc) (hn : n < 1099511627776) (o : Mo.Op) (ho : OpOk o) :
    Calls Try.prog 10 #[.pointer (some ⟨B, 0, none⟩), .agg #[.int .i64 o.kind, .string o.space, .string o.channel, .string o.user, .string o.text, .string o.toSpace, .string o.to, .int .i64 o.frm, .int .i64 o.most]] X (DoF w X B s n loc o) := by
  by_cases h6 : o.kind = 6
  · refine h.doOf o (fun who bc bo f cs hV => ?_)
    cases hm : Mo.may o with
    | false => exact Do_bad hV o ho hm
    | true => exact Do_6 hV o ho hm h6
  · exact h.do5 hn o ho h6
theorem Mb.do6 {l : List (Nat × Int × Int)} (h : Mb w X B s n l) (hn : n < 1099511627776) (o : Mo.Op) (ho : OpOk o) :
    Calls Try.prog 10 #[.pointer (some ⟨B, 0, none⟩), .agg #[.int .i64 o.kind, .string o.space, .string o.channel, .string o.user, .string o.text, .string o.toSpace, .string o.to, .int .i64 o.frm, .int .i64 o.most]] X (DoB w B s n l o) := by
  obtain ⟨loc, h1, h2⟩ := h
  refine (h1.do6 hn o ho).mono ?_
  rintro e Y ⟨p, m, c, rfl, hm, hr, hM, hk, _⟩
  exact ⟨p, m, c, rfl, hm, hr, _, hM, fun q hq => ⟨.inl (h2 q hq).1, (World.cell?_of_block (a := ⟨q.1, 0, none⟩) (hk _ (h2 q hq).1)).trans (h2 q hq).2.1, (World.cell?_of_block (a := ⟨q.1, 1, none⟩) (hk _ (h2 q hq).1)).trans (h2 q hq).2.2⟩⟩
/-- Beside the caller's own cells; the reply's posts are the caller's, too. -/
theorem Mv.do6 {L : List (Nat × Nat × Value)} (h : Mv w X B s n L) (hn : n < 1099511627776) (o : Mo.Op) (ho : OpOk o) :
    Calls Try.prog 10 #[.pointer (some ⟨B, 0, none⟩), .agg #[.int .i64 o.kind, .string o.space, .string o.channel, .string o.user, .string o.text, .string o.toSpace, .string o.to, .int .i64 o.frm, .int .i64 o.most]] X fun e Y => ∃ p m c, e = .returned (.agg #[.int .i64 (Mo.tells s o).err, .int .i64 (Mo.tells s o).at_, .slice p m c]) ∧ m = (Mo.tells s o).posts.length ∧ RowC Y 2 (.slice p m c) m (poCells (Mo.tells s o).posts) ∧ Mv w Y B (Mo.does s o) (n + 1) L := by
  obtain ⟨loc, h1, h2⟩ := h
  refine (h1.do6 hn o ho).mono ?_
  rintro e Y ⟨p, m, c, rfl, hm, hr, hM, hk, _⟩
  exact ⟨p, m, c, rfl, hm, hr, _, hM, fun q hq => ⟨.inl (h2 q hq).1, (World.cell?_of_block (a := ⟨q.1, q.2.1, none⟩) (hk _ (h2 q hq).1)).trans (h2 q hq).2⟩⟩
end
end Go.Proofs.Ytkioeahlajjmiaa
