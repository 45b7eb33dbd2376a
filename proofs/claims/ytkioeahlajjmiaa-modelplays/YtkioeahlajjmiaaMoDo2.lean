/-
  What a move does; a fresh model's Members and Len.
-/
import Derived.Test.YtkioeahlajjmiaaMoLaw
import Derived.Test.YtkioeahlajjmiaaMoMove
import Derived.Test.YtkioeahlajjmiaaMoMems
namespace Go.Proofs.Ytkioeahlajjmiaa
open Go.RowKit

section
variable {w W : World} {B : Nat} {s : Mo.St} {who : Nat → Nat} {n bc bo : Nat} {f : ByteArray → ByteArray → Option Nat} {cs : Nat → Mo.Ch}

theorem move_c (h : MdV w B s who n bc bo f cs) (hn : n < 1099511627776) (o : Mo.Op) (ho : OpOk o) (hm : Mo.may o = true) (hk : o.kind = 5) :
    Calls Try.prog 30 #[.pointer (some ⟨B, 0, none⟩), .agg #[.int .i64 o.kind, .string o.space, .string o.channel, .string o.user, .string o.text, .string o.toSpace, .string o.to, .int .i64 o.frm, .int .i64 o.most]] w fun e w' => ∃ E who', e = .returned (.int .i64 E) ∧ Mo.tells s o = ⟨E, 0, []⟩ ∧ AftM who w w' B (Mo.does s o) (n + 1) who' := by
  obtain ⟨z1, z2⟩ := may5 hm hk
  have same : Mo.does s o = s → ∀ w', Below w.heap.size w w' → AftM who w w' B (Mo.does s o) (n + 1) who := fun e w' hb => by
    rw [e]
    exact (AftM.same ⟨bc, bo, f, cs, h⟩ hb).more (Nat.le_succ _)
  cases hc : s.ch o.space o.channel with
  | none =>
    refine (move_none h o ho (h.noCh hc)).mono ?_
    rintro e w' ⟨rfl, hb⟩
    exact ⟨3, who, rfl, by simp [Mo.tells, hm, hk, hc], same (by simp [Mo.does, hm, hk, hc]) w' hb⟩
  | some c =>
    obtain ⟨k, hf, hck⟩ := h.hasCh hc
    cases ht : s.ch o.toSpace o.to with
    | some c' =>
      obtain ⟨j, hf', _⟩ := h.hasCh ht
      refine (move_there h o ho hf hf').mono ?_
      rintro e w' ⟨rfl, hb⟩
      exact ⟨90, who, rfl, by simp [Mo.tells, hm, hk, hc, ht], same (by simp [Mo.does, hm, hk, hc, ht]) w' hb⟩
    | none =>
      refine (move_yes h o ho hn z1 z2 hf (h.noCh ht)).mono ?_
      rintro e w' ⟨rfl, ha⟩
      have : Mo.does s o = Mo.setC (Mo.setC s o.space o.channel none) o.toSpace o.to (some c) := by simp [Mo.does, hm, hk, hc, ht]
      refine ⟨0, who, rfl, by simp [Mo.tells, hm, hk, hc, ht], ?_⟩
      rw [this, ← hck]
      exact ha

set_option maxHeartbeats 1600000 in
set_option maxRecDepth 20000 in
theorem Do_5 (h : MdV w B s who n bc bo f cs) (hn : n < 1099511627776) (o : Mo.Op) (ho : OpOk o) (hm : Mo.may o = true) (hk : o.kind = 5) :
    Calls Try.prog 10 #[.pointer (some ⟨B, 0, none⟩), .agg #[.int .i64 o.kind, .string o.space, .string o.channel, .string o.user, .string o.text, .string o.toSpace, .string o.to, .int .i64 o.frm, .int .i64 o.most]] w (DoOut who w B s n o) := by
  obtain ⟨u0, hu0⟩ : ∃ u0, u0 = w.alloc (.cells #[.int .i64 5, .string o.space, .string o.channel, .string o.user, .string o.text, .string o.toSpace, .string o.to, .int .i64 o.frm, .int .i64 o.most] 32) := ⟨_, rfl⟩
  obtain ⟨u, hu⟩ : ∃ u, u = u0.alloc (.cells #[.int .i64 0, .int .i64 0, .slice none 0 0] 29) := ⟨_, rfl⟩
  have hR := RxOf.of w #[.int .i64 5, .string o.space, .string o.channel, .string o.user, .string o.text, .string o.toSpace, .string o.to, .int .i64 o.frm, .int .i64 o.most] hu0 hu
  have hV := h.below hR.below
  have HM : Hid _ := isMade_c hV
  have HR : Hid (RxOf w u #[.int .i64 5, .string o.space, .string o.channel, .string o.user, .string o.text, .string o.toSpace, .string o.to, .int .i64 o.frm, .int .i64 o.most]) := hR
  have HMay : Hid _ := mayBe_c o ho u
  unfold opV at HMay
  rw [hm] at HMay
  have HIn : Hid (∀ X, Below u.heap.size u X → Calls Try.prog 30 #[.pointer (some ⟨B, 0, none⟩), .agg #[.int .i64 5, .string o.space, .string o.channel, .string o.user, .string o.text, .string o.toSpace, .string o.to, .int .i64 o.frm, .int .i64 o.most]] X fun e w' => ∃ E who', e = .returned (.int .i64 E) ∧ Mo.tells s o = ⟨E, 0, []⟩ ∧ AftM who X w' B (Mo.does s o) (n + 1) who') := fun X hX => by
    have q := move_c (hV.below hX) hn o ho hm hk
    rw [hk] at q
    exact q
  have HZ : Hid (∀ i, w.heap.size ≤ i → who i = 0) := fun i hi => by
    by_cases e : who i = 0
    · exact e
    · have := h.here i e
      omega
  rw [hk] at HMay ⊢
  obtain ⟨Q, hQ⟩ : ∃ Q, Q = DoOut who w B s n o := ⟨_, rfl⟩
  rw [← hQ]
  have HQ : Hid (Q = DoOut who w B s n o) := hQ
  clear hQ
  obtain ⟨u0', u1, u2, u3, u4, u5, u6, u7, u8⟩ : u.cell? ⟨w.heap.size, 0, none⟩ = some (.int .i64 5) ∧ u.cell? ⟨w.heap.size, 1, none⟩ = some (.string o.space) ∧ u.cell? ⟨w.heap.size, 2, none⟩ = some (.string o.channel) ∧ u.cell? ⟨w.heap.size, 3, none⟩ = some (.string o.user) ∧ u.cell? ⟨w.heap.size, 4, none⟩ = some (.string o.text) ∧ u.cell? ⟨w.heap.size, 5, none⟩ = some (.string o.toSpace) ∧ u.cell? ⟨w.heap.size, 6, none⟩ = some (.string o.to) ∧ u.cell? ⟨w.heap.size, 7, none⟩ = some (.int .i64 o.frm) ∧ u.cell? ⟨w.heap.size, 8, none⟩ = some (.int .i64 o.most) :=
    ⟨hR.op u (Below.refl _ _) 0, hR.op u (Below.refl _ _) 1, hR.op u (Below.refl _ _) 2, hR.op u (Below.refl _ _) 3, hR.op u (Below.refl _ _) 4, hR.op u (Below.refl _ _) 5, hR.op u (Below.refl _ _) 6, hR.op u (Below.refl _ _) 7, hR.op u (Below.refl _ _) 8⟩
  clear h hV ho hm hR hk hn
  go_enter Try.func10, Try.ntmps10
  go_wp2_with fail
  rw [← hu0, ← hu]
  refine Calls.mono HM.out ?_
  rintro e w1 ⟨rfl, hw1⟩
  have hw1 := hw1.symm
  subst hw1
  clear hu hu0
  go_wp2_with fail
  refine Calls.mono HMay.out ?_
  rintro e Y ⟨rfl, hbY⟩
  have HbY : Hid (Below u.heap.size u Y) := hbY
  obtain ⟨y0, y1, y2, y3, y4, y5, y6, y7, y8⟩ : Y.cell? ⟨w.heap.size, 0, none⟩ = some (.int .i64 5) ∧ Y.cell? ⟨w.heap.size, 1, none⟩ = some (.string o.space) ∧ Y.cell? ⟨w.heap.size, 2, none⟩ = some (.string o.channel) ∧ Y.cell? ⟨w.heap.size, 3, none⟩ = some (.string o.user) ∧ Y.cell? ⟨w.heap.size, 4, none⟩ = some (.string o.text) ∧ Y.cell? ⟨w.heap.size, 5, none⟩ = some (.string o.toSpace) ∧ Y.cell? ⟨w.heap.size, 6, none⟩ = some (.string o.to) ∧ Y.cell? ⟨w.heap.size, 7, none⟩ = some (.int .i64 o.frm) ∧ Y.cell? ⟨w.heap.size, 8, none⟩ = some (.int .i64 o.most) :=
    ⟨HR.out.op Y hbY 0, HR.out.op Y hbY 1, HR.out.op Y hbY 2, HR.out.op Y hbY 3, HR.out.op Y hbY 4, HR.out.op Y hbY 5, HR.out.op Y hbY 6, HR.out.op Y hbY 7, HR.out.op Y hbY 8⟩
  clear hbY u0' u1 u2 u3 u4 u5 u6 u7 u8
  go_wp2_with fail
  refine (HIn.out _ HbY.out).mono ?_
  rintro e X ⟨E, who', rfl, hT, ha⟩
  have HT : Hid _ := hT
  clear hT
  have cX : ∀ j, X.cell? ⟨w.heap.size + 1, j, none⟩ = Y.cell? ⟨w.heap.size + 1, j, none⟩ := fun j => World.cell?_of_block (a := ⟨w.heap.size + 1, j, none⟩) (ha.2.2.block (w.heap.size + 1) (by have := HbY.out.size; have := HR.out.size; omega) (HZ.out _ (Nat.le_succ _)))
  have fX : ∀ j, X.frozen? ⟨w.heap.size + 1, j, none⟩ = Y.frozen? ⟨w.heap.size + 1, j, none⟩ := fun j => World.frozen?_of_block (a := ⟨w.heap.size + 1, j, none⟩) (ha.2.2.block (w.heap.size + 1) (by have := HbY.out.size; have := HR.out.size; omega) (HZ.out _ (Nat.le_succ _)))
  obtain ⟨q0, q1, q2, q3, q4, q5⟩ := HR.out.re Y HbY.out
  have r0 := (cX 0).trans q0
  have r1 := (cX 1).trans q1
  have r2 := (cX 2).trans q2
  have g0 := (fX 0).trans q3
  have g1 := (fX 1).trans q4
  have g2 := (fX 2).trans q5
  have HA : Hid (AftM who Y X B (Mo.does s o) (n + 1) who') := ha
  clear ha cX fX q0 q1 q2 q3 q4 q5 y0 y1 y2 y3 y4 y5 y6 y7 y8
  go_wp2
  obtain ⟨x0, x1, x2⟩ := fin3_cells r0 r1 r2 (.int .i64 E) (.int .i64 0) (.slice none 0 0)
  have HF : Hid (Q (.returned (.agg #[.int .i64 E, .int .i64 0, .slice none 0 0])) (fin3 X (w.heap.size + 1) (.int .i64 E) (.int .i64 0) (.slice none 0 0))) := by
    rw [HQ.out]
    exact DoOut.err HT.out rfl ((AftM.from HbY.out HA.out).fin3 HR.out.below (Nat.le_succ _) (by have := HR.out.size; omega) (HZ.out _ (Nat.le_succ _)) _ _ _)
  obtain ⟨Fw, hFw⟩ : ∃ Fw, Fw = fin3 X (w.heap.size + 1) (.int .i64 E) (.int .i64 0) (.slice none 0 0) := ⟨_, rfl⟩
  rw [← hFw] at x0 x1 x2 HF
  unfold fin3 at hFw
  rw [← hFw]
  clear hFw
  refine bodyPost_ret (v := .agg #[.int .i64 E, .int .i64 0, .slice none 0 0]) ?qres rfl ?qpost
  case qres => simp [results, Try.results10, go_sem, x0, x1, x2]
  case qpost => exact HF.out

end

section
variable {w X : World} {B : Nat} {s : Mo.St} {n : Nat} {l : List (Nat × Int × Int)}

/-- Do of any op but a close. -/
theorem Mf.do5 {loc : Nat → Prop} (h : Mf w X B s n loc) (hn : n < 1099511627776) (o : Mo.Op) (ho : OpOk o) (h6 : o.kind ≠ 6) :
    Calls Try.prog 10 #[.pointer (some ⟨B, 0, none⟩), .agg #[.int .i64 o.kind, .string o.space, .string o.channel, .string o.user, .string o.text, .string o.toSpace, .string o.to, .int .i64 o.frm, .int .i64 o.most]] X (DoF w X B s n loc o) := by
  by_cases h5 : o.kind = 5
  · refine h.doOf o (fun who bc bo f cs hV => ?_)
    cases hm : Mo.may o with
    | false => exact Do_bad hV o ho hm
    | true => exact Do_5 hV hn o ho hm h5
  · exact h.doC hn o ho h5 h6
theorem Mb.do5 (h : Mb w X B s n l) (hn : n < 1099511627776) (o : Mo.Op) (ho : OpOk o) (h6 : o.kind ≠ 6) :
    Calls Try.prog 10 #[.pointer (some ⟨B, 0, none⟩), .agg #[.int .i64 o.kind, .string o.space, .string o.channel, .string o.user, .string o.text, .string o.toSpace, .string o.to, .int .i64 o.frm, .int .i64 o.most]] X (DoB w B s n l o) := by
  obtain ⟨loc, h1, h2⟩ := h
  refine (h1.do5 hn o ho h6).mono ?_
  rintro e Y ⟨p, m, c, rfl, hm, hr, hM, hk, _⟩
  exact ⟨p, m, c, rfl, hm, hr, _, hM, fun q hq => ⟨.inl (h2 q hq).1, (World.cell?_of_block (a := ⟨q.1, 0, none⟩) (hk _ (h2 q hq).1)).trans (h2 q hq).2.1, (World.cell?_of_block (a := ⟨q.1, 1, none⟩) (hk _ (h2 q hq).1)).trans (h2 q hq).2.2⟩⟩

theorem Mb.members (h : Mb w X B s n l) (hn : n < 1099511627776) {x y : ByteArray} {ch : Mo.Ch} (hx : Ok x) (hy : Ok y) (hs : s.ch x y = some ch) {T : List ByteArray} (hnd : T.Nodup) (hT : ∀ a, a ∈ T ↔ (Ok a ∧ ch.mem a = true)) :
    Calls Try.prog 12 #[.pointer (some ⟨B, 0, none⟩), .string x, .string y] X fun e Y => ∃ p m c, e = .returned (.tuple #[.slice p m c, .int .i64 0]) ∧ StrV Y (.slice p m c) (risen T) ∧ (∀ a, p = some a → X.heap.size ≤ a.block) ∧ Below X.heap.size X Y := by
  obtain ⟨loc, ⟨who, ⟨bc, bo, f, cs, h1⟩, _⟩, _⟩ := h
  obtain ⟨k, hf, hck⟩ := h1.hasCh hs
  exact Members_c h1 hn hx hy hf hnd (by rw [hck]; exact hT)
theorem Mb.lenC (h : Mb w X B s n l) {x y : ByteArray} {ch : Mo.Ch} (hx : Ok x) (hy : Ok y) (hs : s.ch x y = some ch) :
    Calls Try.prog 17 #[.pointer (some ⟨B, 0, none⟩), .string x, .string y] X fun e Y => e = .returned (.tuple #[.int .i64 (ch.posts.length : Int), .int .i64 0]) ∧ Y = X := by
  obtain ⟨loc, ⟨who, ⟨bc, bo, f, cs, h1⟩, _⟩, _⟩ := h
  obtain ⟨k, hf, hck⟩ := h1.hasCh hs
  rw [← hck]
  exact Len_c h1 hx hy hf
end
end Go.Proofs.Ytkioeahlajjmiaa
