/-
  What an op does, by its kind.
-/
import Derived.Test.YtkioeahlajjmiaaMoRd
import Derived.Test.YtkioeahlajjmiaaMoMay
namespace Go.Proofs.Ytkioeahlajjmiaa
open Go.RowKit

theorem may1 {o : Mo.Op} (h : Mo.may o = true) (hk : o.kind = 1) : o.space.size ≤ 16 ∧ o.channel.size ≤ 16 := by
  unfold Mo.may at h
  rw [if_pos hk] at h
  simp [Mo.labels] at h
  exact ⟨Mo.label_size h.1.1, Mo.label_size h.1.2⟩
theorem may2 {o : Mo.Op} (h : Mo.may o = true) (hk : o.kind = 2) : o.user.size ≤ 16 := by
  unfold Mo.may at h
  rw [if_neg (by omega), if_pos hk] at h
  simp [Mo.labels] at h
  exact Mo.label_size h.1.2.2
theorem may3 {o : Mo.Op} (h : Mo.may o = true) (hk : o.kind = 3) : o.user.size ≤ 1024 ∧ o.text.size ≤ 1024 := by
  unfold Mo.may at h
  rw [if_neg (by omega), if_neg (by omega), if_pos hk] at h
  simp [Mo.labels, Mo.postable] at h
  have := Mo.label_size h.1.1.2.2
  exact ⟨by omega, h.1.2.1⟩
theorem may4 {o : Mo.Op} (h : Mo.may o = true) (hk : o.kind = 4) : 0 ≤ o.frm ∧ 0 ≤ o.most ∧ o.most ≤ 64 := by
  unfold Mo.may at h
  rw [if_neg (by omega), if_neg (by omega), if_neg (by omega), if_pos hk] at h
  simp [Mo.within] at h
  exact ⟨h.1.1.2.1, h.1.2.1, h.1.2.2⟩
theorem may5 {o : Mo.Op} (h : Mo.may o = true) (hk : o.kind = 5) : o.toSpace.size ≤ 16 ∧ o.to.size ≤ 16 := by
  unfold Mo.may at h
  rw [if_neg (by omega), if_neg (by omega), if_neg (by omega), if_neg (by omega), if_pos hk] at h
  simp [Mo.labels] at h
  exact ⟨Mo.label_size h.1.2.2.1, Mo.label_size h.1.2.2.2⟩
theorem may7 {o : Mo.Op} (h : Mo.may o = true) (hk : o.kind = 7) : o.user.size ≤ 16 := by
  unfold Mo.may at h
  rw [if_neg (by omega), if_neg (by omega), if_neg (by omega), if_neg (by omega), if_neg (by omega), if_neg (by omega), if_pos hk] at h
  simp [Mo.labels] at h
  exact Mo.label_size h.1

/-- What a model's reply is, and what it leaves. -/
def DoOut (who : Nat → Nat) (w : World) (B : Nat) (s : Mo.St) (n : Nat) (o : Mo.Op) (e : Ending) (w' : World) : Prop :=
  ∃ v who', e = .returned (.agg #[.int .i64 (Mo.tells s o).err, .int .i64 (Mo.tells s o).at_, v]) ∧ RowC w' 2 v (Mo.tells s o).posts.length (poCells (Mo.tells s o).posts) ∧ (∀ g, cBlk v = some g → w.heap.size ≤ g ∧ who' g = 0) ∧ AftM who w w' B (Mo.does s o) (n + 1) who'

section
variable {w W : World} {B : Nat} {s : Mo.St} {who : Nat → Nat} {n bc bo : Nat} {f : ByteArray → ByteArray → Option Nat} {cs : Nat → Mo.Ch}

theorem DoOut.err {o : Mo.Op} {e : Ending} {w' : World} {E : Int} {who' : Nat → Nat} (ht : Mo.tells s o = ⟨E, 0, []⟩) (he : e = .returned (.agg #[.int .i64 E, .int .i64 0, .slice none 0 0])) (ha : AftM who w w' B (Mo.does s o) (n + 1) who') : DoOut who w B s n o e w' := by
  refine ⟨.slice none 0 0, who', by rw [ht]; exact he, ?_, fun g hg => by simp [cBlk] at hg, ha⟩
  rw [ht]
  exact RowC.nil _ _ _

theorem make_c (h : MdV w B s who n bc bo f cs) (hn : n < 1099511627776) (o : Mo.Op) (ho : OpOk o) (hm : Mo.may o = true) (hk : o.kind = 1) :
    Calls Try.prog 26 #[.pointer (some ⟨B, 0, none⟩), .agg #[.int .i64 o.kind, .string o.space, .string o.channel, .string o.user, .string o.text, .string o.toSpace, .string o.to, .int .i64 o.frm, .int .i64 o.most]] w fun e w' => ∃ E who', e = .returned (.int .i64 E) ∧ Mo.tells s o = ⟨E, 0, []⟩ ∧ AftM who w w' B (Mo.does s o) (n + 1) who' := by
  obtain ⟨z1, z2⟩ := may1 hm hk
  cases hc : s.ch o.space o.channel with
  | none =>
    refine (make_new h hn o ho.1 ho.2.1 z1 z2 (h.noCh hc)).mono ?_
    rintro e w' ⟨rfl, who', ha⟩
    refine ⟨0, who', rfl, by simp [Mo.tells, hm, hk, hc], ?_⟩
    have : Mo.does s o = Mo.setC s o.space o.channel (some Mo.newC) := by simp [Mo.does, hm, hk, hc]
    rw [this]
    exact ha
  | some c =>
    obtain ⟨k, hf, _⟩ := h.hasCh hc
    refine (make_there h o ho.1 ho.2.1 hf).mono ?_
    rintro e w' ⟨rfl, hb⟩
    have : Mo.does s o = s := by simp [Mo.does, hm, hk, hc]
    refine ⟨90, who, rfl, by simp [Mo.tells, hm, hk, hc], ?_⟩
    rw [this]
    exact (AftM.same ⟨bc, bo, f, cs, h⟩ hb).more (Nat.le_succ _)

theorem join_c (h : MdV w B s who n bc bo f cs) (hn : n < 1099511627776) (o : Mo.Op) (ho : OpOk o) (hm : Mo.may o = true) (hk : o.kind = 2) :
    Calls Try.prog 27 #[.pointer (some ⟨B, 0, none⟩), .agg #[.int .i64 o.kind, .string o.space, .string o.channel, .string o.user, .string o.text, .string o.toSpace, .string o.to, .int .i64 o.frm, .int .i64 o.most]] w fun e w' => ∃ E who', e = .returned (.int .i64 E) ∧ Mo.tells s o = ⟨E, 0, []⟩ ∧ AftM who w w' B (Mo.does s o) (n + 1) who' := by
  have z1 := may2 hm hk
  have same : Mo.does s o = s → ∀ w', Below w.heap.size w w' → AftM who w w' B (Mo.does s o) (n + 1) who := fun e w' hb => by
    rw [e]
    exact (AftM.same ⟨bc, bo, f, cs, h⟩ hb).more (Nat.le_succ _)
  cases hc : s.ch o.space o.channel with
  | none =>
    refine (join_none h o ho (h.noCh hc)).mono ?_
    rintro e w' ⟨rfl, hb⟩
    exact ⟨3, who, rfl, by simp [Mo.tells, hm, hk, hc], same (by simp [Mo.does, hm, hk, hc]) w' hb⟩
  | some c =>
    obtain ⟨k, hf, hck⟩ := h.hasCh hc
    cases hof : s.off o.user with
    | true =>
      refine (join_off h o ho hf hof).mono ?_
      rintro e w' ⟨rfl, hb⟩
      exact ⟨92, who, rfl, by simp [Mo.tells, hm, hk, hc, hof], same (by simp [Mo.does, hm, hk, hc, hof]) w' hb⟩
    | false =>
      cases hmm : c.mem o.user with
      | true =>
        refine (join_there h o ho hf hof (by rw [hck]; exact hmm)).mono ?_
        rintro e w' ⟨rfl, hb⟩
        exact ⟨90, who, rfl, by simp [Mo.tells, hm, hk, hc, hof, hmm], same (by simp [Mo.does, hm, hk, hc, hof, hmm]) w' hb⟩
      | false =>
        refine (join_yes h o ho hn z1 hf hof (by rw [hck]; exact hmm)).mono ?_
        rintro e w' ⟨rfl, who', ha⟩
        refine ⟨0, who', rfl, by simp [Mo.tells, hm, hk, hc, hof, hmm], ?_⟩
        have : Mo.does s o = Mo.setC s o.space o.channel (some (Mo.withM c o.user)) := by simp [Mo.does, hm, hk, hc, hof, hmm]
        rw [this, ← hck]
        exact ha

/-- What an inner call that answers a reply leaves. -/
def ReOut (who : Nat → Nat) (w : World) (B : Nat) (s : Mo.St) (n : Nat) (o : Mo.Op) (e : Ending) (w' : World) : Prop :=
  ∃ E A v who', e = .returned (.agg #[.int .i64 E, .int .i64 A, v]) ∧ (Mo.tells s o).err = E ∧ (Mo.tells s o).at_ = A ∧ RowC w' 2 v (Mo.tells s o).posts.length (poCells (Mo.tells s o).posts) ∧ (∀ g, cBlk v = some g → w.heap.size ≤ g ∧ who' g = 0) ∧ AftM who w w' B (Mo.does s o) (n + 1) who'

theorem ReOut.err {o : Mo.Op} {e : Ending} {w' : World} {E A : Int} {who' : Nat → Nat} (ht : Mo.tells s o = ⟨E, A, []⟩) (he : e = .returned (.agg #[.int .i64 E, .int .i64 A, .slice none 0 0])) (ha : AftM who w w' B (Mo.does s o) (n + 1) who') : ReOut who w B s n o e w' := by
  refine ⟨E, A, .slice none 0 0, who', he, by rw [ht], by rw [ht], ?_, fun g hg => by simp [cBlk] at hg, ha⟩
  rw [ht]
  exact RowC.nil _ _ _

theorem post_c (h : MdV w B s who n bc bo f cs) (o : Mo.Op) (ho : OpOk o) (hm : Mo.may o = true) (hk : o.kind = 3) :
    Calls Try.prog 28 #[.pointer (some ⟨B, 0, none⟩), .agg #[.int .i64 o.kind, .string o.space, .string o.channel, .string o.user, .string o.text, .string o.toSpace, .string o.to, .int .i64 o.frm, .int .i64 o.most]] w (ReOut who w B s n o) := by
  obtain ⟨z1, z2⟩ := may3 hm hk
  have same : Mo.does s o = s → ∀ w', Below w.heap.size w w' → AftM who w w' B (Mo.does s o) (n + 1) who := fun e w' hb => by
    rw [e]
    exact (AftM.same ⟨bc, bo, f, cs, h⟩ hb).more (Nat.le_succ _)
  cases hc : s.ch o.space o.channel with
  | none =>
    refine (post_none h o ho (h.noCh hc)).mono ?_
    rintro e w' ⟨he, hb⟩
    exact ReOut.err (by simp [Mo.tells, hm, hk, hc]) he (same (by simp [Mo.does, hm, hk, hc]) w' hb)
  | some c =>
    obtain ⟨k, hf, hck⟩ := h.hasCh hc
    by_cases hz : Mo.mayPost s c o.user = 0
    · have hlt : c.posts.length < 1024 := by
        unfold Mo.mayPost at hz
        split at hz
        · cases hz
        · split at hz
          · cases hz
          · split at hz
            · cases hz
            · omega
      refine (post_yes h o ho z1 z2 hf (by rw [hck]; exact hz) (by rw [hck]; exact hlt)).mono ?_
      rintro e w' ⟨he, who', ha⟩
      rw [hck] at he ha
      have : Mo.does s o = Mo.setC s o.space o.channel (some (Mo.withP c ⟨o.user, o.text⟩)) := by simp [Mo.does, hm, hk, hc, hz]
      exact ReOut.err (by simp [Mo.tells, hm, hk, hc, hz]) he (by rw [this]; exact ha)
    · refine (post_no h o ho hf (by rw [hck]) hz).mono ?_
      rintro e w' ⟨he, hb⟩
      exact ReOut.err (by simp [Mo.tells, hm, hk, hc, hz]) he (same (by simp [Mo.does, hm, hk, hc, hz]) w' hb)

theorem read_c (h : MdV w B s who n bc bo f cs) (o : Mo.Op) (ho : OpOk o) (hm : Mo.may o = true) (hk : o.kind = 4) :
    Calls Try.prog 29 #[.pointer (some ⟨B, 0, none⟩), .agg #[.int .i64 o.kind, .string o.space, .string o.channel, .string o.user, .string o.text, .string o.toSpace, .string o.to, .int .i64 o.frm, .int .i64 o.most]] w (ReOut who w B s n o) := by
  obtain ⟨z1, z2, z3⟩ := may4 hm hk
  have hd : Mo.does s o = s := by simp [Mo.does, hm, hk]
  have same : ∀ w', Below w.heap.size w w' → AftM who w w' B (Mo.does s o) (n + 1) who := fun w' hb => by
    rw [hd]
    exact (AftM.same ⟨bc, bo, f, cs, h⟩ hb).more (Nat.le_succ _)
  cases hc : s.ch o.space o.channel with
  | none =>
    refine (read_none h o ho (h.noCh hc)).mono ?_
    rintro e w' ⟨he, hb⟩
    exact ReOut.err (by simp [Mo.tells, hm, hk, hc]) he (same w' hb)
  | some c =>
    obtain ⟨k, hf, hck⟩ := h.hasCh hc
    refine (read_yes h o ho z1 z2 z3 hf).mono ?_
    rintro e w' ⟨v, he, hr, hg, hb⟩
    rw [hck] at he hr
    have ht : Mo.tells s o = ⟨0, (Mo.endN o c : Int), (c.posts.drop (Mo.frmN o c)).take (Mo.endN o c - Mo.frmN o c)⟩ := by simp [Mo.tells, hm, hk, hc]
    refine ⟨0, (Mo.endN o c : Int), v, who, he, by rw [ht], by rw [ht], by rw [ht]; exact hr, fun g hg' => ⟨hg g hg', ?_⟩, same w' hb⟩
    by_cases q : who g = 0
    · exact q
    · have := h.here g q
      have := hg g hg'
      omega

theorem off_c (h : MdV w B s who n bc bo f cs) (hn : n < 1099511627776) (o : Mo.Op) (ho : OpOk o) (hm : Mo.may o = true) (hk : o.kind = 7) :
    Calls Try.prog 32 #[.pointer (some ⟨B, 0, none⟩), .string o.user] w fun e w' => ∃ E who', e = .returned (.int .i64 E) ∧ Mo.tells s o = ⟨E, 0, []⟩ ∧ AftM who w w' B (Mo.does s o) (n + 1) who' := by
  have z1 := may7 hm hk
  cases hof : s.off o.user with
  | true =>
    refine (off_there h ho.2.2.1 hof).mono ?_
    rintro e w' ⟨rfl, hb⟩
    have : Mo.does s o = s := by simp [Mo.does, hm, hk, hof]
    refine ⟨92, who, rfl, by simp [Mo.tells, hm, hk, hof], ?_⟩
    rw [this]
    exact (AftM.same ⟨bc, bo, f, cs, h⟩ hb).more (Nat.le_succ _)
  | false =>
    refine (off_yes h hn z1 hof).mono ?_
    rintro e w' ⟨rfl, ha⟩
    have : Mo.does s o = ⟨fun a b => (s.ch a b).map (Mo.lessM · o.user), fun x => if x = o.user then true else s.off x⟩ := by simp [Mo.does, hm, hk, hof]
    refine ⟨0, who, rfl, by simp [Mo.tells, hm, hk, hof], ?_⟩
    rw [this]
    exact ha

set_option maxHeartbeats 1600000 in
set_option maxRecDepth 20000 in
theorem Do_bad (h : MdV w B s who n bc bo f cs) (o : Mo.Op) (ho : OpOk o) (hm : Mo.may o = false) :
    Calls Try.prog 10 #[.pointer (some ⟨B, 0, none⟩), .agg #[.int .i64 o.kind, .string o.space, .string o.channel, .string o.user, .string o.text, .string o.toSpace, .string o.to, .int .i64 o.frm, .int .i64 o.most]] w (DoOut who w B s n o) := by
  obtain ⟨u0, hu0⟩ : ∃ u0, u0 = w.alloc (.cells #[.int .i64 o.kind, .string o.space, .string o.channel, .string o.user, .string o.text, .string o.toSpace, .string o.to, .int .i64 o.frm, .int .i64 o.most] 32) := ⟨_, rfl⟩
  obtain ⟨u, hu⟩ : ∃ u, u = u0.alloc (.cells #[.int .i64 0, .int .i64 0, .slice none 0 0] 29) := ⟨_, rfl⟩
  have hR := RxOf.of w #[.int .i64 o.kind, .string o.space, .string o.channel, .string o.user, .string o.text, .string o.toSpace, .string o.to, .int .i64 o.frm, .int .i64 o.most] hu0 hu
  have hV := h.below hR.below
  have HM : Hid _ := isMade_c hV
  have HR : Hid (RxOf w u #[.int .i64 o.kind, .string o.space, .string o.channel, .string o.user, .string o.text, .string o.toSpace, .string o.to, .int .i64 o.frm, .int .i64 o.most]) := hR
  have HMay : Hid _ := mayBe_c o ho u
  unfold opV at HMay
  rw [hm] at HMay
  have HT : Hid (Mo.tells s o = ⟨1, 0, []⟩ ∧ Mo.does s o = s) := ⟨by simp [Mo.tells, hm], by simp [Mo.does, hm]⟩
  have HMd : Hid (Md w B s who n) := ⟨bc, bo, f, cs, h⟩
  obtain ⟨Q, hQ⟩ : ∃ Q, Q = DoOut who w B s n o := ⟨_, rfl⟩
  rw [← hQ]
  have HQ : Hid (Q = DoOut who w B s n o) := hQ
  clear hQ
  obtain ⟨u0', u1, u2, u3, u4, u5, u6, u7, u8⟩ : u.cell? ⟨w.heap.size, 0, none⟩ = some (.int .i64 o.kind) ∧ u.cell? ⟨w.heap.size, 1, none⟩ = some (.string o.space) ∧ u.cell? ⟨w.heap.size, 2, none⟩ = some (.string o.channel) ∧ u.cell? ⟨w.heap.size, 3, none⟩ = some (.string o.user) ∧ u.cell? ⟨w.heap.size, 4, none⟩ = some (.string o.text) ∧ u.cell? ⟨w.heap.size, 5, none⟩ = some (.string o.toSpace) ∧ u.cell? ⟨w.heap.size, 6, none⟩ = some (.string o.to) ∧ u.cell? ⟨w.heap.size, 7, none⟩ = some (.int .i64 o.frm) ∧ u.cell? ⟨w.heap.size, 8, none⟩ = some (.int .i64 o.most) :=
    ⟨hR.op u (Below.refl _ _) 0, hR.op u (Below.refl _ _) 1, hR.op u (Below.refl _ _) 2, hR.op u (Below.refl _ _) 3, hR.op u (Below.refl _ _) 4, hR.op u (Below.refl _ _) 5, hR.op u (Below.refl _ _) 6, hR.op u (Below.refl _ _) 7, hR.op u (Below.refl _ _) 8⟩
  clear h hV ho hm hR
  go_enter Try.func10, Try.ntmps10
  go_wp2_with fail
  rw [← hu0, ← hu]
  refine Calls.mono HM.out ?_
  rintro e w1 ⟨rfl, hw1⟩
  have hw1 := hw1.symm
  subst hw1
  clear hu hu0
  go_wp2_with fail
  refine Calls.mono HMay.out ?_
  rintro e Y ⟨rfl, hbY⟩
  have HbY : Hid (Below u.heap.size u Y) := hbY
  obtain ⟨y0, y1, y2, y3, y4, y5, y6, y7, y8⟩ : Y.cell? ⟨w.heap.size, 0, none⟩ = some (.int .i64 o.kind) ∧ Y.cell? ⟨w.heap.size, 1, none⟩ = some (.string o.space) ∧ Y.cell? ⟨w.heap.size, 2, none⟩ = some (.string o.channel) ∧ Y.cell? ⟨w.heap.size, 3, none⟩ = some (.string o.user) ∧ Y.cell? ⟨w.heap.size, 4, none⟩ = some (.string o.text) ∧ Y.cell? ⟨w.heap.size, 5, none⟩ = some (.string o.toSpace) ∧ Y.cell? ⟨w.heap.size, 6, none⟩ = some (.string o.to) ∧ Y.cell? ⟨w.heap.size, 7, none⟩ = some (.int .i64 o.frm) ∧ Y.cell? ⟨w.heap.size, 8, none⟩ = some (.int .i64 o.most) :=
    ⟨HR.out.op Y hbY 0, HR.out.op Y hbY 1, HR.out.op Y hbY 2, HR.out.op Y hbY 3, HR.out.op Y hbY 4, HR.out.op Y hbY 5, HR.out.op Y hbY 6, HR.out.op Y hbY 7, HR.out.op Y hbY 8⟩
  clear hbY u0' u1 u2 u3 u4 u5 u6 u7 u8
  obtain ⟨r0, r1, r2, g0, g1, g2⟩ := HR.out.re Y HbY.out
  go_wp2
  obtain ⟨x0, x1, x2⟩ := fin3_cells r0 r1 r2 (.int .i64 1) (.int .i64 0) (.slice none 0 0)
  have HF : Hid (Q (.returned (.agg #[.int .i64 1, .int .i64 0, .slice none 0 0])) (fin3 Y (w.heap.size + 1) (.int .i64 1) (.int .i64 0) (.slice none 0 0))) := by
    rw [HQ.out]
    refine DoOut.err (who' := who) HT.out.1 rfl ?_
    rw [HT.out.2]
    exact (AftM.same HMd.out (fin3_below (HR.out.below.trans (HbY.out.mono HR.out.below.size)) (Nat.le_succ _) _ _ _)).more (Nat.le_succ _)
  obtain ⟨Fw, hFw⟩ : ∃ Fw, Fw = fin3 Y (w.heap.size + 1) (.int .i64 1) (.int .i64 0) (.slice none 0 0) := ⟨_, rfl⟩
  rw [← hFw] at x0 x1 x2 HF
  unfold fin3 at hFw
  rw [← hFw]
  clear hFw
  refine bodyPost_ret (v := .agg #[.int .i64 1, .int .i64 0, .slice none 0 0]) ?qres rfl ?qpost
  case qres => simp [results, Try.results10, go_sem, x0, x1, x2]
  case qpost => exact HF.out

set_option maxHeartbeats 1600000 in
set_option maxRecDepth 20000 in
theorem Do_1 (h : MdV w B s who n bc bo f cs) (hn : n < 1099511627776) (o : Mo.Op) (ho : OpOk o) (hm : Mo.may o = true) (hk : o.kind = 1) :
    Calls Try.prog 10 #[.pointer (some ⟨B, 0, none⟩), .agg #[.int .i64 o.kind, .string o.space, .string o.channel, .string o.user, .string o.text, .string o.toSpace, .string o.to, .int .i64 o.frm, .int .i64 o.most]] w (DoOut who w B s n o) := by
  obtain ⟨u0, hu0⟩ : ∃ u0, u0 = w.alloc (.cells #[.int .i64 1, .string o.space, .string o.channel, .string o.user, .string o.text, .string o.toSpace, .string o.to, .int .i64 o.frm, .int .i64 o.most] 32) := ⟨_, rfl⟩
  obtain ⟨u, hu⟩ : ∃ u, u = u0.alloc (.cells #[.int .i64 0, .int .i64 0, .slice none 0 0] 29) := ⟨_, rfl⟩
  have hR := RxOf.of w #[.int .i64 1, .string o.space, .string o.channel, .string o.user, .string o.text, .string o.toSpace, .string o.to, .int .i64 o.frm, .int .i64 o.most] hu0 hu
  have hV := h.below hR.below
  have HM : Hid _ := isMade_c hV
  have HR : Hid (RxOf w u #[.int .i64 1, .string o.space, .string o.channel, .string o.user, .string o.text, .string o.toSpace, .string o.to, .int .i64 o.frm, .int .i64 o.most]) := hR
  have HMay : Hid _ := mayBe_c o ho u
  unfold opV at HMay
  rw [hm] at HMay
  have HIn : Hid (∀ X, Below u.heap.size u X → Calls Try.prog 26 #[.pointer (some ⟨B, 0, none⟩), .agg #[.int .i64 1, .string o.space, .string o.channel, .string o.user, .string o.text, .string o.toSpace, .string o.to, .int .i64 o.frm, .int .i64 o.most]] X fun e w' => ∃ E who', e = .returned (.int .i64 E) ∧ Mo.tells s o = ⟨E, 0, []⟩ ∧ AftM who X w' B (Mo.does s o) (n + 1) who') := fun X hX => by
    have q := make_c (hV.below hX) hn o ho hm hk
    rw [hk] at q
    exact q
  have HZ : Hid (∀ i, w.heap.size ≤ i → who i = 0) := fun i hi => by
    by_cases e : who i = 0
    · exact e
    · have := h.here i e
      omega
  rw [hk] at HMay ⊢
  obtain ⟨Q, hQ⟩ : ∃ Q, Q = DoOut who w B s n o := ⟨_, rfl⟩
  rw [← hQ]
  have HQ : Hid (Q = DoOut who w B s n o) := hQ
  clear hQ
  obtain ⟨u0', u1, u2, u3, u4, u5, u6, u7, u8⟩ : u.cell? ⟨w.heap.size, 0, none⟩ = some (.int .i64 1) ∧ u.cell? ⟨w.heap.size, 1, none⟩ = some (.string o.space) ∧ u.cell? ⟨w.heap.size, 2, none⟩ = some (.string o.channel) ∧ u.cell? ⟨w.heap.size, 3, none⟩ = some (.string o.user) ∧ u.cell? ⟨w.heap.size, 4, none⟩ = some (.string o.text) ∧ u.cell? ⟨w.heap.size, 5, none⟩ = some (.string o.toSpace) ∧ u.cell? ⟨w.heap.size, 6, none⟩ = some (.string o.to) ∧ u.cell? ⟨w.heap.size, 7, none⟩ = some (.int .i64 o.frm) ∧ u.cell? ⟨w.heap.size, 8, none⟩ = some (.int .i64 o.most) :=
    ⟨hR.op u (Below.refl _ _) 0, hR.op u (Below.refl _ _) 1, hR.op u (Below.refl _ _) 2, hR.op u (Below.refl _ _) 3, hR.op u (Below.refl _ _) 4, hR.op u (Below.refl _ _) 5, hR.op u (Below.refl _ _) 6, hR.op u (Below.refl _ _) 7, hR.op u (Below.refl _ _) 8⟩
  clear h hV ho hm hR hk hn
  go_enter Try.func10, Try.ntmps10
  go_wp2_with fail
  rw [← hu0, ← hu]
  refine Calls.mono HM.out ?_
  rintro e w1 ⟨rfl, hw1⟩
  have hw1 := hw1.symm
  subst hw1
  clear hu hu0
  go_wp2_with fail
  refine Calls.mono HMay.out ?_
  rintro e Y ⟨rfl, hbY⟩
  have HbY : Hid (Below u.heap.size u Y) := hbY
  obtain ⟨y0, y1, y2, y3, y4, y5, y6, y7, y8⟩ : Y.cell? ⟨w.heap.size, 0, none⟩ = some (.int .i64 1) ∧ Y.cell? ⟨w.heap.size, 1, none⟩ = some (.string o.space) ∧ Y.cell? ⟨w.heap.size, 2, none⟩ = some (.string o.channel) ∧ Y.cell? ⟨w.heap.size, 3, none⟩ = some (.string o.user) ∧ Y.cell? ⟨w.heap.size, 4, none⟩ = some (.string o.text) ∧ Y.cell? ⟨w.heap.size, 5, none⟩ = some (.string o.toSpace) ∧ Y.cell? ⟨w.heap.size, 6, none⟩ = some (.string o.to) ∧ Y.cell? ⟨w.heap.size, 7, none⟩ = some (.int .i64 o.frm) ∧ Y.cell? ⟨w.heap.size, 8, none⟩ = some (.int .i64 o.most) :=
    ⟨HR.out.op Y hbY 0, HR.out.op Y hbY 1, HR.out.op Y hbY 2, HR.out.op Y hbY 3, HR.out.op Y hbY 4, HR.out.op Y hbY 5, HR.out.op Y hbY 6, HR.out.op Y hbY 7, HR.out.op Y hbY 8⟩
  clear hbY u0' u1 u2 u3 u4 u5 u6 u7 u8
  go_wp2_with fail
  refine (HIn.out _ HbY.out).mono ?_
  rintro e X ⟨E, who', rfl, hT, ha⟩
  have HT : Hid _ := hT
  clear hT
  have cX : ∀ j, X.cell? ⟨w.heap.size + 1, j, none⟩ = Y.cell? ⟨w.heap.size + 1, j, none⟩ := fun j => World.cell?_of_block (a := ⟨w.heap.size + 1, j, none⟩) (ha.2.2.block (w.heap.size + 1) (by have := HbY.out.size; have := HR.out.size; omega) (HZ.out _ (Nat.le_succ _)))
  have fX : ∀ j, X.frozen? ⟨w.heap.size + 1, j, none⟩ = Y.frozen? ⟨w.heap.size + 1, j, none⟩ := fun j => World.frozen?_of_block (a := ⟨w.heap.size + 1, j, none⟩) (ha.2.2.block (w.heap.size + 1) (by have := HbY.out.size; have := HR.out.size; omega) (HZ.out _ (Nat.le_succ _)))
  obtain ⟨q0, q1, q2, q3, q4, q5⟩ := HR.out.re Y HbY.out
  have r0 := (cX 0).trans q0
  have r1 := (cX 1).trans q1
  have r2 := (cX 2).trans q2
  have g0 := (fX 0).trans q3
  have g1 := (fX 1).trans q4
  have g2 := (fX 2).trans q5
  have HA : Hid (AftM who Y X B (Mo.does s o) (n + 1) who') := ha
  clear ha cX fX q0 q1 q2 q3 q4 q5 y0 y1 y2 y3 y4 y5 y6 y7 y8
  go_wp2
  obtain ⟨x0, x1, x2⟩ := fin3_cells r0 r1 r2 (.int .i64 E) (.int .i64 0) (.slice none 0 0)
  have HF : Hid (Q (.returned (.agg #[.int .i64 E, .int .i64 0, .slice none 0 0])) (fin3 X (w.heap.size + 1) (.int .i64 E) (.int .i64 0) (.slice none 0 0))) := by
    rw [HQ.out]
    exact DoOut.err HT.out rfl ((AftM.from HbY.out HA.out).fin3 HR.out.below (Nat.le_succ _) (by have := HR.out.size; omega) (HZ.out _ (Nat.le_succ _)) _ _ _)
  obtain ⟨Fw, hFw⟩ : ∃ Fw, Fw = fin3 X (w.heap.size + 1) (.int .i64 E) (.int .i64 0) (.slice none 0 0) := ⟨_, rfl⟩
  rw [← hFw] at x0 x1 x2 HF
  unfold fin3 at hFw
  rw [← hFw]
  clear hFw
  refine bodyPost_ret (v := .agg #[.int .i64 E, .int .i64 0, .slice none 0 0]) ?qres rfl ?qpost
  case qres => simp [results, Try.results10, go_sem, x0, x1, x2]
  case qpost => exact HF.out

set_option maxHeartbeats 1600000 in
set_option maxRecDepth 20000 in
theorem Do_2 (h : MdV w B s who n bc bo f cs) (hn : n < 1099511627776) (o : Mo.Op) (ho : OpOk o) (hm : Mo.may o = true) (hk : o.kind = 2) :
    Calls Try.prog 10 #[.pointer (some ⟨B, 0, none⟩), .agg #[.int .i64 o.kind, .string o.space, .string o.channel, .string o.user, .string o.text, .string o.toSpace, .string o.to, .int .i64 o.frm, .int .i64 o.most]] w (DoOut who w B s n o) := by
  obtain ⟨u0, hu0⟩ : ∃ u0, u0 = w.alloc (.cells #[.int .i64 2, .string o.space, .string o.channel, .string o.user, .string o.text, .string o.toSpace, .string o.to, .int .i64 o.frm, .int .i64 o.most] 32) := ⟨_, rfl⟩
  obtain ⟨u, hu⟩ : ∃ u, u = u0.alloc (.cells #[.int .i64 0, .int .i64 0, .slice none 0 0] 29) := ⟨_, rfl⟩
  have hR := RxOf.of w #[.int .i64 2, .string o.space, .string o.channel, .string o.user, .string o.text, .string o.toSpace, .string o.to, .int .i64 o.frm, .int .i64 o.most] hu0 hu
  have hV := h.below hR.below
  have HM : Hid _ := isMade_c hV
  have HR : Hid (RxOf w u #[.int .i64 2, .string o.space, .string o.channel, .string o.user, .string o.text, .string o.toSpace, .string o.to, .int .i64 o.frm, .int .i64 o.most]) := hR
  have HMay : Hid _ := mayBe_c o ho u
  unfold opV at HMay
  rw [hm] at HMay
  have HIn : Hid (∀ X, Below u.heap.size u X → Calls Try.prog 27 #[.pointer (some ⟨B, 0, none⟩), .agg #[.int .i64 2, .string o.space, .string o.channel, .string o.user, .string o.text, .string o.toSpace, .string o.to, .int .i64 o.frm, .int .i64 o.most]] X fun e w' => ∃ E who', e = .returned (.int .i64 E) ∧ Mo.tells s o = ⟨E, 0, []⟩ ∧ AftM who X w' B (Mo.does s o) (n + 1) who') := fun X hX => by
    have q := join_c (hV.below hX) hn o ho hm hk
    rw [hk] at q
    exact q
  have HZ : Hid (∀ i, w.heap.size ≤ i → who i = 0) := fun i hi => by
    by_cases e : who i = 0
    · exact e
    · have := h.here i e
      omega
  rw [hk] at HMay ⊢
  obtain ⟨Q, hQ⟩ : ∃ Q, Q = DoOut who w B s n o := ⟨_, rfl⟩
  rw [← hQ]
  have HQ : Hid (Q = DoOut who w B s n o) := hQ
  clear hQ
  obtain ⟨u0', u1, u2, u3, u4, u5, u6, u7, u8⟩ : u.cell? ⟨w.heap.size, 0, none⟩ = some (.int .i64 2) ∧ u.cell? ⟨w.heap.size, 1, none⟩ = some (.string o.space) ∧ u.cell? ⟨w.heap.size, 2, none⟩ = some (.string o.channel) ∧ u.cell? ⟨w.heap.size, 3, none⟩ = some (.string o.user) ∧ u.cell? ⟨w.heap.size, 4, none⟩ = some (.string o.text) ∧ u.cell? ⟨w.heap.size, 5, none⟩ = some (.string o.toSpace) ∧ u.cell? ⟨w.heap.size, 6, none⟩ = some (.string o.to) ∧ u.cell? ⟨w.heap.size, 7, none⟩ = some (.int .i64 o.frm) ∧ u.cell? ⟨w.heap.size, 8, none⟩ = some (.int .i64 o.most) :=
    ⟨hR.op u (Below.refl _ _) 0, hR.op u (Below.refl _ _) 1, hR.op u (Below.refl _ _) 2, hR.op u (Below.refl _ _) 3, hR.op u (Below.refl _ _) 4, hR.op u (Below.refl _ _) 5, hR.op u (Below.refl _ _) 6, hR.op u (Below.refl _ _) 7, hR.op u (Below.refl _ _) 8⟩
  clear h hV ho hm hR hk hn
  go_enter Try.func10, Try.ntmps10
  go_wp2_with fail
  rw [← hu0, ← hu]
  refine Calls.mono HM.out ?_
  rintro e w1 ⟨rfl, hw1⟩
  have hw1 := hw1.symm
  subst hw1
  clear hu hu0
  go_wp2_with fail
  refine Calls.mono HMay.out ?_
  rintro e Y ⟨rfl, hbY⟩
  have HbY : Hid (Below u.heap.size u Y) := hbY
  obtain ⟨y0, y1, y2, y3, y4, y5, y6, y7, y8⟩ : Y.cell? ⟨w.heap.size, 0, none⟩ = some (.int .i64 2) ∧ Y.cell? ⟨w.heap.size, 1, none⟩ = some (.string o.space) ∧ Y.cell? ⟨w.heap.size, 2, none⟩ = some (.string o.channel) ∧ Y.cell? ⟨w.heap.size, 3, none⟩ = some (.string o.user) ∧ Y.cell? ⟨w.heap.size, 4, none⟩ = some (.string o.text) ∧ Y.cell? ⟨w.heap.size, 5, none⟩ = some (.string o.toSpace) ∧ Y.cell? ⟨w.heap.size, 6, none⟩ = some (.string o.to) ∧ Y.cell? ⟨w.heap.size, 7, none⟩ = some (.int .i64 o.frm) ∧ Y.cell? ⟨w.heap.size, 8, none⟩ = some (.int .i64 o.most) :=
    ⟨HR.out.op Y hbY 0, HR.out.op Y hbY 1, HR.out.op Y hbY 2, HR.out.op Y hbY 3, HR.out.op Y hbY 4, HR.out.op Y hbY 5, HR.out.op Y hbY 6, HR.out.op Y hbY 7, HR.out.op Y hbY 8⟩
  clear hbY u0' u1 u2 u3 u4 u5 u6 u7 u8
  go_wp2_with fail
  refine (HIn.out _ HbY.out).mono ?_
  rintro e X ⟨E, who', rfl, hT, ha⟩
  have HT : Hid _ := hT
  clear hT
  have cX : ∀ j, X.cell? ⟨w.heap.size + 1, j, none⟩ = Y.cell? ⟨w.heap.size + 1, j, none⟩ := fun j => World.cell?_of_block (a := ⟨w.heap.size + 1, j, none⟩) (ha.2.2.block (w.heap.size + 1) (by have := HbY.out.size; have := HR.out.size; omega) (HZ.out _ (Nat.le_succ _)))
  have fX : ∀ j, X.frozen? ⟨w.heap.size + 1, j, none⟩ = Y.frozen? ⟨w.heap.size + 1, j, none⟩ := fun j => World.frozen?_of_block (a := ⟨w.heap.size + 1, j, none⟩) (ha.2.2.block (w.heap.size + 1) (by have := HbY.out.size; have := HR.out.size; omega) (HZ.out _ (Nat.le_succ _)))
  obtain ⟨q0, q1, q2, q3, q4, q5⟩ := HR.out.re Y HbY.out
  have r0 := (cX 0).trans q0
  have r1 := (cX 1).trans q1
  have r2 := (cX 2).trans q2
  have g0 := (fX 0).trans q3
  have g1 := (fX 1).trans q4
  have g2 := (fX 2).trans q5
  have HA : Hid (AftM who Y X B (Mo.does s o) (n + 1) who') := ha
  clear ha cX fX q0 q1 q2 q3 q4 q5 y0 y1 y2 y3 y4 y5 y6 y7 y8
  go_wp2
  obtain ⟨x0, x1, x2⟩ := fin3_cells r0 r1 r2 (.int .i64 E) (.int .i64 0) (.slice none 0 0)
  have HF : Hid (Q (.returned (.agg #[.int .i64 E, .int .i64 0, .slice none 0 0])) (fin3 X (w.heap.size + 1) (.int .i64 E) (.int .i64 0) (.slice none 0 0))) := by
    rw [HQ.out]
    exact DoOut.err HT.out rfl ((AftM.from HbY.out HA.out).fin3 HR.out.below (Nat.le_succ _) (by have := HR.out.size; omega) (HZ.out _ (Nat.le_succ _)) _ _ _)
  obtain ⟨Fw, hFw⟩ : ∃ Fw, Fw = fin3 X (w.heap.size + 1) (.int .i64 E) (.int .i64 0) (.slice none 0 0) := ⟨_, rfl⟩
  rw [← hFw] at x0 x1 x2 HF
  unfold fin3 at hFw
  rw [← hFw]
  clear hFw
  refine bodyPost_ret (v := .agg #[.int .i64 E, .int .i64 0, .slice none 0 0]) ?qres rfl ?qpost
  case qres => simp [results, Try.results10, go_sem, x0, x1, x2]
  case qpost => exact HF.out

set_option maxHeartbeats 1600000 in
set_option maxRecDepth 20000 in
theorem Do_3 (h : MdV w B s who n bc bo f cs) (o : Mo.Op) (ho : OpOk o) (hm : Mo.may o = true) (hk : o.kind = 3) :
    Calls Try.prog 10 #[.pointer (some ⟨B, 0, none⟩), .agg #[.int .i64 o.kind, .string o.space, .string o.channel, .string o.user, .string o.text, .string o.toSpace, .string o.to, .int .i64 o.frm, .int .i64 o.most]] w (DoOut who w B s n o) := by
  obtain ⟨u0, hu0⟩ : ∃ u0, u0 = w.alloc (.cells #[.int .i64 3, .string o.space, .string o.channel, .string o.user, .string o.text, .string o.toSpace, .string o.to, .int .i64 o.frm, .int .i64 o.most] 32) := ⟨_, rfl⟩
  obtain ⟨u, hu⟩ : ∃ u, u = u0.alloc (.cells #[.int .i64 0, .int .i64 0, .slice none 0 0] 29) := ⟨_, rfl⟩
  have hR := RxOf.of w #[.int .i64 3, .string o.space, .string o.channel, .string o.user, .string o.text, .string o.toSpace, .string o.to, .int .i64 o.frm, .int .i64 o.most] hu0 hu
  have hV := h.below hR.below
  have HM : Hid _ := isMade_c hV
  have HR : Hid (RxOf w u #[.int .i64 3, .string o.space, .string o.channel, .string o.user, .string o.text, .string o.toSpace, .string o.to, .int .i64 o.frm, .int .i64 o.most]) := hR
  have HMay : Hid _ := mayBe_c o ho u
  unfold opV at HMay
  rw [hm] at HMay
  have HIn : Hid (∀ X, Below u.heap.size u X → Calls Try.prog 28 #[.pointer (some ⟨B, 0, none⟩), .agg #[.int .i64 3, .string o.space, .string o.channel, .string o.user, .string o.text, .string o.toSpace, .string o.to, .int .i64 o.frm, .int .i64 o.most]] X (ReOut who X B s n o)) := fun X hX => by
    have q := post_c (hV.below hX) o ho hm hk
    rw [hk] at q
    exact q
  have HZ : Hid (∀ i, w.heap.size ≤ i → who i = 0) := fun i hi => by
    by_cases e : who i = 0
    · exact e
    · have := h.here i e
      omega
  rw [hk] at HMay ⊢
  obtain ⟨Q, hQ⟩ : ∃ Q, Q = DoOut who w B s n o := ⟨_, rfl⟩
  rw [← hQ]
  have HQ : Hid (Q = DoOut who w B s n o) := hQ
  clear hQ
  obtain ⟨u0', u1, u2, u3, u4, u5, u6, u7, u8⟩ : u.cell? ⟨w.heap.size, 0, none⟩ = some (.int .i64 3) ∧ u.cell? ⟨w.heap.size, 1, none⟩ = some (.string o.space) ∧ u.cell? ⟨w.heap.size, 2, none⟩ = some (.string o.channel) ∧ u.cell? ⟨w.heap.size, 3, none⟩ = some (.string o.user) ∧ u.cell? ⟨w.heap.size, 4, none⟩ = some (.string o.text) ∧ u.cell? ⟨w.heap.size, 5, none⟩ = some (.string o.toSpace) ∧ u.cell? ⟨w.heap.size, 6, none⟩ = some (.string o.to) ∧ u.cell? ⟨w.heap.size, 7, none⟩ = some (.int .i64 o.frm) ∧ u.cell? ⟨w.heap.size, 8, none⟩ = some (.int .i64 o.most) :=
    ⟨hR.op u (Below.refl _ _) 0, hR.op u (Below.refl _ _) 1, hR.op u (Below.refl _ _) 2, hR.op u (Below.refl _ _) 3, hR.op u (Below.refl _ _) 4, hR.op u (Below.refl _ _) 5, hR.op u (Below.refl _ _) 6, hR.op u (Below.refl _ _) 7, hR.op u (Below.refl _ _) 8⟩
  clear h hV ho hm hR hk
  go_enter Try.func10, Try.ntmps10
  go_wp2_with fail
  rw [← hu0, ← hu]
  refine Calls.mono HM.out ?_
  rintro e w1 ⟨rfl, hw1⟩
  have hw1 := hw1.symm
  subst hw1
  clear hu hu0
  go_wp2_with fail
  refine Calls.mono HMay.out ?_
  rintro e Y ⟨rfl, hbY⟩
  have HbY : Hid (Below u.heap.size u Y) := hbY
  obtain ⟨y0, y1, y2, y3, y4, y5, y6, y7, y8⟩ : Y.cell? ⟨w.heap.size, 0, none⟩ = some (.int .i64 3) ∧ Y.cell? ⟨w.heap.size, 1, none⟩ = some (.string o.space) ∧ Y.cell? ⟨w.heap.size, 2, none⟩ = some (.string o.channel) ∧ Y.cell? ⟨w.heap.size, 3, none⟩ = some (.string o.user) ∧ Y.cell? ⟨w.heap.size, 4, none⟩ = some (.string o.text) ∧ Y.cell? ⟨w.heap.size, 5, none⟩ = some (.string o.toSpace) ∧ Y.cell? ⟨w.heap.size, 6, none⟩ = some (.string o.to) ∧ Y.cell? ⟨w.heap.size, 7, none⟩ = some (.int .i64 o.frm) ∧ Y.cell? ⟨w.heap.size, 8, none⟩ = some (.int .i64 o.most) :=
    ⟨HR.out.op Y hbY 0, HR.out.op Y hbY 1, HR.out.op Y hbY 2, HR.out.op Y hbY 3, HR.out.op Y hbY 4, HR.out.op Y hbY 5, HR.out.op Y hbY 6, HR.out.op Y hbY 7, HR.out.op Y hbY 8⟩
  clear hbY u0' u1 u2 u3 u4 u5 u6 u7 u8
  go_wp2_with fail
  refine (HIn.out _ HbY.out).mono ?_
  rintro e X ⟨E, A, v, who', rfl, hE, hA, hrow, hnew, ha⟩
  obtain ⟨pv, cv, hv, _⟩ := hrow.form
  obtain ⟨mv, hmv⟩ : ∃ mv, mv = (Mo.tells s o).posts.length := ⟨_, rfl⟩
  rw [← hmv] at hv hrow
  subst hv
  have HRow : Hid (mv = (Mo.tells s o).posts.length ∧ RowC X 2 (.slice pv mv cv) mv (poCells (Mo.tells s o).posts) ∧ (Mo.tells s o).err = E ∧ (Mo.tells s o).at_ = A) := ⟨hmv, hrow, hE, hA⟩
  have HNew : Hid (∀ g, cBlk (.slice pv mv cv) = some g → w.heap.size ≤ g ∧ who' g = 0 ∧ g ≠ w.heap.size + 1) := fun g hg => by
    have q := hnew g hg
    have q2 := HbY.out.size
    have q3 := HR.out.size
    exact ⟨by omega, q.2, by omega⟩
  clear hmv hrow hE hA hnew
  have cX : ∀ j, X.cell? ⟨w.heap.size + 1, j, none⟩ = Y.cell? ⟨w.heap.size + 1, j, none⟩ := fun j => World.cell?_of_block (a := ⟨w.heap.size + 1, j, none⟩) (ha.2.2.block (w.heap.size + 1) (by have := HbY.out.size; have := HR.out.size; omega) (HZ.out _ (Nat.le_succ _)))
  have fX : ∀ j, X.frozen? ⟨w.heap.size + 1, j, none⟩ = Y.frozen? ⟨w.heap.size + 1, j, none⟩ := fun j => World.frozen?_of_block (a := ⟨w.heap.size + 1, j, none⟩) (ha.2.2.block (w.heap.size + 1) (by have := HbY.out.size; have := HR.out.size; omega) (HZ.out _ (Nat.le_succ _)))
  obtain ⟨q0, q1, q2, q3, q4, q5⟩ := HR.out.re Y HbY.out
  have r0 := (cX 0).trans q0
  have r1 := (cX 1).trans q1
  have r2 := (cX 2).trans q2
  have g0 := (fX 0).trans q3
  have g1 := (fX 1).trans q4
  have g2 := (fX 2).trans q5
  have HA : Hid (AftM who Y X B (Mo.does s o) (n + 1) who') := ha
  clear ha cX fX q0 q1 q2 q3 q4 q5 y0 y1 y2 y3 y4 y5 y6 y7 y8
  go_wp2
  obtain ⟨x0, x1, x2⟩ := fin3_cells r0 r1 r2 (.int .i64 E) (.int .i64 A) (.slice pv mv cv)
  have HF : Hid (Q (.returned (.agg #[.int .i64 E, .int .i64 A, .slice pv mv cv])) (fin3 X (w.heap.size + 1) (.int .i64 E) (.int .i64 A) (.slice pv mv cv))) := by
    rw [HQ.out]
    refine ⟨.slice pv mv cv, who', by rw [HRow.out.2.2.1, HRow.out.2.2.2], ?_, fun g hg => ⟨(HNew.out g hg).1, (HNew.out g hg).2.1⟩, (AftM.from HbY.out HA.out).fin3 HR.out.below (Nat.le_succ _) (by have := HR.out.size; omega) (HZ.out _ (Nat.le_succ _)) _ _ _⟩
    rw [← HRow.out.1]
    exact HRow.out.2.1.carry (fun g hg => fin3_other (HNew.out g hg).2.2 _ _ _)
  obtain ⟨Fw, hFw⟩ : ∃ Fw, Fw = fin3 X (w.heap.size + 1) (.int .i64 E) (.int .i64 A) (.slice pv mv cv) := ⟨_, rfl⟩
  rw [← hFw] at x0 x1 x2 HF
  unfold fin3 at hFw
  rw [← hFw]
  clear hFw
  refine bodyPost_ret (v := .agg #[.int .i64 E, .int .i64 A, .slice pv mv cv]) ?qres rfl ?qpost
  case qres => simp [results, Try.results10, go_sem, x0, x1, x2]
  case qpost => exact HF.out

set_option maxHeartbeats 1600000 in
set_option maxRecDepth 20000 in
theorem Do_4 (h : MdV w B s who n bc bo f cs) (o : Mo.Op) (ho : OpOk o) (hm : Mo.may o = true) (hk : o.kind = 4) :
    Calls Try.prog 10 #[.pointer (some ⟨B, 0, none⟩), .agg #[.int .i64 o.kind, .string o.space, .string o.channel, .string o.user, .string o.text, .string o.toSpace, .string o.to, .int .i64 o.frm, .int .i64 o.most]] w (DoOut who w B s n o) := by
  obtain ⟨u0, hu0⟩ : ∃ u0, u0 = w.alloc (.cells #[.int .i64 4, .string o.space, .string o.channel, .string o.user, .string o.text, .string o.toSpace, .string o.to, .int .i64 o.frm, .int .i64 o.most] 32) := ⟨_, rfl⟩
  obtain ⟨u, hu⟩ : ∃ u, u = u0.alloc (.cells #[.int .i64 0, .int .i64 0, .slice none 0 0] 29) := ⟨_, rfl⟩
  have hR := RxOf.of w #[.int .i64 4, .string o.space, .string o.channel, .string o.user, .string o.text, .string o.toSpace, .string o.to, .int .i64 o.frm, .int .i64 o.most] hu0 hu
  have hV := h.below hR.below
  have HM : Hid _ := isMade_c hV
  have HR : Hid (RxOf w u #[.int .i64 4, .string o.space, .string o.channel, .string o.user, .string o.text, .string o.toSpace, .string o.to, .int .i64 o.frm, .int .i64 o.most]) := hR
  have HMay : Hid _ := mayBe_c o ho u
  unfold opV at HMay
  rw [hm] at HMay
  have HIn : Hid (∀ X, Below u.heap.size u X → Calls Try.prog 29 #[.pointer (some ⟨B, 0, none⟩), .agg #[.int .i64 4, .string o.space, .string o.channel, .string o.user, .string o.text, .string o.toSpace, .string o.to, .int .i64 o.frm, .int .i64 o.most]] X (ReOut who X B s n o)) := fun X hX => by
    have q := read_c (hV.below hX) o ho hm hk
    rw [hk] at q
    exact q
  have HZ : Hid (∀ i, w.heap.size ≤ i → who i = 0) := fun i hi => by
    by_cases e : who i = 0
    · exact e
    · have := h.here i e
      omega
  rw [hk] at HMay ⊢
  obtain ⟨Q, hQ⟩ : ∃ Q, Q = DoOut who w B s n o := ⟨_, rfl⟩
  rw [← hQ]
  have HQ : Hid (Q = DoOut who w B s n o) := hQ
  clear hQ
  obtain ⟨u0', u1, u2, u3, u4, u5, u6, u7, u8⟩ : u.cell? ⟨w.heap.size, 0, none⟩ = some (.int .i64 4) ∧ u.cell? ⟨w.heap.size, 1, none⟩ = some (.string o.space) ∧ u.cell? ⟨w.heap.size, 2, none⟩ = some (.string o.channel) ∧ u.cell? ⟨w.heap.size, 3, none⟩ = some (.string o.user) ∧ u.cell? ⟨w.heap.size, 4, none⟩ = some (.string o.text) ∧ u.cell? ⟨w.heap.size, 5, none⟩ = some (.string o.toSpace) ∧ u.cell? ⟨w.heap.size, 6, none⟩ = some (.string o.to) ∧ u.cell? ⟨w.heap.size, 7, none⟩ = some (.int .i64 o.frm) ∧ u.cell? ⟨w.heap.size, 8, none⟩ = some (.int .i64 o.most) :=
    ⟨hR.op u (Below.refl _ _) 0, hR.op u (Below.refl _ _) 1, hR.op u (Below.refl _ _) 2, hR.op u (Below.refl _ _) 3, hR.op u (Below.refl _ _) 4, hR.op u (Below.refl _ _) 5, hR.op u (Below.refl _ _) 6, hR.op u (Below.refl _ _) 7, hR.op u (Below.refl _ _) 8⟩
  clear h hV ho hm hR hk
  go_enter Try.func10, Try.ntmps10
  go_wp2_with fail
  rw [← hu0, ← hu]
  refine Calls.mono HM.out ?_
  rintro e w1 ⟨rfl, hw1⟩
  have hw1 := hw1.symm
  subst hw1
  clear hu hu0
  go_wp2_with fail
  refine Calls.mono HMay.out ?_
  rintro e Y ⟨rfl, hbY⟩
  have HbY : Hid (Below u.heap.size u Y) := hbY
  obtain ⟨y0, y1, y2, y3, y4, y5, y6, y7, y8⟩ : Y.cell? ⟨w.heap.size, 0, none⟩ = some (.int .i64 4) ∧ Y.cell? ⟨w.heap.size, 1, none⟩ = some (.string o.space) ∧ Y.cell? ⟨w.heap.size, 2, none⟩ = some (.string o.channel) ∧ Y.cell? ⟨w.heap.size, 3, none⟩ = some (.string o.user) ∧ Y.cell? ⟨w.heap.size, 4, none⟩ = some (.string o.text) ∧ Y.cell? ⟨w.heap.size, 5, none⟩ = some (.string o.toSpace) ∧ Y.cell? ⟨w.heap.size, 6, none⟩ = some (.string o.to) ∧ Y.cell? ⟨w.heap.size, 7, none⟩ = some (.int .i64 o.frm) ∧ Y.cell? ⟨w.heap.size, 8, none⟩ = some (.int .i64 o.most) :=
    ⟨HR.out.op Y hbY 0, HR.out.op Y hbY 1, HR.out.op Y hbY 2, HR.out.op Y hbY 3, HR.out.op Y hbY 4, HR.out.op Y hbY 5, HR.out.op Y hbY 6, HR.out.op Y hbY 7, HR.out.op Y hbY 8⟩
  clear hbY u0' u1 u2 u3 u4 u5 u6 u7 u8
  go_wp2_with fail
  refine (HIn.out _ HbY.out).mono ?_
  rintro e X ⟨E, A, v, who', rfl, hE, hA, hrow, hnew, ha⟩
  obtain ⟨pv, cv, hv, _⟩ := hrow.form
  obtain ⟨mv, hmv⟩ : ∃ mv, mv = (Mo.tells s o).posts.length := ⟨_, rfl⟩
  rw [← hmv] at hv hrow
  subst hv
  have HRow : Hid (mv = (Mo.tells s o).posts.length ∧ RowC X 2 (.slice pv mv cv) mv (poCells (Mo.tells s o).posts) ∧ (Mo.tells s o).err = E ∧ (Mo.tells s o).at_ = A) := ⟨hmv, hrow, hE, hA⟩
  have HNew : Hid (∀ g, cBlk (.slice pv mv cv) = some g → w.heap.size ≤ g ∧ who' g = 0 ∧ g ≠ w.heap.size + 1) := fun g hg => by
    have q := hnew g hg
    have q2 := HbY.out.size
    have q3 := HR.out.size
    exact ⟨by omega, q.2, by omega⟩
  clear hmv hrow hE hA hnew
  have cX : ∀ j, X.cell? ⟨w.heap.size + 1, j, none⟩ = Y.cell? ⟨w.heap.size + 1, j, none⟩ := fun j => World.cell?_of_block (a := ⟨w.heap.size + 1, j, none⟩) (ha.2.2.block (w.heap.size + 1) (by have := HbY.out.size; have := HR.out.size; omega) (HZ.out _ (Nat.le_succ _)))
  have fX : ∀ j, X.frozen? ⟨w.heap.size + 1, j, none⟩ = Y.frozen? ⟨w.heap.size + 1, j, none⟩ := fun j => World.frozen?_of_block (a := ⟨w.heap.size + 1, j, none⟩) (ha.2.2.block (w.heap.size + 1) (by have := HbY.out.size; have := HR.out.size; omega) (HZ.out _ (Nat.le_succ _)))
  obtain ⟨q0, q1, q2, q3, q4, q5⟩ := HR.out.re Y HbY.out
  have r0 := (cX 0).trans q0
  have r1 := (cX 1).trans q1
  have r2 := (cX 2).trans q2
  have g0 := (fX 0).trans q3
  have g1 := (fX 1).trans q4
  have g2 := (fX 2).trans q5
  have HA : Hid (AftM who Y X B (Mo.does s o) (n + 1) who') := ha
  clear ha cX fX q0 q1 q2 q3 q4 q5 y0 y1 y2 y3 y4 y5 y6 y7 y8
  go_wp2
  obtain ⟨x0, x1, x2⟩ := fin3_cells r0 r1 r2 (.int .i64 E) (.int .i64 A) (.slice pv mv cv)
  have HF : Hid (Q (.returned (.agg #[.int .i64 E, .int .i64 A, .slice pv mv cv])) (fin3 X (w.heap.size + 1) (.int .i64 E) (.int .i64 A) (.slice pv mv cv))) := by
    rw [HQ.out]
    refine ⟨.slice pv mv cv, who', by rw [HRow.out.2.2.1, HRow.out.2.2.2], ?_, fun g hg => ⟨(HNew.out g hg).1, (HNew.out g hg).2.1⟩, (AftM.from HbY.out HA.out).fin3 HR.out.below (Nat.le_succ _) (by have := HR.out.size; omega) (HZ.out _ (Nat.le_succ _)) _ _ _⟩
    rw [← HRow.out.1]
    exact HRow.out.2.1.carry (fun g hg => fin3_other (HNew.out g hg).2.2 _ _ _)
  obtain ⟨Fw, hFw⟩ : ∃ Fw, Fw = fin3 X (w.heap.size + 1) (.int .i64 E) (.int .i64 A) (.slice pv mv cv) := ⟨_, rfl⟩
  rw [← hFw] at x0 x1 x2 HF
  unfold fin3 at hFw
  rw [← hFw]
  clear hFw
  refine bodyPost_ret (v := .agg #[.int .i64 E, .int .i64 A, .slice pv mv cv]) ?qres rfl ?qpost
  case qres => simp [results, Try.results10, go_sem, x0, x1, x2]
  case qpost => exact HF.out

set_option maxHeartbeats 1600000 in
set_option maxRecDepth 20000 in
theorem Do_7 (h : MdV w B s who n bc bo f cs) (hn : n < 1099511627776) (o : Mo.Op) (ho : OpOk o) (hm : Mo.may o = true) (hk : o.kind = 7) :
    Calls Try.prog 10 #[.pointer (some ⟨B, 0, none⟩), .agg #[.int .i64 o.kind, .string o.space, .string o.channel, .string o.user, .string o.text, .string o.toSpace, .string o.to, .int .i64 o.frm, .int .i64 o.most]] w (DoOut who w B s n o) := by
  obtain ⟨u0, hu0⟩ : ∃ u0, u0 = w.alloc (.cells #[.int .i64 7, .string o.space, .string o.channel, .string o.user, .string o.text, .string o.toSpace, .string o.to, .int .i64 o.frm, .int .i64 o.most] 32) := ⟨_, rfl⟩
  obtain ⟨u, hu⟩ : ∃ u, u = u0.alloc (.cells #[.int .i64 0, .int .i64 0, .slice none 0 0] 29) := ⟨_, rfl⟩
  have hR := RxOf.of w #[.int .i64 7, .string o.space, .string o.channel, .string o.user, .string o.text, .string o.toSpace, .string o.to, .int .i64 o.frm, .int .i64 o.most] hu0 hu
  have hV := h.below hR.below
  have HM : Hid _ := isMade_c hV
  have HR : Hid (RxOf w u #[.int .i64 7, .string o.space, .string o.channel, .string o.user, .string o.text, .string o.toSpace, .string o.to, .int .i64 o.frm, .int .i64 o.most]) := hR
  have HMay : Hid _ := mayBe_c o ho u
  unfold opV at HMay
  rw [hm] at HMay
  have HIn : Hid (∀ X, Below u.heap.size u X → Calls Try.prog 32 #[.pointer (some ⟨B, 0, none⟩), .string o.user] X fun e w' => ∃ E who', e = .returned (.int .i64 E) ∧ Mo.tells s o = ⟨E, 0, []⟩ ∧ AftM who X w' B (Mo.does s o) (n + 1) who') := fun X hX => by
    have q := off_c (hV.below hX) hn o ho hm hk
    skip
    exact q
  have HZ : Hid (∀ i, w.heap.size ≤ i → who i = 0) := fun i hi => by
    by_cases e : who i = 0
    · exact e
    · have := h.here i e
      omega
  rw [hk] at HMay ⊢
  obtain ⟨Q, hQ⟩ : ∃ Q, Q = DoOut who w B s n o := ⟨_, rfl⟩
  rw [← hQ]
  have HQ : Hid (Q = DoOut who w B s n o) := hQ
  clear hQ
  obtain ⟨u0', u1, u2, u3, u4, u5, u6, u7, u8⟩ : u.cell? ⟨w.heap.size, 0, none⟩ = some (.int .i64 7) ∧ u.cell? ⟨w.heap.size, 1, none⟩ = some (.string o.space) ∧ u.cell? ⟨w.heap.size, 2, none⟩ = some (.string o.channel) ∧ u.cell? ⟨w.heap.size, 3, none⟩ = some (.string o.user) ∧ u.cell? ⟨w.heap.size, 4, none⟩ = some (.string o.text) ∧ u.cell? ⟨w.heap.size, 5, none⟩ = some (.string o.toSpace) ∧ u.cell? ⟨w.heap.size, 6, none⟩ = some (.string o.to) ∧ u.cell? ⟨w.heap.size, 7, none⟩ = some (.int .i64 o.frm) ∧ u.cell? ⟨w.heap.size, 8, none⟩ = some (.int .i64 o.most) :=
    ⟨hR.op u (Below.refl _ _) 0, hR.op u (Below.refl _ _) 1, hR.op u (Below.refl _ _) 2, hR.op u (Below.refl _ _) 3, hR.op u (Below.refl _ _) 4, hR.op u (Below.refl _ _) 5, hR.op u (Below.refl _ _) 6, hR.op u (Below.refl _ _) 7, hR.op u (Below.refl _ _) 8⟩
  clear h hV ho hm hR hk hn
  go_enter Try.func10, Try.ntmps10
  go_wp2_with fail
  rw [← hu0, ← hu]
  refine Calls.mono HM.out ?_
  rintro e w1 ⟨rfl, hw1⟩
  have hw1 := hw1.symm
  subst hw1
  clear hu hu0
  go_wp2_with fail
  refine Calls.mono HMay.out ?_
  rintro e Y ⟨rfl, hbY⟩
  have HbY : Hid (Below u.heap.size u Y) := hbY
  obtain ⟨y0, y1, y2, y3, y4, y5, y6, y7, y8⟩ : Y.cell? ⟨w.heap.size, 0, none⟩ = some (.int .i64 7) ∧ Y.cell? ⟨w.heap.size, 1, none⟩ = some (.string o.space) ∧ Y.cell? ⟨w.heap.size, 2, none⟩ = some (.string o.channel) ∧ Y.cell? ⟨w.heap.size, 3, none⟩ = some (.string o.user) ∧ Y.cell? ⟨w.heap.size, 4, none⟩ = some (.string o.text) ∧ Y.cell? ⟨w.heap.size, 5, none⟩ = some (.string o.toSpace) ∧ Y.cell? ⟨w.heap.size, 6, none⟩ = some (.string o.to) ∧ Y.cell? ⟨w.heap.size, 7, none⟩ = some (.int .i64 o.frm) ∧ Y.cell? ⟨w.heap.size, 8, none⟩ = some (.int .i64 o.most) :=
    ⟨HR.out.op Y hbY 0, HR.out.op Y hbY 1, HR.out.op Y hbY 2, HR.out.op Y hbY 3, HR.out.op Y hbY 4, HR.out.op Y hbY 5, HR.out.op Y hbY 6, HR.out.op Y hbY 7, HR.out.op Y hbY 8⟩
  clear hbY u0' u1 u2 u3 u4 u5 u6 u7 u8
  go_wp2_with fail
  refine (HIn.out _ HbY.out).mono ?_
  rintro e X ⟨E, who', rfl, hT, ha⟩
  have HT : Hid _ := hT
  clear hT
  have cX : ∀ j, X.cell? ⟨w.heap.size + 1, j, none⟩ = Y.cell? ⟨w.heap.size + 1, j, none⟩ := fun j => World.cell?_of_block (a := ⟨w.heap.size + 1, j, none⟩) (ha.2.2.block (w.heap.size + 1) (by have := HbY.out.size; have := HR.out.size; omega) (HZ.out _ (Nat.le_succ _)))
  have fX : ∀ j, X.frozen? ⟨w.heap.size + 1, j, none⟩ = Y.frozen? ⟨w.heap.size + 1, j, none⟩ := fun j => World.frozen?_of_block (a := ⟨w.heap.size + 1, j, none⟩) (ha.2.2.block (w.heap.size + 1) (by have := HbY.out.size; have := HR.out.size; omega) (HZ.out _ (Nat.le_succ _)))
  obtain ⟨q0, q1, q2, q3, q4, q5⟩ := HR.out.re Y HbY.out
  have r0 := (cX 0).trans q0
  have r1 := (cX 1).trans q1
  have r2 := (cX 2).trans q2
  have g0 := (fX 0).trans q3
  have g1 := (fX 1).trans q4
  have g2 := (fX 2).trans q5
  have HA : Hid (AftM who Y X B (Mo.does s o) (n + 1) who') := ha
  clear ha cX fX q0 q1 q2 q3 q4 q5 y0 y1 y2 y3 y4 y5 y6 y7 y8
  go_wp2
  obtain ⟨x0, x1, x2⟩ := fin3_cells r0 r1 r2 (.int .i64 E) (.int .i64 0) (.slice none 0 0)
  have HF : Hid (Q (.returned (.agg #[.int .i64 E, .int .i64 0, .slice none 0 0])) (fin3 X (w.heap.size + 1) (.int .i64 E) (.int .i64 0) (.slice none 0 0))) := by
    rw [HQ.out]
    exact DoOut.err HT.out rfl ((AftM.from HbY.out HA.out).fin3 HR.out.below (Nat.le_succ _) (by have := HR.out.size; omega) (HZ.out _ (Nat.le_succ _)) _ _ _)
  obtain ⟨Fw, hFw⟩ : ∃ Fw, Fw = fin3 X (w.heap.size + 1) (.int .i64 E) (.int .i64 0) (.slice none 0 0) := ⟨_, rfl⟩
  rw [← hFw] at x0 x1 x2 HF
  unfold fin3 at hFw
  rw [← hFw]
  clear hFw
  refine bodyPost_ret (v := .agg #[.int .i64 E, .int .i64 0, .slice none 0 0]) ?qres rfl ?qpost
  case qres => simp [results, Try.results10, go_sem, x0, x1, x2]
  case qpost => exact HF.out

end
end Go.Proofs.Ytkioeahlajjmiaa
