/-
  The structs that are read: what of bytes, into which cells.
-/
import Derived.Test.YtnfjfhjhofaodaaCmSets
namespace Go.Proofs.Ytnfjfhjhofaodaa
open Go.RowKit

theorem walk_r2 {b o : Nat} {fs : List Fd} {qs : List Rf} (rs : List (Nat × Nat)) (hF : All2 FR fs qs) (hok : ∀ q ∈ qs, q.Ok) (hr : All2 (fun (q : Rf) (x : Nat × Nat) => ∀ c p, q.S c p → c = b ∧ o + x.1 ≤ p ∧ p < o + x.2) qs rs) (hp : rs.Pairwise (fun x y => x.2 ≤ y.1 ∨ y.2 ≤ x.1)) (hsm : fs.length < 1000) : RWalkC fs (seqR qs) :=
  walk_r hF.len (fun k f q h1 h2 => hF.get k f q h1 h2) hok (apart_of rs hr.len.symm (fun i q x h1 h2 => hr.get i q x h1 h2) hp) hsm

theorem dseq_dec2 {qs : List Rf} {kss : List (List Cm.K)} (h : All2 (fun (q : Rf) ks => q.D = Cm.dec ks) qs kss) : dseq qs = Cm.dec kss.flatten := dseq_dec qs kss h.len.symm (fun i q ks h1 h2 => h.get i q ks h1 h2)

theorem seq_S {b o n : Nat} {qs : List Rf} {rs : List (Nat × Nat)} (hr : All2 (fun (q : Rf) (x : Nat × Nat) => ∀ c p, q.S c p → c = b ∧ o + x.1 ≤ p ∧ p < o + x.2) qs rs) (hn : ∀ x ∈ rs, x.2 ≤ n) {c p : Nat} (h : (seqR qs).S c p) : c = b ∧ o ≤ p ∧ p < o + n := by
  obtain ⟨q, hq, hs⟩ := h
  obtain ⟨i, hi, e⟩ := List.mem_iff_getElem.1 hq
  have hl := hr.len
  have h1 := hr.get i q (rs[i]'(by omega)) (by rw [← e]; exact List.getElem?_eq_getElem _) (List.getElem?_eq_getElem _) c p hs
  have h2 := hn _ (List.getElem_mem (by omega : i < rs.length))
  omega

theorem sNum (b o k : Nat) : ∀ c p, (qNum b (o + k)).S c p → c = b ∧ o + k ≤ p ∧ p < o + (k + 1) := by rintro c p ⟨rfl, rfl⟩; exact ⟨rfl, by omega, by omega⟩
theorem sStr (b o k : Nat) : ∀ c p, (qStr b (o + k)).S c p → c = b ∧ o + k ≤ p ∧ p < o + (k + 1) := by rintro c p ⟨rfl, rfl⟩; exact ⟨rfl, by omega, by omega⟩
theorem sBool (b o k : Nat) : ∀ c p, (qBool b (o + k)).S c p → c = b ∧ o + k ≤ p ∧ p < o + (k + 1) := by rintro c p ⟨rfl, rfl⟩; exact ⟨rfl, by omega, by omega⟩

def qsId (b o : Nat) : List Rf := [qNum b (o + 0), qNum b (o + 1)]
def qsOp (b o : Nat) : List Rf := [qNum b (o + 0), qStr b (o + 1), qStr b (o + 2), qStr b (o + 3), qStr b (o + 4), qStr b (o + 5), qStr b (o + 6), qNum b (o + 7), qNum b (o + 8)]
def qsCmd (b o : Nat) : List Rf := [qNum b (o + 0), seqR (qsId b (o + 1)), qNum b (o + 12), qNum b (o + 13), qNum b (o + 14), qNum b (o + 15), qNum b (o + 16), qBool b (o + 17), qNum b (o + 18), seqR (qsOp b (o + 3)), qStr b (o + 19)]

def ksId : List Cm.K := [.n Cm.mI, .n Cm.mI]
def ksOp : List Cm.K := [.n Cm.mI, .t, .t, .t, .t, .t, .t, .n Cm.mI, .n Cm.mI]
def ksCmd : List Cm.K := [.n Cm.mI] ++ ksId ++ [.n Cm.mI, .n Cm.mI, .n Cm.mI, .n Cm.mI, .n Cm.mI, .n 1, .n Cm.mI] ++ ksOp ++ [.t]

theorem qsId_ok (b o : Nat) : ∀ q ∈ qsId b o, q.Ok := by
  intro q hq
  simp only [qsId, List.mem_cons, List.not_mem_nil, or_false] at hq
  rcases hq with rfl | rfl <;> exact qNum_ok _ _
theorem qsOp_ok (b o : Nat) : ∀ q ∈ qsOp b o, q.Ok := by
  intro q hq
  simp only [qsOp, List.mem_cons, List.not_mem_nil, or_false] at hq
  rcases hq with rfl | rfl | rfl | rfl | rfl | rfl | rfl | rfl | rfl <;> first | exact qNum_ok _ _ | exact qStr_ok _ _
theorem qsCmd_ok (b o : Nat) : ∀ q ∈ qsCmd b o, q.Ok := by
  intro q hq
  simp only [qsCmd, List.mem_cons, List.not_mem_nil, or_false] at hq
  rcases hq with rfl | rfl | rfl | rfl | rfl | rfl | rfl | rfl | rfl | rfl | rfl <;> first | exact qNum_ok _ _ | exact qStr_ok _ _ | exact qBool_ok _ _ | exact seqR_ok (qsId_ok _ _) | exact seqR_ok (qsOp_ok _ _)

theorem rId (b o : Nat) : All2 (fun (q : Rf) (x : Nat × Nat) => ∀ c p, q.S c p → c = b ∧ o + x.1 ≤ p ∧ p < o + x.2) (qsId b o) [(0, 1), (1, 2)] := ⟨sNum b o 0, sNum b o 1, trivial⟩
theorem rOp (b o : Nat) : All2 (fun (q : Rf) (x : Nat × Nat) => ∀ c p, q.S c p → c = b ∧ o + x.1 ≤ p ∧ p < o + x.2) (qsOp b o) [(0, 1), (1, 2), (2, 3), (3, 4), (4, 5), (5, 6), (6, 7), (7, 8), (8, 9)] :=
  ⟨sNum b o 0, sStr b o 1, sStr b o 2, sStr b o 3, sStr b o 4, sStr b o 5, sStr b o 6, sNum b o 7, sNum b o 8, trivial⟩
theorem qId_S {b o c p : Nat} (h : (seqR (qsId b o)).S c p) : c = b ∧ o ≤ p ∧ p < o + 2 := seq_S (rId b o) (by decide) h
theorem qOp_S {b o c p : Nat} (h : (seqR (qsOp b o)).S c p) : c = b ∧ o ≤ p ∧ p < o + 9 := seq_S (rOp b o) (by decide) h
theorem rCmd (b o : Nat) : All2 (fun (q : Rf) (x : Nat × Nat) => ∀ c p, q.S c p → c = b ∧ o + x.1 ≤ p ∧ p < o + x.2) (qsCmd b o) [(0, 1), (1, 3), (12, 13), (13, 14), (14, 15), (15, 16), (16, 17), (17, 18), (18, 19), (3, 12), (19, 20)] :=
  ⟨sNum b o 0, fun c p h => by have := qId_S h; omega, sNum b o 12, sNum b o 13, sNum b o 14, sNum b o 15, sNum b o 16, sBool b o 17, sNum b o 18, fun c p h => by have := qOp_S h; omega, sStr b o 19, trivial⟩
theorem qCmd_S {b o c p : Nat} (h : (seqR (qsCmd b o)).S c p) : c = b ∧ o ≤ p ∧ p < o + 20 := seq_S (rCmd b o) (by decide) h

theorem walkId_r (b o : Nat) : RWalkC (fields b o .id) (seqR (qsId b o)) :=
  walk_r2 _ ⟨rfl, rfl, trivial⟩ (qsId_ok b o) (rId b o) (by decide) (by simp [fields])
theorem walkOp_r (b o : Nat) : RWalkC (fields b o .op) (seqR (qsOp b o)) :=
  walk_r2 _ ⟨rfl, rfl, rfl, rfl, rfl, rfl, rfl, rfl, rfl, trivial⟩ (qsOp_ok b o) (rOp b o) (by decide) (by simp [fields])
theorem walkCmd_r (b o : Nat) : RWalkC (fields b o .cmd) (seqR (qsCmd b o)) :=
  walk_r2 _ ⟨rfl, walkId_r b (o + 1), rfl, rfl, rfl, rfl, rfl, rfl, rfl, walkOp_r b (o + 3), rfl, trivial⟩ (qsCmd_ok b o) (rCmd b o) (by decide) (by simp [fields])

theorem qId_D (b o : Nat) : (seqR (qsId b o)).D = Cm.dec ksId := dseq_dec2 (kss := [[.n Cm.mI], [.n Cm.mI]]) ⟨rfl, rfl, trivial⟩
theorem qOp_D (b o : Nat) : (seqR (qsOp b o)).D = Cm.dec ksOp := dseq_dec2 (kss := [[.n Cm.mI], [.t], [.t], [.t], [.t], [.t], [.t], [.n Cm.mI], [.n Cm.mI]]) ⟨rfl, rfl, rfl, rfl, rfl, rfl, rfl, rfl, rfl, trivial⟩
theorem qCmd_D (b o : Nat) : (seqR (qsCmd b o)).D = Cm.dec ksCmd := dseq_dec2 (kss := [[.n Cm.mI], ksId, [.n Cm.mI], [.n Cm.mI], [.n Cm.mI], [.n Cm.mI], [.n Cm.mI], [.n 1], [.n Cm.mI], ksOp, [.t]]) ⟨rfl, qId_D _ _, rfl, rfl, rfl, rfl, rfl, rfl, rfl, qOp_D _ _, rfl, trivial⟩

/-- A row of cells. -/
def Row (w : World) (b o : Nat) (xs : List Value) : Prop := ∀ (i : Nat) (x : Value), xs[i]? = some x → w.cell? ⟨b, o + i, none⟩ = some x

def IdD.at (x : IdD) (w : World) (b o : Nat) : Prop := w.cell? ⟨b, o + 0, none⟩ = some (.int .i64 x.session) ∧ w.cell? ⟨b, o + 1, none⟩ = some (.int .i64 x.seq)
def OpD.at (x : OpD) (w : World) (b o : Nat) : Prop := w.cell? ⟨b, o + 0, none⟩ = some (.int .i64 x.kind) ∧ w.cell? ⟨b, o + 1, none⟩ = some (.string x.space) ∧ w.cell? ⟨b, o + 2, none⟩ = some (.string x.channel) ∧ w.cell? ⟨b, o + 3, none⟩ = some (.string x.user) ∧ w.cell? ⟨b, o + 4, none⟩ = some (.string x.text) ∧ w.cell? ⟨b, o + 5, none⟩ = some (.string x.toSpace) ∧ w.cell? ⟨b, o + 6, none⟩ = some (.string x.to) ∧ w.cell? ⟨b, o + 7, none⟩ = some (.int .i64 x.frm) ∧ w.cell? ⟨b, o + 8, none⟩ = some (.int .i64 x.most)
def CmdD.at (x : CmdD) (w : World) (b o : Nat) : Prop := w.cell? ⟨b, o + 0, none⟩ = some (.int .i64 x.kind) ∧ x.id.at w b (o + 1) ∧ x.op.at w b (o + 3) ∧ w.cell? ⟨b, o + 12, none⟩ = some (.int .i64 x.tx) ∧ w.cell? ⟨b, o + 13, none⟩ = some (.int .i64 x.plan) ∧ w.cell? ⟨b, o + 14, none⟩ = some (.int .i64 x.slot) ∧ w.cell? ⟨b, o + 15, none⟩ = some (.int .i64 x.epoch) ∧ w.cell? ⟨b, o + 16, none⟩ = some (.int .i64 x.group) ∧ w.cell? ⟨b, o + 17, none⟩ = some (.bool x.ok) ∧ w.cell? ⟨b, o + 18, none⟩ = some (.int .i64 x.err) ∧ w.cell? ⟨b, o + 19, none⟩ = some (.string x.data)

theorem hId {N : Nat} {w : World} {b o : Nat} {vs : List (Cm.K × Cm.V)} (h : seqH (qsId b o) N w vs) : ∃ x : IdD, vs = x.pss.flatten ∧ x.at w b o := by
  obtain ⟨_, _, rfl, ⟨v0, rfl, c0⟩, _, _, rfl, ⟨v1, rfl, c1⟩, rfl⟩ := h
  exact ⟨⟨v0, v1⟩, rfl, c0, c1⟩

theorem hOp {N : Nat} {w : World} {b o : Nat} {vs : List (Cm.K × Cm.V)} (h : seqH (qsOp b o) N w vs) : ∃ x : OpD, vs = x.pss.flatten ∧ x.at w b o := by
  obtain ⟨_, _, rfl, ⟨v0, rfl, c0⟩, _, _, rfl, ⟨v1, rfl, c1⟩, _, _, rfl, ⟨v2, rfl, c2⟩, _, _, rfl, ⟨v3, rfl, c3⟩, _, _, rfl, ⟨v4, rfl, c4⟩, _, _, rfl, ⟨v5, rfl, c5⟩, _, _, rfl, ⟨v6, rfl, c6⟩, _, _, rfl, ⟨v7, rfl, c7⟩, _, _, rfl, ⟨v8, rfl, c8⟩, rfl⟩ := h
  exact ⟨⟨v0, v1, v2, v3, v4, v5, v6, v7, v8⟩, rfl, c0, c1, c2, c3, c4, c5, c6, c7, c8⟩

/-- A number that is read as a truth is 0 or 1. -/
theorem hCmd {N : Nat} {w : World} {b o : Nat} {vs : List (Cm.K × Cm.V)} (h : seqH (qsCmd b o) N w vs) (he : ∃ bs, Cm.enc vs = some bs) : ∃ x : CmdD, vs = x.pss.flatten ∧ x.at w b o := by
  obtain ⟨_, _, rfl, ⟨v0, rfl, c0⟩, _, _, rfl, h1, _, _, rfl, ⟨v2, rfl, c2⟩, _, _, rfl, ⟨v3, rfl, c3⟩, _, _, rfl, ⟨v4, rfl, c4⟩, _, _, rfl, ⟨v5, rfl, c5⟩, _, _, rfl, ⟨v6, rfl, c6⟩, _, _, rfl, ⟨v7, rfl, c7⟩, _, _, rfl, ⟨v8, rfl, c8⟩, _, _, rfl, h9, _, _, rfl, ⟨v10, rfl, c10⟩, rfl⟩ := h
  obtain ⟨i, rfl, hi⟩ := hId h1
  obtain ⟨p, rfl, hp⟩ := hOp h9
  have hv7 : v7 = if v7 == 1 then 1 else 0 := by
    obtain ⟨bs, he⟩ := he
    have hm : ∀ (ps : List (Cm.K × Cm.V)) (bs : List UInt8), Cm.enc ps = some bs → ∀ q ∈ ps, ∃ b, Cm.enc1 q.1 q.2 = some b := by
      intro ps
      induction ps with
      | nil => intro bs _ q hq; cases hq
      | cons a r ih =>
        intro bs h q hq
        obtain ⟨k, v⟩ := a
        simp only [Cm.enc] at h
        cases h1 : Cm.enc1 k v with
        | none => rw [h1] at h; cases h
        | some x =>
          rw [h1] at h
          simp only at h
          cases h2 : Cm.enc r with
          | none => rw [h2] at h; cases h
          | some y =>
            rcases List.mem_cons.1 hq with rfl | hq
            · exact ⟨_, h1⟩
            · exact ih y h2 q hq
    obtain ⟨x, hx⟩ := hm _ _ he (.n 1, .n v7) (by simp)
    simp only [Cm.enc1] at hx
    split at hx
    · rename_i hh
      have : v7 = 0 ∨ v7 = 1 := by omega
      rcases this with rfl | rfl <;> rfl
    · cases hx
  refine ⟨⟨v0, i, p, v2, v3, v4, v5, v6, v7 == 1, v8, v10⟩, ?_, c0, hi, hp, c2, c3, c4, c5, c6, c7, c8, c10⟩
  show _ = [nf v0] ++ (i.pss.flatten ++ ([nf v2] ++ ([nf v3] ++ ([nf v4] ++ ([nf v5] ++ ([nf v6] ++ ([(Cm.K.n 1, Cm.V.n (if v7 == 1 then 1 else 0))] ++ ([nf v8] ++ (p.pss.flatten ++ ([tf v10] ++ []))))))))))
  rw [← hv7]
  rfl

end Go.Proofs.Ytnfjfhjhofaodaa
