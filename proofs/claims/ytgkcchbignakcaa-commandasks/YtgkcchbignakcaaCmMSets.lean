/-
  Messages and replies, as plain data: read.
-/
import Derived.Test.YtgkcchbignakcaaCmFromA
namespace Go.Proofs.Ytgkcchbignakcaa
open Go.RowKit

/-- A list that lies in a block of its own, from N on. -/
def EntsAt (N : Nat) (w : World) (p : Option Addr) (l : List (Int × ByteArray)) : Prop :=
  (l = [] ∧ p = none) ∨ ∃ nb, l ≠ [] ∧ p = some ⟨nb, 0, none⟩ ∧ N ≤ nb ∧ nb < w.heap.size ∧ ∀ (i : Nat) (e : Int × ByteArray), l[i]? = some e → w.cell? ⟨nb, i * 2, none⟩ = some (.int .i64 e.1) ∧ w.cell? ⟨nb, i * 2 + 1, none⟩ = some (.string e.2)

def pEnts (l : List (Int × ByteArray)) : List (Cm.K × Cm.V) := (.n 16, .n (l.length : Int)) :: (l.map fun e => [nf e.1, tf e.2]).flatten

theorem EntsAt.kept {N : Nat} {w w' : World} {p : Option Addr} {l : List (Int × ByteArray)} (h : EntsAt N w p l) (hs : w.heap.size ≤ w'.heap.size) (hk : ∀ b, N ≤ b → b < w.heap.size → w'.heap[b]? = w.heap[b]?) : EntsAt N w' p l := by
  rcases h with h | ⟨nb, h1, h2, h3, h4, h5⟩
  · exact .inl h
  · exact .inr ⟨nb, h1, h2, h3, Nat.lt_of_lt_of_le h4 hs, fun i e he => by
      rw [World.cell?_of_block (a := ⟨nb, i * 2, none⟩) (hk nb h3 h4), World.cell?_of_block (a := ⟨nb, i * 2 + 1, none⟩) (hk nb h3 h4)]
      exact h5 i e he⟩

theorem rowEnts {N : Nat} {w : World} {nb : Nat} : ∀ (c s : Nat) (vs : List (Cm.K × Cm.V)), seqH ((List.range' s c).map fun i => qEnt nb (i * 2)) N w vs → ∃ l : List (Int × ByteArray), l.length = c ∧ vs = (l.map fun e => [nf e.1, tf e.2]).flatten ∧ ∀ (i : Nat) (e : Int × ByteArray), l[i]? = some e → w.cell? ⟨nb, (s + i) * 2, none⟩ = some (.int .i64 e.1) ∧ w.cell? ⟨nb, (s + i) * 2 + 1, none⟩ = some (.string e.2)
  | 0, s, vs, h => by
    have : vs = [] := h
    exact ⟨[], rfl, this, fun i e he => by simp at he⟩
  | c + 1, s, vs, h => by
    rw [List.range'_succ, List.map_cons] at h
    obtain ⟨a, b, rfl, ⟨_, _, rfl, ⟨v0, rfl, k0⟩, _, _, rfl, ⟨v1, rfl, k1⟩, rfl⟩, hb⟩ := h
    obtain ⟨l, hl, rfl, hc⟩ := rowEnts c (s + 1) b hb
    refine ⟨(v0, v1) :: l, by simp [hl], rfl, fun i e he => ?_⟩
    cases i with
    | zero =>
      simp only [List.getElem?_cons_zero, Option.some.injEq] at he
      subst he
      exact ⟨k0, k1⟩
    | succ i =>
      rw [List.getElem?_cons_succ] at he
      have := hc i e he
      rw [show s + 1 + i = s + (i + 1) by omega] at this
      exact this

theorem hEnts {N : Nat} {w : World} {b o : Nat} {vs : List (Cm.K × Cm.V)} (h : (qEnts b o).H N w vs) : ∃ (p : Option Addr) (l : List (Int × ByteArray)), vs = pEnts l ∧ w.cell? ⟨b, o, none⟩ = some (.slice p l.length l.length) ∧ EntsAt N w p l ∧ l.length ≤ 16 := by
  obtain ⟨c, vs', hcm, rfl, ⟨rfl, hc, rfl⟩ | ⟨nb, h0, hc, hN, hl, hh⟩⟩ := h
  · exact ⟨none, [], rfl, hc, .inl ⟨rfl, rfl⟩, by simp⟩
  · rw [List.range_eq_range'] at hh
    obtain ⟨l, e1, e2, e3⟩ := rowEnts c 0 vs' hh
    subst e1
    refine ⟨some ⟨nb, 0, none⟩, l, by rw [e2]; rfl, hc, .inr ⟨nb, fun e => h0 (by rw [e]; rfl), rfl, hN, hl, fun i e he => ?_⟩, hcm⟩
    have := e3 i e he
    rw [Nat.zero_add] at this
    exact this

/-- A list that lies in a block of its own, from N on. -/
def PostsAt (N : Nat) (w : World) (p : Option Addr) (l : List (ByteArray × ByteArray)) : Prop :=
  (l = [] ∧ p = none) ∨ ∃ nb, l ≠ [] ∧ p = some ⟨nb, 0, none⟩ ∧ N ≤ nb ∧ nb < w.heap.size ∧ ∀ (i : Nat) (e : ByteArray × ByteArray), l[i]? = some e → w.cell? ⟨nb, i * 2, none⟩ = some (.string e.1) ∧ w.cell? ⟨nb, i * 2 + 1, none⟩ = some (.string e.2)

def pPosts (l : List (ByteArray × ByteArray)) : List (Cm.K × Cm.V) := (.n 64, .n (l.length : Int)) :: (l.map fun e => [tf e.1, tf e.2]).flatten

theorem PostsAt.kept {N : Nat} {w w' : World} {p : Option Addr} {l : List (ByteArray × ByteArray)} (h : PostsAt N w p l) (hs : w.heap.size ≤ w'.heap.size) (hk : ∀ b, N ≤ b → b < w.heap.size → w'.heap[b]? = w.heap[b]?) : PostsAt N w' p l := by
  rcases h with h | ⟨nb, h1, h2, h3, h4, h5⟩
  · exact .inl h
  · exact .inr ⟨nb, h1, h2, h3, Nat.lt_of_lt_of_le h4 hs, fun i e he => by
      rw [World.cell?_of_block (a := ⟨nb, i * 2, none⟩) (hk nb h3 h4), World.cell?_of_block (a := ⟨nb, i * 2 + 1, none⟩) (hk nb h3 h4)]
      exact h5 i e he⟩

theorem rowPosts {N : Nat} {w : World} {nb : Nat} : ∀ (c s : Nat) (vs : List (Cm.K × Cm.V)), seqH ((List.range' s c).map fun i => qPost nb (i * 2)) N w vs → ∃ l : List (ByteArray × ByteArray), l.length = c ∧ vs = (l.map fun e => [tf e.1, tf e.2]).flatten ∧ ∀ (i : Nat) (e : ByteArray × ByteArray), l[i]? = some e → w.cell? ⟨nb, (s + i) * 2, none⟩ = some (.string e.1) ∧ w.cell? ⟨nb, (s + i) * 2 + 1, none⟩ = some (.string e.2)
  | 0, s, vs, h => by
    have : vs = [] := h
    exact ⟨[], rfl, this, fun i e he => by simp at he⟩
  | c + 1, s, vs, h => by
    rw [List.range'_succ, List.map_cons] at h
    obtain ⟨a, b, rfl, ⟨_, _, rfl, ⟨v0, rfl, k0⟩, _, _, rfl, ⟨v1, rfl, k1⟩, rfl⟩, hb⟩ := h
    obtain ⟨l, hl, rfl, hc⟩ := rowPosts c (s + 1) b hb
    refine ⟨(v0, v1) :: l, by simp [hl], rfl, fun i e he => ?_⟩
    cases i with
    | zero =>
      simp only [List.getElem?_cons_zero, Option.some.injEq] at he
      subst he
      exact ⟨k0, k1⟩
    | succ i =>
      rw [List.getElem?_cons_succ] at he
      have := hc i e he
      rw [show s + 1 + i = s + (i + 1) by omega] at this
      exact this

theorem hPosts {N : Nat} {w : World} {b o : Nat} {vs : List (Cm.K × Cm.V)} (h : (qPosts b o).H N w vs) : ∃ (p : Option Addr) (l : List (ByteArray × ByteArray)), vs = pPosts l ∧ w.cell? ⟨b, o, none⟩ = some (.slice p l.length l.length) ∧ PostsAt N w p l ∧ l.length ≤ 64 := by
  obtain ⟨c, vs', hcm, rfl, ⟨rfl, hc, rfl⟩ | ⟨nb, h0, hc, hN, hl, hh⟩⟩ := h
  · exact ⟨none, [], rfl, hc, .inl ⟨rfl, rfl⟩, by simp⟩
  · rw [List.range_eq_range'] at hh
    obtain ⟨l, e1, e2, e3⟩ := rowPosts c 0 vs' hh
    subst e1
    refine ⟨some ⟨nb, 0, none⟩, l, by rw [e2]; rfl, hc, .inr ⟨nb, fun e => h0 (by rw [e]; rfl), rfl, hN, hl, fun i e he => ?_⟩, hcm⟩
    have := e3 i e he
    rw [Nat.zero_add] at this
    exact this

/-- A message. -/
structure MsgD where
  kind : Int
  group : Int
  frm : Int
  to : Int
  term : Int
  index : Int
  at_ : Int
  p : Option Addr
  ents : List (Int × ByteArray)
  commit : Int
  ok : Bool
  data : ByteArray

/-- A reply. -/
structure RepD where
  err : Int
  at_ : Int
  p : Option Addr
  posts : List (ByteArray × ByteArray)

def MsgD.cells (x : MsgD) : List Value := [.int .i64 x.kind, .int .i64 x.group, .int .i64 x.frm, .int .i64 x.to, .int .i64 x.term, .int .i64 x.index, .int .i64 x.at_, .slice x.p x.ents.length x.ents.length, .int .i64 x.commit, .bool x.ok, .string x.data]
def RepD.cells (x : RepD) : List Value := [.int .i64 x.err, .int .i64 x.at_, .slice x.p x.posts.length x.posts.length]
def MsgD.pss (x : MsgD) : List (List (Cm.K × Cm.V)) := [[nf x.kind], [nf x.group], [nf x.frm], [nf x.to], [nf x.term], [nf x.index], [nf x.at_], [nf x.commit], [(.n 1, .n (if x.ok then 1 else 0))], pEnts x.ents, [tf x.data]]
def RepD.pss (x : RepD) : List (List (Cm.K × Cm.V)) := [[nf x.err], [nf x.at_], pPosts x.posts]

def qsMsg (b o : Nat) : List Rf := [qNum b (o + 0), qNum b (o + 1), qNum b (o + 2), qNum b (o + 3), qNum b (o + 4), qNum b (o + 5), qNum b (o + 6), qNum b (o + 8), qBool b (o + 9), qEnts b (o + 7), qStr b (o + 10)]
def qsRep (b o : Nat) : List Rf := [qNum b (o + 0), qNum b (o + 1), qPosts b (o + 2)]
theorem qsMsg_ok (b o : Nat) : ∀ q ∈ qsMsg b o, q.Ok := by
  intro q hq
  simp only [qsMsg, List.mem_cons, List.not_mem_nil, or_false] at hq
  rcases hq with rfl | rfl | rfl | rfl | rfl | rfl | rfl | rfl | rfl | rfl | rfl <;> first | exact qNum_ok _ _ | exact qStr_ok _ _ | exact qBool_ok _ _ | exact qEnts_ok _ _
theorem qsRep_ok (b o : Nat) : ∀ q ∈ qsRep b o, q.Ok := by
  intro q hq
  simp only [qsRep, List.mem_cons, List.not_mem_nil, or_false] at hq
  rcases hq with rfl | rfl | rfl <;> first | exact qNum_ok _ _ | exact qPosts_ok _ _
theorem sEnts (b o k : Nat) : ∀ c p, (qEnts b (o + k)).S c p → c = b ∧ o + k ≤ p ∧ p < o + (k + 1) := by rintro c p ⟨rfl, rfl⟩; exact ⟨rfl, by omega, by omega⟩
theorem sPosts (b o k : Nat) : ∀ c p, (qPosts b (o + k)).S c p → c = b ∧ o + k ≤ p ∧ p < o + (k + 1) := by rintro c p ⟨rfl, rfl⟩; exact ⟨rfl, by omega, by omega⟩
theorem rMsg (b o : Nat) : All2 (fun (q : Rf) (x : Nat × Nat) => ∀ c p, q.S c p → c = b ∧ o + x.1 ≤ p ∧ p < o + x.2) (qsMsg b o) [(0, 1), (1, 2), (2, 3), (3, 4), (4, 5), (5, 6), (6, 7), (8, 9), (9, 10), (7, 8), (10, 11)] :=
  ⟨sNum b o 0, sNum b o 1, sNum b o 2, sNum b o 3, sNum b o 4, sNum b o 5, sNum b o 6, sNum b o 8, sBool b o 9, sEnts b o 7, sStr b o 10, trivial⟩
theorem rRep (b o : Nat) : All2 (fun (q : Rf) (x : Nat × Nat) => ∀ c p, q.S c p → c = b ∧ o + x.1 ≤ p ∧ p < o + x.2) (qsRep b o) [(0, 1), (1, 2), (2, 3)] := ⟨sNum b o 0, sNum b o 1, sPosts b o 2, trivial⟩
theorem qMsg_S {b o c p : Nat} (h : (seqR (qsMsg b o)).S c p) : c = b ∧ o ≤ p ∧ p < o + 11 := seq_S (rMsg b o) (by decide) h
theorem qRep_S {b o c p : Nat} (h : (seqR (qsRep b o)).S c p) : c = b ∧ o ≤ p ∧ p < o + 3 := seq_S (rRep b o) (by decide) h
theorem walkMsg_r (b o : Nat) : RWalkC (fields b o .msg) (seqR (qsMsg b o)) :=
  walk_r2 _ ⟨rfl, rfl, rfl, rfl, rfl, rfl, rfl, rfl, rfl, list_r_Ents b (o + 7), rfl, trivial⟩ (qsMsg_ok b o) (rMsg b o) (by decide) (by simp [fields])
theorem walkRep_r (b o : Nat) : RWalkC (fields b o .reply) (seqR (qsRep b o)) :=
  walk_r2 _ ⟨rfl, rfl, list_r_Posts b (o + 2), trivial⟩ (qsRep_ok b o) (rRep b o) (by decide) (by simp [fields])

def dMsg : List UInt8 → Option (List (Cm.K × Cm.V) × List UInt8) := (seqR (qsMsg 0 0)).D
def dRep : List UInt8 → Option (List (Cm.K × Cm.V) × List UInt8) := (seqR (qsRep 0 0)).D
theorem qMsg_D (b o : Nat) : (seqR (qsMsg b o)).D = dMsg := rfl
theorem qRep_D (b o : Nat) : (seqR (qsRep b o)).D = dRep := rfl

def MsgD.at (x : MsgD) (N : Nat) (w : World) (b : Nat) : Prop := w.rangeAt b 0 x.cells ∧ EntsAt N w x.p x.ents ∧ x.ents.length ≤ 16
def RepD.at (x : RepD) (N : Nat) (w : World) (b : Nat) : Prop := w.rangeAt b 0 x.cells ∧ PostsAt N w x.p x.posts ∧ x.posts.length ≤ 64

theorem hRep {N : Nat} {w : World} {b : Nat} {vs : List (Cm.K × Cm.V)} (h : seqH (qsRep b 0) N w vs) : ∃ x : RepD, vs = x.pss.flatten ∧ x.at N w b := by
  obtain ⟨_, _, rfl, ⟨v0, rfl, c0⟩, _, _, rfl, ⟨v1, rfl, c1⟩, _, _, rfl, h2, rfl⟩ := h
  obtain ⟨p, l, rfl, c2, hp, hl⟩ := hPosts h2
  refine ⟨⟨v0, v1, p, l⟩, rfl, fun j v hj => ?_, hp, hl⟩
  match j, hj with
  | 0, hj => simp [RepD.cells] at hj; subst hj; exact c0
  | 1, hj => simp [RepD.cells] at hj; subst hj; exact c1
  | 2, hj => simp [RepD.cells] at hj; subst hj; exact c2
  | j + 3, hj => simp [RepD.cells] at hj

theorem hMsg {N : Nat} {w : World} {b : Nat} {vs : List (Cm.K × Cm.V)} (h : seqH (qsMsg b 0) N w vs) (hb : ∀ v : Int, (Cm.K.n 1, Cm.V.n v) ∈ vs → v = 0 ∨ v = 1) : ∃ x : MsgD, vs = x.pss.flatten ∧ x.at N w b := by
  obtain ⟨_, _, rfl, ⟨v0, rfl, c0⟩, _, _, rfl, ⟨v1, rfl, c1⟩, _, _, rfl, ⟨v2, rfl, c2⟩, _, _, rfl, ⟨v3, rfl, c3⟩, _, _, rfl, ⟨v4, rfl, c4⟩, _, _, rfl, ⟨v5, rfl, c5⟩, _, _, rfl, ⟨v6, rfl, c6⟩, _, _, rfl, ⟨v7, rfl, c8⟩, _, _, rfl, ⟨v8, rfl, c9⟩, _, _, rfl, h9, _, _, rfl, ⟨v10, rfl, c10⟩, rfl⟩ := h
  obtain ⟨p, l, rfl, c7, hp, hl⟩ := hEnts h9
  have hv : (if v8 == 1 then (1 : Int) else 0) = v8 := by
    rcases hb v8 (by simp) with rfl | rfl <;> rfl
  refine ⟨⟨v0, v1, v2, v3, v4, v5, v6, p, l, v7, v8 == 1, v10⟩, ?_, fun j v hj => ?_, hp, hl⟩
  · show _ = [nf v0] ++ ([nf v1] ++ ([nf v2] ++ ([nf v3] ++ ([nf v4] ++ ([nf v5] ++ ([nf v6] ++ ([nf v7] ++ ([(Cm.K.n 1, Cm.V.n (if v8 == 1 then 1 else 0))] ++ (pEnts l ++ ([tf v10] ++ []))))))))))
    rw [hv]
    rfl
  · match j, hj with
    | 0, hj => simp [MsgD.cells] at hj; subst hj; exact c0
    | 1, hj => simp [MsgD.cells] at hj; subst hj; exact c1
    | 2, hj => simp [MsgD.cells] at hj; subst hj; exact c2
    | 3, hj => simp [MsgD.cells] at hj; subst hj; exact c3
    | 4, hj => simp [MsgD.cells] at hj; subst hj; exact c4
    | 5, hj => simp [MsgD.cells] at hj; subst hj; exact c5
    | 6, hj => simp [MsgD.cells] at hj; subst hj; exact c6
    | 7, hj => simp [MsgD.cells] at hj; subst hj; exact c7
    | 8, hj => simp [MsgD.cells] at hj; subst hj; exact c8
    | 9, hj => simp [MsgD.cells] at hj; subst hj; exact c9
    | 10, hj => simp [MsgD.cells] at hj; subst hj; exact c10
    | j + 11, hj => simp [MsgD.cells] at hj

theorem MsgD.one (x : MsgD) : x.cells.toArray.all (·.oneCell') = true := all_oneCell_toArray (fun v hv => by
  simp only [MsgD.cells, List.mem_cons, List.not_mem_nil, or_false] at hv
  rcases hv with rfl | rfl | rfl | rfl | rfl | rfl | rfl | rfl | rfl | rfl | rfl <;> rfl)
theorem RepD.one (x : RepD) : x.cells.toArray.all (·.oneCell') = true := all_oneCell_toArray (fun v hv => by
  simp only [RepD.cells, List.mem_cons, List.not_mem_nil, or_false] at hv
  rcases hv with rfl | rfl | rfl <;> rfl)

end Go.Proofs.Ytgkcchbignakcaa
