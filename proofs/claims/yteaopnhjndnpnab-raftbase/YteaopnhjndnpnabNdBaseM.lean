/-
  A raft node that is alone and leads: what it has behind proposals and compactions.
-/
import Derived.Test.YteaopnhjndnpnabNdBase
import Derived.Test.YteaopnhjndnpnabNdAwake
namespace Go.Proofs.Yteaopnhjndnpnab
open Go.RowKit

/-- The text of the proposal number i. -/
def ch (i : Nat) : ByteArray := ⟨#[(97 + i % 16).toUInt8]⟩
theorem ch_size (i : Nat) : (ch i).size = 1 := rfl

/-- It leads in term 1, has base b and last index m, and at most c records. -/
structure Bx (s : N.St) (b m c : Nat) : Prop where
  sz : Sz s
  one : One s
  role : s.role = 3
  term : s.term = 1
  base : s.log.base = (b : Int)
  bt : 0 ≤ s.log.term ∧ s.log.term ≤ 1
  hb : b ≤ m
  len : s.log.ents.length = m - b
  com : s.commit = (m : Int)
  recs : s.recs.length ≤ c
  dat : s.data = if b = 0 then ⟨#[]⟩ else ⟨#[100]⟩
  ent : ∀ (j : Nat) x, s.log.ents[j]? = some x → x.1 = 1 ∧ (b + j = 0 ∨ 1 ≤ b + j ∧ x.2 = ch (b + j - 1))

section
variable {s : N.St} {b m c : Nat}

theorem Bx.last (h : Bx s b m c) : G.last s.log = (m : Int) := by
  unfold G.last
  rw [h.base, h.len]
  have := h.hb
  omega

theorem Bx.termIn (h : Bx s b m c) (i : Nat) (h1 : b < i) (h2 : i ≤ m) : G.termE s.log i = 0 ∧ G.termA s.log i = 1 := by
  have hE : G.termE s.log i = 0 := by
    unfold G.termE
    rw [G.within_zero, h.last, h.base]
    omega
  refine ⟨hE, ?_⟩
  unfold G.termA
  rw [if_pos hE]
  unfold G.termAt
  rw [h.base, if_neg (by omega)]
  have e : ((i : Int) - (b : Int) - 1).toNat = i - b - 1 := by omega
  rw [e]
  obtain ⟨x, hx⟩ : ∃ x, s.log.ents[i - b - 1]? = some x := ⟨_, List.getElem?_eq_getElem (by rw [h.len]; omega)⟩
  rw [hx]
  exact (h.ent _ x hx).1

theorem Bx.app (h : Bx s 0 m c) (hm : 1 ≤ m) (hM : m ≤ 100) : G.appE s.log (s.term, ch (m - 1)) = 0 := by
  have ht : G.termAt s.log (G.last s.log) = 1 := by
    have := h.termIn m (by omega) (Nat.le_refl _)
    unfold G.termA at this
    rw [if_pos this.1] at this
    rw [h.last]
    exact this.2
  unfold G.appE
  rw [ht, h.last, h.term]
  dsimp only
  rw [ch_size, if_neg (by decide), if_neg (by decide), if_neg (by omega)]

theorem Bx.prop (h : Bx s 0 m c) (hm : 1 ≤ m) (hM : m ≤ 100) : Bx (propS s (ch (m - 1))) 0 (m + 1) (c + 1) := by
  have ha := h.app hm hM
  have e1 : N.add s (s.term, ch (m - 1)) = { s with log := G.app s.log (s.term, ch (m - 1)), recs := s.recs ++ [⟨2, G.last s.log + 1, s.term, 0, ch (m - 1)⟩] } := by
    unfold N.add
    rw [if_pos ha]
  have e2 : G.app s.log (s.term, ch (m - 1)) = { s.log with ents := s.log.ents ++ [(1, ch (m - 1))] } := by
    unfold G.app
    rw [if_pos ha, h.term]
  rw [e2] at e1
  have hl := h.last
  have hlen := h.len
  have hb := h.base
  obtain ⟨st, hst⟩ : ∃ st : N.St, st = { s with log := { s.log with ents := s.log.ents ++ [(1, ch (m - 1))] }, recs := s.recs ++ [⟨2, G.last s.log + 1, s.term, 0, ch (m - 1)⟩] } := ⟨_, rfl⟩
  have hB : ∀ cm : Int, cm = ((m + 1 : Nat) : Int) → Bx { st with commit := cm } 0 (m + 1) (c + 1) := fun cm hcm => by
    rw [hst]
    refine ⟨⟨h.sz.id, h.sz.nodes, h.sz.v, h.sz.n, h.sz.m⟩, ⟨h.one.nodes, h.one.id⟩, h.role, h.term, h.base, h.bt, Nat.zero_le _, ?_, hcm, ?_, h.dat, fun j x hj => ?_⟩
    · show (s.log.ents ++ [_]).length = _
      rw [List.length_append, hlen]
      simp
    · show (s.recs ++ [_]).length ≤ _
      rw [List.length_append]
      have := h.recs
      simp
      omega
    · by_cases cj : j < s.log.ents.length
      · exact h.ent j x (by rw [← hj]; exact (List.getElem?_append_left cj).symm)
      · have hj' : (s.log.ents ++ [((1 : Int), ch (m - 1))])[j]? = some x := hj
        rw [List.getElem?_append_right (by omega)] at hj'
        have hlt := (List.getElem?_eq_some_iff.1 hj').1
        simp only [List.length_cons, List.length_nil] at hlt
        have e0 : j - s.log.ents.length = 0 := by omega
        rw [e0] at hj'
        have hx : ((1 : Int), ch (m - 1)) = x := by simpa using hj'
        subst hx
        refine ⟨rfl, .inr ⟨by omega, ?_⟩⟩
        show ch (m - 1) = _
        congr 1
        omega
  have hz : N.held st = ((m + 1 : Nat) : Int) → N.commitMore st = { st with commit := ((m + 1 : Nat) : Int) } := fun hh => by
    have hT : G.termA st.log ((m + 1 : Nat) : Int) = 1 := ((hB _ rfl).termIn (m + 1) (by omega) (Nat.le_refl _)).2
    have hc : st.commit = (m : Int) := by rw [hst]; exact h.com
    have ht : st.term = 1 := by rw [hst]; exact h.term
    unfold N.commitMore
    rw [hh, if_pos ⟨by rw [hc]; omega, by rw [hT, ht]⟩]
  unfold propS
  rw [e1, ← hst]
  have hheld : N.held st = ((m + 1 : Nat) : Int) := by
    unfold N.held
    have n1 : st.nodes = 1 := by rw [hst]; exact h.one.nodes
    have i1 : st.id = 0 := by rw [hst]; exact h.one.id
    have l1 : G.last st.log = ((m + 1 : Nat) : Int) := (hB _ rfl).last
    rw [n1, i1, l1]
    cases hq : st.mtch with
    | nil =>
      have : st.mtch.length = 7 := by rw [hst]; exact h.sz.m
      rw [hq] at this
      cases this
    | cons a l => rfl
  rw [hz hheld]
  exact hB _ rfl

theorem Bx.compE_is (h : Bx s b m c) (i : Nat) : compE s i = if i ≤ b then 60 else if m < i then 3 else 0 := by
  unfold compE
  rw [h.base, h.com]
  simp only [Int.ofNat_le, Int.ofNat_lt]

theorem Bx.comp (h : Bx s b m c) (i : Nat) (h1 : b < i) (h2 : i ≤ m) : Bx (compS s i ⟨#[100]⟩) i m (c + 1) := by
  have hE := h.compE_is i
  rw [if_neg (by omega), if_neg (by omega)] at hE
  obtain ⟨t1, t2⟩ := h.termIn i h1 h2
  have hh : N.has s i (G.termA s.log i) = true := by unfold N.has; rw [t1]; simp
  have e : compS s i ⟨#[100]⟩ = { s with log := G.cmp s.log i, data := ⟨#[100]⟩, recs := s.recs ++ [⟨4, i, G.termA s.log i, 0, ⟨#[100]⟩⟩] } := by
    unfold compS N.rebase
    rw [if_pos hE, hh, if_pos rfl]
  have e2 : G.cmp s.log i = ⟨i, 1, s.log.ents.drop (i - b)⟩ := by
    unfold G.cmp
    rw [if_pos t1]
    have ta : G.termAt s.log i = 1 := by
      unfold G.termA at t2
      rw [if_pos t1] at t2
      exact t2
    rw [ta, h.base]
    have : ((i : Int) - (b : Int)).toNat = i - b := by omega
    rw [this]
  rw [e, e2]
  have hb := h.hb
  refine ⟨⟨h.sz.id, h.sz.nodes, h.sz.v, h.sz.n, h.sz.m⟩, ⟨h.one.nodes, h.one.id⟩, h.role, h.term, rfl, ⟨show (0 : Int) ≤ 1 by decide, show (1 : Int) ≤ 1 by decide⟩, h2, ?_, h.com, ?_, by rw [if_neg (by omega)], fun j x hj => ?_⟩
  · show (s.log.ents.drop (i - b)).length = _
    rw [List.length_drop, h.len]
    omega
  · show (s.recs ++ [_]).length ≤ _
    rw [List.length_append]
    have := h.recs
    simp
    omega
  · have hj' : (s.log.ents.drop (i - b))[j]? = some x := hj
    rw [List.getElem?_drop] at hj'
    obtain ⟨q1, q2⟩ := h.ent _ x hj'
    refine ⟨q1, .inr ⟨by omega, ?_⟩⟩
    rcases q2 with q | ⟨_, q⟩
    · omega
    · rw [q]
      congr 1
      omega

/-- Behind ten ticks. -/
def bs1 : N.St := N.tickS { aw0 with left := 1 } 0
theorem bs1_is : Bx bs1 0 1 2 := by
  refine ⟨⟨by decide, by decide, by decide, by decide, by decide⟩, ⟨by decide, by decide⟩, by decide, by decide, by decide, by decide, by decide, by decide, by decide, by decide, by decide, ?_⟩
  intro j x hj
  have e : bs1.log.ents = [(1, ⟨#[]⟩)] := by decide
  rw [e] at hj
  match j, hj with
  | 0, hj =>
    have hx : ((1 : Int), (⟨#[]⟩ : ByteArray)) = x := by simpa using hj
    subst hx
    exact ⟨rfl, .inl rfl⟩
  | j + 1, hj => simp at hj

theorem bs_tick {w X : World} {B : Nat} (k : Nat) (hk : k < 10) (h : Aw w X B { aw0 with left := 10 - (k : Int) }) :
    Calls Try.prog 6 #[.pointer (some ⟨B, 0, none⟩), .int .i64 0] X fun e w' => e = .returned (.slice none 0 0) ∧ Aw w w' B (if k = 9 then bs1 else { aw0 with left := 10 - ((k + 1 : Nat) : Int) }) := by
  obtain ⟨own, h1, h2⟩ := h.use
  refine (Tick_one h1 ⟨rfl, rfl⟩ 0 (by dsimp only; omega) (fun _ _ => ⟨aw0_may.t, aw0_may.app, aw0_may.recs⟩)).mono ?_
  rintro e w' ⟨rfl, own', ha⟩
  refine ⟨rfl, ?_⟩
  have := h2 _ _ _ ha
  by_cases c : k = 9
  · subst c
    rw [if_pos rfl]
    exact this
  · rw [if_neg c]
    have e : N.tickS { aw0 with left := 10 - (k : Int) } 0 = { aw0 with left := 10 - ((k + 1 : Nat) : Int) } := by
      unfold N.tickS
      rw [if_neg aw0_role, if_pos (by dsimp only; omega)]
      have : (10 : Int) - (k : Int) - 1 = 10 - ((k + 1 : Nat) : Int) := by omega
      dsimp only
      rw [this]
    rw [e] at this
    exact this

/-- The law's node: it leads, with base b and last index m. -/
def Bw (w X : World) (B b m c : Nat) : Prop := ∃ st, Aw w X B st ∧ Bx st b m c

theorem Bw.below {w X Y : World} {B b m c : Nat} (h : Bw w X B b m c) (hb : Below X.heap.size X Y) : Bw w Y B b m c := by
  obtain ⟨st, h1, h2⟩ := h
  exact ⟨st, h1.below hb, h2⟩
theorem Bw.old {w X : World} {B b m c : Nat} (h : Bw w X B b m c) : Below w.heap.size w X := by
  obtain ⟨st, h1, _⟩ := h
  exact h1.old

theorem Bw.propose {w X : World} {B m c : Nat} (h : Bw w X B 0 m c) (hm : 1 ≤ m) (hM : m ≤ 100) (hc : c ≤ 1000) :
    Calls Try.prog 7 #[.pointer (some ⟨B, 0, none⟩), .string (ch (m - 1))] X fun e w' => e = .returned (.tuple #[.int .i64 ((m + 1 : Nat) : Int), .int .i64 1, .slice none 0 0, .int .i64 0]) ∧ Bw w w' B 0 (m + 1) (c + 1) := by
  obtain ⟨st, h1, h2⟩ := h
  obtain ⟨own, n1, n2⟩ := h1.use
  refine (Propose_one n1 h2.one (ch (m - 1)) h2.role (by rw [ch_size]; decide) (h2.app hm hM) (by have := h2.recs; omega)).mono ?_
  rintro e w' ⟨rfl, own', ha⟩
  exact ⟨by rw [h2.last, h2.term]; rfl, _, n2 _ _ _ ha, h2.prop hm hM⟩

theorem Bw.compact {w X : World} {B b m c : Nat} (h : Bw w X B b m c) (i : Nat) (hc : c ≤ 1000) :
    Calls Try.prog 9 #[.pointer (some ⟨B, 0, none⟩), .int .i64 (i : Int), .string ⟨#[100]⟩] X fun e w' => e = .returned (.int .i64 (if i ≤ b then 60 else if m < i then 3 else 0)) ∧ Bw w w' B (if b < i ∧ i ≤ m then i else b) m (c + 1) := by
  obtain ⟨st, h1, h2⟩ := h
  obtain ⟨own, n1, n2⟩ := h1.use
  refine (CompactN_c n1 i ⟨#[100]⟩ (by decide) (fun q1 q2 => (h2.termIn i (by have := h2.base; omega) (by have := h2.com; omega)).1) (by have := h2.recs; omega)).mono ?_
  rintro e w' ⟨rfl, own', ha⟩
  have hA := n2 _ _ _ ha
  rw [h2.compE_is]
  refine ⟨rfl, ?_⟩
  by_cases c1 : b < i ∧ i ≤ m
  · rw [if_pos c1]
    exact ⟨_, hA, h2.comp i c1.1 c1.2⟩
  · rw [if_neg c1]
    have e : compS st i ⟨#[100]⟩ = st := by
      unfold compS
      have hE := h2.compE_is i
      by_cases q1 : i ≤ b
      · rw [if_pos q1] at hE
        rw [hE, if_neg (by decide)]
      · rw [if_neg q1, if_pos (by omega)] at hE
        rw [hE, if_neg (by decide)]
    rw [e] at hA
    exact ⟨st, hA, ⟨h2.sz, h2.one, h2.role, h2.term, h2.base, h2.bt, h2.hb, h2.len, h2.com, Nat.le_succ_of_le h2.recs, h2.dat, h2.ent⟩⟩

/-- What it saves. -/
def SvW (X : World) (b m : Nat) (v : Value) : Prop := ∃ (l : List (Int × ByteArray)), EntRd X v l ∧ l.length = m - b ∧ b ≤ m ∧ ∀ (j : Nat) x, l[j]? = some x → b + j = 0 ∨ 1 ≤ b + j ∧ x.2 = ch (b + j - 1)

theorem Bw.saved {w X : World} {B b m c : Nat} (h : Bw w X B b m c) : Calls Try.prog 10 #[.pointer (some ⟨B, 0, none⟩)] X fun e w' => ∃ v bt p cc, e = .returned (.agg #[.int .i64 1, .int .i64 v, .int .i64 (b : Int), .int .i64 bt, .string (if b = 0 then ⟨#[]⟩ else ⟨#[100]⟩), .slice p (m - b) cc]) ∧ Bw w w' B b m c ∧ SvW w' b m (.slice p (m - b) cc) := by
  obtain ⟨st, h1, h2⟩ := id h
  obtain ⟨own, n1, n2⟩ := h1.use
  refine (Saved_c n1).mono ?_
  rintro e w' ⟨p, n, cc, rfl, hb, he⟩
  obtain ⟨p', c', hv, _, _⟩ := he.1.form
  injection hv with q1 q2 q3
  rw [h2.len] at q2
  subst q2
  refine ⟨st.vote, G.termA st.log st.log.base, p, cc, ?_, h.below hb, _, EntRd.ofRow he.1, h2.len, h2.hb, fun j x hx => (h2.ent j x hx).2⟩
  unfold svV N.saved
  dsimp only
  rw [h2.term, h2.base, h2.dat]

theorem Bw.asks {w X : World} {B b m c : Nat} (h : Bw w X B b m c) : Calls Try.prog 11 #[.pointer (some ⟨B, 0, none⟩)] X (fun e w' => e = .returned (.int .i64 (m : Int)) ∧ w' = X) ∧ Calls Try.prog 12 #[.pointer (some ⟨B, 0, none⟩)] X (fun e w' => e = .returned (.int .i64 3) ∧ w' = X) := by
  obtain ⟨st, ⟨own, h1, _⟩, h2⟩ := h
  refine ⟨?_, ?_⟩
  · have := Commit_c h1; rw [h2.com] at this; exact this
  · have := Role_c h1; rw [h2.role] at this; exact this

end
end Go.Proofs.Yteaopnhjndnpnab
