/-
  A node's log as plain mathematics: records, what a group's records make, what may be and what fits, the bytes.
-/
import Derived.Test.YtpfnkjfbhcffiaaFrMath
import Derived.Test.YtpfnkjfbhcffiaaDkOwn
namespace Go.Proofs.Ytpfnkjfbhcffiaa.W

/-- A record. -/
structure Rec where
  group : Int
  kind : Int
  index : Int
  term : Int
  vote : Int
  data : ByteArray

/-- What a group's records make. -/
structure Sv where
  term : Int
  vote : Int
  base : Int
  bterm : Int
  data : ByteArray
  ents : List (Int × ByteArray)

/-- What no records make. -/
def new : Sv := ⟨0, -1, 0, 0, ⟨#[]⟩, []⟩

/-- May a number be an index or a term? -/
def ix (n : Int) : Bool := decide (0 ≤ n) && decide (n ≤ 1099511627776)
def isGroup (n : Int) : Bool := decide (0 ≤ n) && decide (n < 9)
def mayHard (r : Rec) : Bool := ix r.term && decide (-1 ≤ r.vote) && decide (r.vote < 7) && (r.index == 0) && r.data.toList.isEmpty
def mayBase (r : Rec) : Bool := ix r.index && ix r.term && decide (r.data.size ≤ 131072) && (r.vote == 0)
def mayEntry (r : Rec) : Bool := decide (1 ≤ r.index) && mayBase r
def mayCut (r : Rec) : Bool := decide (1 ≤ r.index) && ix r.index && (r.term == 0) && (r.vote == 0) && r.data.toList.isEmpty
/-- May its fields, but for the group, be? -/
def mayK (r : Rec) : Bool := if r.kind = 1 then mayHard r else if r.kind = 2 then mayEntry r else if r.kind = 3 then mayCut r else if r.kind = 4 then mayBase r else false
def may (r : Rec) : Bool := isGroup r.group && mayK r

def last (s : Sv) : Int := s.base + (s.ents.length : Int)
def termAt (s : Sv) (i : Int) : Int := if i = s.base then s.bterm else ((s.ents[(i - s.base - 1).toNat]?).getD (0, ⟨#[]⟩)).1
def fitsEntry (s : Sv) (r : Rec) : Bool := (r.index == last s + 1) && decide (termAt s (last s) ≤ r.term)
def fitsCut (s : Sv) (r : Rec) : Bool := decide (s.base < r.index) && decide (r.index ≤ last s)
def fitsBase (s : Sv) (r : Rec) : Bool := decide (s.base ≤ r.index)
def fits (s : Sv) (r : Rec) : Bool := if r.kind = 1 then true else if r.kind = 2 then fitsEntry s r else if r.kind = 3 then fitsCut s r else fitsBase s r

def doHard (s : Sv) (r : Rec) : Sv := { s with term := r.term, vote := r.vote }
def doEntry (s : Sv) (r : Rec) : Sv := { s with ents := s.ents ++ [(r.term, r.data)] }
def doCut (s : Sv) (r : Rec) : Sv := { s with ents := s.ents.take (r.index - s.base - 1).toNat }
/-- Do entries stay behind a base? -/
def stays (s : Sv) (r : Rec) : Bool := decide (r.index ≤ last s) && (r.term == termAt s r.index)
def doBase (s : Sv) (r : Rec) : Sv := { s with base := r.index, bterm := r.term, data := r.data, ents := if stays s r then s.ents.drop (r.index - s.base).toNat else [] }
def fold (s : Sv) (r : Rec) : Sv := if r.kind = 1 then doHard s r else if r.kind = 2 then doEntry s r else if r.kind = 3 then doCut s r else doBase s r

/-- Terms rise from t on, and all may be. -/
def Rise : Int → List (Int × ByteArray) → Prop
  | _, [] => True
  | t, e :: l => t ≤ e.1 ∧ e.1 ≤ 1099511627776 ∧ e.2.size ≤ 131072 ∧ Rise e.1 l

/-- What records that may be make. -/
structure Ok (s : Sv) : Prop where
  term : 0 ≤ s.term ∧ s.term ≤ 1099511627776
  vote : -1 ≤ s.vote ∧ s.vote < 7
  base : 0 ≤ s.base
  last : last s ≤ 1099511627776
  bterm : 0 ≤ s.bterm ∧ s.bterm ≤ 1099511627776
  data : s.data.size ≤ 131072
  rise : Rise s.bterm s.ents

theorem ok_new : Ok new := ⟨by decide, by decide, by decide, by decide, by decide, by decide, trivial⟩

theorem rise_snoc {x : Int} {d : ByteArray} (hx : x ≤ 1099511627776) (hd : d.size ≤ 131072) : ∀ (l : List (Int × ByteArray)) (t : Int), Rise t l → (((l.getLast?).map Prod.fst).getD t) ≤ x → Rise t (l ++ [(x, d)])
  | [], t, _, h => ⟨by simpa using h, hx, hd, trivial⟩
  | [e], t, h, h2 => ⟨h.1, h.2.1, h.2.2.1, by simpa using h2, hx, hd, trivial⟩
  | e :: f :: l, t, h, h2 => ⟨h.1, h.2.1, h.2.2.1, rise_snoc hx hd (f :: l) e.1 h.2.2.2 (by
    have q : (f :: l).getLast? = some ((f :: l).getLast (by simp)) := List.getLast?_eq_some_getLast _
    rw [List.getLast?_cons_cons, q] at h2
    rw [q]
    exact h2)⟩

theorem rise_take : ∀ (l : List (Int × ByteArray)) (t : Int) (k : Nat), Rise t l → Rise t (l.take k)
  | [], _, k, _ => by rw [List.take_nil]; trivial
  | _ :: _, _, 0, _ => trivial
  | e :: l, t, k + 1, h => ⟨h.1, h.2.1, h.2.2.1, rise_take l e.1 k h.2.2.2⟩

theorem rise_drop : ∀ (l : List (Int × ByteArray)) (t : Int) (k : Nat) (e : Int × ByteArray), Rise t l → l[k]? = some e → Rise e.1 (l.drop (k + 1)) ∧ t ≤ e.1 ∧ e.1 ≤ 1099511627776
  | [], _, _, _, _, h => by simp at h
  | x :: l, t, 0, e, h, h2 => by
    have h2' : x = e := by simpa using h2
    subst h2'
    exact ⟨h.2.2.2, h.1, h.2.1⟩
  | x :: l, t, k + 1, e, h, h2 => by
    obtain ⟨q1, q2, q3⟩ := rise_drop l x.1 k e h.2.2.2 (by simpa using h2)
    exact ⟨q1, Int.le_trans h.1 q2, q3⟩

theorem ix_iff {n : Int} : ix n = true ↔ 0 ≤ n ∧ n ≤ 1099511627776 := by unfold ix; simp
theorem isGroup_iff {n : Int} : isGroup n = true ↔ 0 ≤ n ∧ n < 9 := by unfold isGroup; simp

/-- The last term, by the list's end. -/
theorem termAt_last (s : Sv) : termAt s (last s) = ((s.ents.getLast?).map Prod.fst).getD s.bterm := by
  unfold termAt last
  by_cases h : s.ents = []
  · rw [h]; simp
  · have hl : 0 < s.ents.length := List.length_pos_iff.2 h
    rw [if_neg (by omega), show (s.base + (s.ents.length : Int) - s.base - 1).toNat = s.ents.length - 1 by omega, List.getLast?_eq_getElem?]
    rw [List.getElem?_eq_getElem (by omega)]
    rfl

theorem ok_fold {s : Sv} {r : Rec} (h : Ok s) (hm : mayK r = true) (hf : fits s r = true) : Ok (fold s r) := by
  unfold mayK at hm
  unfold fits at hf
  unfold fold
  by_cases k1 : r.kind = 1
  · rw [if_pos k1] at hm ⊢
    unfold mayHard at hm
    simp only [Bool.and_eq_true, decide_eq_true_eq, ix_iff] at hm
    exact ⟨hm.1.1.1.1, ⟨hm.1.1.1.2, hm.1.1.2⟩, h.base, h.last, h.bterm, h.data, h.rise⟩
  rw [if_neg k1] at hm hf ⊢
  by_cases k2 : r.kind = 2
  · rw [if_pos k2] at hm hf ⊢
    unfold mayEntry mayBase at hm
    unfold fitsEntry at hf
    simp only [Bool.and_eq_true, decide_eq_true_eq, ix_iff, beq_iff_eq] at hm hf
    refine ⟨h.term, h.vote, h.base, ?_, h.bterm, h.data, ?_⟩
    · have := hf.1
      unfold last at this ⊢
      show s.base + ((s.ents ++ [(r.term, r.data)]).length : Int) ≤ _
      rw [List.length_append]
      simp only [List.length_cons, List.length_nil]
      omega
    · refine rise_snoc (by omega) (by omega) _ _ h.rise ?_
      have q := hf.2
      rw [termAt_last] at q
      exact q
  rw [if_neg k2] at hm hf ⊢
  by_cases k3 : r.kind = 3
  · rw [if_pos k3] at hf ⊢
    refine ⟨h.term, h.vote, h.base, ?_, h.bterm, h.data, rise_take _ _ _ h.rise⟩
    have := h.last
    unfold last at this ⊢
    show s.base + ((s.ents.take _).length : Int) ≤ _
    rw [List.length_take]
    omega
  · rw [if_neg k3] at hm hf ⊢
    by_cases k4 : r.kind = 4
    · rw [if_pos k4] at hm
      unfold mayBase at hm
      unfold fitsBase at hf
      simp only [Bool.and_eq_true, decide_eq_true_eq, ix_iff, beq_iff_eq] at hm hf
      have hst : stays s r = true → r.index ≤ last s ∧ r.term = termAt s r.index := by
        intro q
        unfold stays at q
        simpa using q
      refine ⟨h.term, h.vote, hm.1.1.1.1, ?_, hm.1.1.2, hm.1.2, ?_⟩
      · unfold doBase
        unfold last
        show r.index + ((if stays s r = true then s.ents.drop (r.index - s.base).toNat else []).length : Int) ≤ _
        split
        · rename_i q
          have q := hst q
          have := h.last
          unfold last at this q
          rw [List.length_drop]
          omega
        · have := hm.1.1.1.2
          simpa using this
      · unfold doBase
        show Rise r.term (if stays s r = true then s.ents.drop (r.index - s.base).toNat else [])
        split
        · rename_i q
          have q := hst q
          unfold termAt last at q
          by_cases e : r.index = s.base
          · rw [if_pos e] at q
            rw [e, Int.sub_self, Int.toNat_zero, List.drop_zero, q.2]
            exact h.rise
          · rw [if_neg e] at q
            have hk : (r.index - s.base - 1).toNat < s.ents.length := by omega
            rw [List.getElem?_eq_getElem hk] at q
            obtain ⟨x1, _, _⟩ := rise_drop s.ents s.bterm _ _ h.rise (List.getElem?_eq_getElem hk)
            rw [show (r.index - s.base).toNat = (r.index - s.base - 1).toNat + 1 by omega, q.2]
            exact x1
        · trivial
    · rw [if_neg k4] at hm
      cases hm

/-- Why a record is refused: 1, 50; 0: it is not. -/
def chk (gs : Nat → Sv) (r : Rec) : Int := if may r then (if fits (gs r.group.toNat) r then 0 else 50) else 1
def doR (gs : Nat → Sv) (r : Rec) : Nat → Sv := upd gs r.group.toNat (fold (gs r.group.toNat) r)

theorem chk_ok {gs : Nat → Sv} {r : Rec} (h : chk gs r = 0) : isGroup r.group = true ∧ mayK r = true ∧ fits (gs r.group.toNat) r = true := by
  unfold chk at h
  split at h
  · rename_i q
    split at h
    · rename_i q2
      unfold may at q
      rw [Bool.and_eq_true] at q
      exact ⟨q.1, q.2, q2⟩
    · simp at h
  · simp at h

theorem ok_do {gs : Nat → Sv} {r : Rec} (h : ∀ i, Ok (gs i)) (hc : chk gs r = 0) : ∀ i, Ok (doR gs r i) := by
  obtain ⟨_, h2, h3⟩ := chk_ok hc
  intro i
  unfold doR upd
  split
  · exact ok_fold (h _) h2 h3
  · exact h i

/-- A record's bytes, without their frame. -/
def payload (r : Rec) : List UInt8 :=
  M.putVar r.group.toNat ++ M.putVar r.kind.toNat ++ M.putVar r.index.toNat ++ M.putVar r.term.toNat ++ M.putVar (r.vote + 1).toNat ++ r.data.data.toList
def recB (r : Rec) : ByteArray := F.record ⟨(payload r).toArray⟩
/-- What a segment begins with. -/
def head (t : Nat) : ByteArray := F.record ⟨(M.putVar t).toArray⟩

end Go.Proofs.Ytpfnkjfbhcffiaa.W
