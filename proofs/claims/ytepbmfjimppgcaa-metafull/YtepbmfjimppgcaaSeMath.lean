/-
  What sessions asked last, and were answered, over plain lists.
-/
import Derived.Test.YtepbmfjimppgcaaMoMath
namespace Go.Proofs.Ytepbmfjimppgcaa.Se

/-- What a session asked last, and was answered. -/
structure Ls where
  seq : Int
  re : Mo.Re
/-- Sessions, rising. -/
abbrev St := List (Int × Ls)

def get : St → Int → Option Ls
  | [], _ => none
  | (k, l) :: r, x => if k = x then some l else get r x
/-- Another one in its place. -/
def ins {α : Type} (x : Int) (l : α) : List (Int × α) → List (Int × α)
  | [] => [(x, l)]
  | (k, m) :: r => if x < k then (x, l) :: (k, m) :: r else if k = x then (x, l) :: r else (k, m) :: ins x l r

def may (a b : Int) : Bool := (decide (0 ≤ a) && decide (a ≤ 2147483647)) && (decide (1 ≤ b) && decide (b ≤ 2147483647))
def zero : Mo.Re := ⟨0, 0, []⟩
def find (s : St) (a b : Int) : Mo.Re × Int :=
  if may a b = false then (zero, 1) else match get s a with
    | none => (zero, 3)
    | some l => if l.seq < b then (zero, 3) else if b < l.seq then (zero, 110) else (l.re, 0)
def putE (s : St) (a b : Int) (r : Mo.Re) : Int :=
  if may a b = false then 1 else if 64 < r.posts.length then 1 else match get s a with
    | none => if 64 ≤ s.length then 2 else 0
    | some l => if b ≤ l.seq then 110 else 0
def put (s : St) (a b : Int) (r : Mo.Re) : St := if putE s a b r = 0 then ins a ⟨b, r⟩ s else s

theorem may_iff {a b : Int} (h : may a b = true) : (0 ≤ a ∧ a ≤ 2147483647) ∧ 1 ≤ b ∧ b ≤ 2147483647 := by
  unfold may at h
  simp only [Bool.and_eq_true, decide_eq_true_eq] at h
  exact h

/-- Each session stands once, and they rise. -/
def Rise {α : Type} (s : List (Int × α)) : Prop := s.Pairwise fun p q => p.1 < q.1

theorem ins_mem {α : Type} {x : Int} {l : α} : ∀ {s : List (Int × α)} {p : Int × α}, p ∈ ins x l s → p = (x, l) ∨ p ∈ s
  | [], p, h => by simpa [ins] using h
  | (k, m) :: r, p, h => by
    unfold ins at h
    split at h
    · rcases List.mem_cons.1 h with e | e
      · exact .inl e
      · exact .inr e
    · split at h
      · rcases List.mem_cons.1 h with e | e
        · exact .inl e
        · exact .inr (List.mem_cons_of_mem _ e)
      · rcases List.mem_cons.1 h with e | e
        · exact .inr (by rw [e]; exact List.mem_cons_self)
        · rcases ins_mem e with q | q
          · exact .inl q
          · exact .inr (List.mem_cons_of_mem _ q)

theorem ins_rise {α : Type} {x : Int} {l : α} : ∀ {s : List (Int × α)}, Rise s → Rise (ins x l s)
  | [], _ => by simp [ins, Rise]
  | (k, m) :: r, h => by
    obtain ⟨h1, h2⟩ := List.pairwise_cons.1 h
    unfold ins
    split
    · rename_i hx
      refine List.pairwise_cons.2 ⟨fun p hp => ?_, h⟩
      rcases List.mem_cons.1 hp with e | e
      · rw [e]; exact hx
      · have := h1 p e
        show x < p.1
        have h3 : k < p.1 := this
        omega
    · split
      · rename_i _ e
        refine List.pairwise_cons.2 ⟨fun p hp => ?_, h2⟩
        have h3 : k < p.1 := h1 p hp
        show x < p.1
        omega
      · rename_i h3 h4
        refine List.pairwise_cons.2 ⟨fun p hp => ?_, ins_rise h2⟩
        rcases ins_mem hp with e | e
        · rw [e]
          show k < x
          omega
        · exact h1 p e

theorem get_none_of {x : Int} : ∀ {s : St}, (∀ p ∈ s, x < p.1) → get s x = none
  | [], _ => rfl
  | (k, l) :: r, h => by
    have h1 : x < k := h (k, l) List.mem_cons_self
    unfold get
    rw [if_neg (by omega)]
    exact get_none_of fun p hp => h p (List.mem_cons_of_mem _ hp)

theorem get_ins_same {x : Int} {l : Ls} : ∀ {s : St}, Rise s → get (ins x l s) x = some l
  | [], _ => by simp [ins, get]
  | (k, m) :: r, h => by
    obtain ⟨h1, h2⟩ := List.pairwise_cons.1 h
    unfold ins
    split
    · simp [get]
    · split
      · simp [get]
      · rename_i h3 h4
        unfold get
        rw [if_neg h4]
        exact get_ins_same h2

theorem get_ins_other {x y : Int} {l : Ls} (hxy : y ≠ x) : ∀ {s : St}, Rise s → get (ins x l s) y = get s y
  | [], _ => by simp [ins, get, Ne.symm hxy]
  | (k, m) :: r, h => by
    obtain ⟨h1, h2⟩ := List.pairwise_cons.1 h
    unfold ins
    split
    · show (if x = y then some l else get ((k, m) :: r) y) = _
      rw [if_neg (Ne.symm hxy)]
    · split
      · rename_i h3 h4
        show (if x = y then some l else get r y) = (if k = y then some m else get r y)
        rw [if_neg (Ne.symm hxy), if_neg (by omega)]
      · rename_i h3 h4
        show (if k = y then some m else get (ins x l r) y) = (if k = y then some m else get r y)
        rw [get_ins_other hxy h2]

theorem len_ins {x : Int} {l : Ls} : ∀ {s : St}, Rise s → (ins x l s).length = if (get s x).isSome then s.length else s.length + 1
  | [], _ => by simp [ins, get]
  | (k, m) :: r, h => by
    obtain ⟨h1, h2⟩ := List.pairwise_cons.1 h
    unfold ins
    split
    · rename_i hx
      have hn : get ((k, m) :: r) x = none := get_none_of fun p hp => by
        rcases List.mem_cons.1 hp with e | e
        · rw [e]; exact hx
        · have h3 : k < p.1 := h1 p e
          omega
      rw [hn]
      simp
    · split
      · rename_i h3 h4
        have hs : get ((k, m) :: r) x = some m := by unfold get; rw [if_pos h4]
        rw [hs]
        simp
      · rename_i h3 h4
        have hs : get ((k, m) :: r) x = get r x := by
          show (if k = x then some m else get r x) = _
          rw [if_neg h4]
        rw [hs, List.length_cons, len_ins h2]
        split <;> simp

theorem put_rise {s : St} {a b : Int} {r : Mo.Re} (h : Rise s) : Rise (put s a b r) := by
  unfold put
  split
  · exact ins_rise h
  · exact h
theorem put_len {s : St} {a b : Int} {r : Mo.Re} (h : Rise s) (hl : s.length ≤ 64) : (put s a b r).length ≤ 64 := by
  unfold put
  split
  · rename_i he
    rw [len_ins h]
    unfold putE at he
    split at he
    · cases he
    · split at he
      · cases he
      · cases hg : get s a with
        | none =>
          rw [hg] at he
          dsimp only at he
          split at he
          · cases he
          · simp; omega
        | some l => simp; omega
  · exact hl

end Go.Proofs.Ytepbmfjimppgcaa.Se
