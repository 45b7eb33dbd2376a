/-
  Letters under way, over plain lists.
-/
import Derived.WalkKit
namespace Go.Proofs.Ytpopanfefpehnaa
namespace Q

/-- A letter. -/
structure Lt where
  fr : Int
  tt : Int
  tx : ByteArray

def Lt.on (l : Lt) (a b : Int) : Bool := decide (l.fr = a) && decide (l.tt = b)

/-- How many go from a to b. -/
def cnt (ls : List Lt) (a b : Int) : Nat := ls.countP (fun l => l.on a b)

theorem on_iff (l : Lt) (a b : Int) : l.on a b = true ↔ l.fr = a ∧ l.tt = b := by simp [Lt.on]

theorem cnt_nil (a b : Int) : cnt [] a b = 0 := rfl
theorem cnt_snoc (ls : List Lt) (l : Lt) (a b : Int) : cnt (ls ++ [l]) a b = cnt ls a b + (if l.fr = a ∧ l.tt = b then 1 else 0) := by
  unfold cnt
  rw [List.countP_append]
  simp [List.countP_cons, on_iff]
theorem cnt_le (ls : List Lt) (a b : Int) : cnt ls a b ≤ ls.length := List.countP_le_length

theorem cnt_cons (l : Lt) (ls : List Lt) (a b : Int) : cnt (l :: ls) a b = cnt ls a b + (if l.fr = a ∧ l.tt = b then 1 else 0) := by
  simp [cnt, List.countP_cons, on_iff]

theorem cnt_erase : ∀ (ls : List Lt) (i : Nat) (l : Lt), ls[i]? = some l → ∀ a b, cnt ls a b = cnt (ls.eraseIdx i) a b + (if l.fr = a ∧ l.tt = b then 1 else 0)
  | [], _, _, h, _, _ => by simp at h
  | x :: ls, 0, l, h, a, b => by
    have : x = l := by simpa using h
    subst this
    simp [cnt_cons]
  | x :: ls, i + 1, l, h, a, b => by
    rw [List.eraseIdx_cons_succ, cnt_cons, cnt_cons, cnt_erase ls i l (by simpa using h) a b]
    omega

/-- All to one are lost. -/
def cutL (ls : List Lt) (t : Int) : List Lt := ls.filter (fun l => !decide (l.tt = t))

theorem cnt_cut (t : Int) : ∀ (ls : List Lt) (a b : Int), cnt (cutL ls t) a b = if b = t then 0 else cnt ls a b
  | [], a, b => by simp [cutL, cnt_nil]
  | l :: ls, a, b => by
    have ih := cnt_cut t ls a b
    unfold cutL at ih ⊢
    by_cases h : l.tt = t
    · rw [List.filter_cons_of_neg (by simp [h]), ih, cnt_cons]
      split
      · rfl
      · rename_i hb
        rw [if_neg (by rintro ⟨_, e⟩; exact hb (e ▸ h))]
        omega
    · rw [List.filter_cons_of_pos (by simp [h]), cnt_cons, ih, cnt_cons]
      split
      · rename_i hb
        rw [if_neg (by rintro ⟨_, e⟩; exact h (e.trans hb))]
      · rfl

/-- A letter that may be. -/
def LtOk (l : Lt) : Prop := (0 ≤ l.fr ∧ l.fr ≤ 255) ∧ (0 ≤ l.tt ∧ l.tt ≤ 255) ∧ l.tx.size ≤ 1048576

/-- A net. -/
structure St where
  most : Int
  ls : List Lt

structure Ok (s : St) : Prop where
  most : 1 ≤ s.most ∧ s.most ≤ 4096
  ls : ∀ l ∈ s.ls, LtOk l

/-- What Put answers. -/
def putE (s : St) (l : Lt) : Int :=
  if l.fr < 0 ∨ l.fr > 255 ∨ l.tt < 0 ∨ l.tt > 255 then 1
  else if l.tx.size > 1048576 then 4
  else if (cnt s.ls l.fr l.tt : Int) ≥ s.most then 2
  else 0
def put (s : St) (l : Lt) : St := if putE s l = 0 then { s with ls := s.ls ++ [l] } else s

/-- The place of a number. -/
def place (k : Int) (n : Nat) : Nat := (k % 18446744073709551616).toNat % n

theorem place_lt (k : Int) {n : Nat} (hn : 0 < n) : place k n < n := Nat.mod_lt _ hn

theorem put_ok {s : St} (h : Ok s) (l : Lt) : Ok (put s l) := by
  unfold put
  split
  · rename_i e
    refine ⟨h.most, fun x hx => ?_⟩
    have hx' : x ∈ s.ls ++ [l] := hx
    rcases List.mem_append.1 hx' with q | q
    · exact h.ls x q
    · have : x = l := by simpa using q
      subst this
      unfold putE at e
      split at e
      · omega
      · split at e
        · omega
        · rename_i h1 h2
          exact ⟨by omega, by omega, by omega⟩
  · exact h

theorem erase_ok {s : St} (h : Ok s) (i : Nat) : Ok { s with ls := s.ls.eraseIdx i } :=
  ⟨h.most, fun x hx => h.ls x (List.mem_of_mem_eraseIdx hx)⟩
theorem cut_ok {s : St} (h : Ok s) (t : Int) : Ok { s with ls := cutL s.ls t } :=
  ⟨h.most, fun x hx => h.ls x ((List.mem_filter.1 hx).1)⟩

end Q
end Go.Proofs.Ytpopanfefpehnaa
