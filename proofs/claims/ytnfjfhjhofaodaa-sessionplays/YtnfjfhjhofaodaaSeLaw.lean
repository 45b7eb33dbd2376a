/-
  What the laws' own tables hold.
-/
import Derived.Test.YtnfjfhjhofaodaaSeMath
namespace Go.Proofs.Ytnfjfhjhofaodaa.Se

theorem ins_last {α : Type} {x : Int} {l : α} : ∀ {s : List (Int × α)}, (∀ p ∈ s, p.1 < x) → ins x l s = s ++ [(x, l)]
  | [], _ => rfl
  | (k, m) :: r, h => by
    have h1 : k < x := h (k, m) List.mem_cons_self
    unfold ins
    rw [if_neg (by omega), if_neg (by omega), ins_last fun p hp => h p (List.mem_cons_of_mem _ hp)]
    rfl
theorem get_last {x : Int} : ∀ {s : St}, (∀ p ∈ s, p.1 < x) → get s x = none
  | [], _ => rfl
  | (k, m) :: r, h => by
    have h1 : k < x := h (k, m) List.mem_cons_self
    unfold get
    rw [if_neg (by omega)]
    exact get_last fun p hp => h p (List.mem_cons_of_mem _ hp)
theorem get_append {x : Int} {t : St} : ∀ {s : St}, (∀ p ∈ s, p.1 < x) → get (s ++ t) x = get t x
  | [], _ => rfl
  | (k, m) :: r, h => by
    have h1 : k < x := h (k, m) List.mem_cons_self
    show (if k = x then _ else _) = _
    rw [if_neg (by omega)]
    exact get_append fun p hp => h p (List.mem_cons_of_mem _ hp)
theorem ins_append {α : Type} {x : Int} {l m : α} : ∀ {s : List (Int × α)}, (∀ p ∈ s, p.1 < x) → ins x l (s ++ [(x, m)]) = s ++ [(x, l)]
  | [], _ => by simp [ins]
  | (k, m) :: r, h => by
    have h1 : k < x := h (k, m) List.mem_cons_self
    rw [List.cons_append]
    unfold ins
    rw [if_neg (by omega), if_neg (by omega), ins_append fun p hp => h p (List.mem_cons_of_mem _ hp)]
    rfl

theorem may_ok {a b : Int} (h : (0 ≤ a ∧ a ≤ 2147483647) ∧ 1 ≤ b ∧ b ≤ 2147483647) : may a b = true := by
  unfold may
  simp only [Bool.and_eq_true, decide_eq_true_eq]
  exact h

/-! ### SessionFull -/
def fullS (k : Nat) : St := (List.range k).map fun (i : Nat) => ((i : Int), (⟨1, zero⟩ : Ls))
theorem fullS_lt {k : Nat} {x : Int} (h : (k : Int) ≤ x) : ∀ p ∈ fullS k, p.1 < x := fun p hp => by
  unfold fullS at hp
  obtain ⟨i, hi, rfl⟩ := List.mem_map.1 hp
  have := List.mem_range.1 hi
  show (i : Int) < x
  omega
theorem fullS_succ (k : Nat) : fullS (k + 1) = fullS k ++ [((k : Int), ⟨1, zero⟩)] := by
  unfold fullS
  rw [List.range_succ, List.map_append]
  rfl
theorem fullS_len (k : Nat) : (fullS k).length = k := by simp [fullS]
theorem full_yes {k : Nat} (h : k < 64) : putE (fullS k) (k : Int) 1 ⟨0, 0, []⟩ = 0 ∧ put (fullS k) (k : Int) 1 ⟨0, 0, []⟩ = fullS (k + 1) := by
  have hg : get (fullS k) (k : Int) = none := get_last (fullS_lt (by omega))
  have hm : may (k : Int) 1 = true := may_ok ⟨⟨by omega, by omega⟩, by omega, by omega⟩
  have e : putE (fullS k) (k : Int) 1 ⟨0, 0, []⟩ = 0 := by
    unfold putE
    rw [hm, hg, fullS_len]
    simp
    omega
  refine ⟨e, ?_⟩
  unfold put
  rw [if_pos e, ins_last (fullS_lt (by omega)), fullS_succ]
  rfl
theorem full_no {k : Nat} (h : 64 ≤ k) (h2 : k < 100) : putE (fullS 64) (k : Int) 1 ⟨0, 0, []⟩ = 2 ∧ put (fullS 64) (k : Int) 1 ⟨0, 0, []⟩ = fullS 64 := by
  have hg : get (fullS 64) (k : Int) = none := get_last (fullS_lt (by omega))
  have hm : may (k : Int) 1 = true := may_ok ⟨⟨by omega, by omega⟩, by omega, by omega⟩
  have e : putE (fullS 64) (k : Int) 1 ⟨0, 0, []⟩ = 2 := by
    unfold putE
    rw [hm, hg, fullS_len]
    simp
  refine ⟨e, ?_⟩
  unfold put
  rw [e, if_neg (by decide)]
theorem full_on {k : Nat} (h : 0 < k) : putE (fullS k) 0 2 ⟨0, 9, []⟩ = 0 := by
  obtain ⟨j, rfl⟩ : ∃ j, k = j + 1 := ⟨k - 1, by omega⟩
  have hg : get (fullS (j + 1)) 0 = some ⟨1, zero⟩ := by
    unfold fullS
    rw [List.range_succ_eq_map, List.map_cons]
    simp [get]
  have hm : may 0 2 = true := may_ok ⟨⟨by omega, by omega⟩, by omega, by omega⟩
  unfold putE
  rw [hm, hg]
  simp

/-! ### SessionLast -/
/-- s sessions, each of which has asked k things. -/
def lastS (s k : Nat) : St := (List.range s).map fun (i : Nat) => (7 * (i : Int), (⟨(k : Int), ⟨0, 100 * (i : Int) + (k : Int), []⟩⟩ : Ls))
/-- .. and one that has asked i. -/
def lastT (s k i : Nat) : St := if i = 0 then lastS s k else lastS s k ++ [(7 * (s : Int), ⟨(i : Int), ⟨0, 100 * (s : Int) + (i : Int), []⟩⟩)]
theorem lastS_lt {s k : Nat} : ∀ p ∈ lastS s k, p.1 < 7 * (s : Int) := fun p hp => by
  unfold lastS at hp
  obtain ⟨i, hi, rfl⟩ := List.mem_map.1 hp
  have := List.mem_range.1 hi
  show 7 * (i : Int) < _
  omega
theorem lastS_succ (s k : Nat) (hk : 0 < k) : lastT s k k = lastS (s + 1) k := by
  unfold lastT
  rw [if_neg (by omega)]
  unfold lastS
  rw [List.range_succ, List.map_append]
  rfl
theorem lastS_len (s k : Nat) : (lastS s k).length = s := by simp [lastS]
theorem last_get (s k i : Nat) : get (lastT s k i) (7 * (s : Int)) = if i = 0 then none else some ⟨(i : Int), ⟨0, 100 * (s : Int) + (i : Int), []⟩⟩ := by
  unfold lastT
  split
  · exact get_last lastS_lt
  · rw [get_append lastS_lt]
    show (if _ = _ then _ else _) = _
    rw [if_pos rfl]
theorem lastS_get {s k j : Nat} (h : j < s) : get (lastS s k) (7 * (j : Int)) = some ⟨(k : Int), ⟨0, 100 * (j : Int) + (k : Int), []⟩⟩ := by
  induction s with
  | zero => omega
  | succ s ih =>
    have e : lastS (s + 1) k = lastS s k ++ [(7 * (s : Int), ⟨(k : Int), ⟨0, 100 * (s : Int) + (k : Int), []⟩⟩)] := by
      unfold lastS
      rw [List.range_succ, List.map_append]
      rfl
    rw [e]
    by_cases hj : j = s
    · subst hj
      rw [get_append lastS_lt]
      show (if _ = _ then _ else _) = _
      rw [if_pos rfl]
    · have ih := ih (by omega)
      generalize lastS s k = l at ih
      induction l with
      | nil => cases ih
      | cons p r ihr =>
        obtain ⟨a, b⟩ := p
        have ih' : (if a = 7 * (j : Int) then some b else get r (7 * (j : Int))) = _ := ih
        show (if a = 7 * (j : Int) then some b else get (r ++ _) (7 * (j : Int))) = _
        split
        · rename_i q
          rw [if_pos q] at ih'
          exact ih'
        · rename_i q
          rw [if_neg q] at ih'
          exact ihr ih'
section
variable {s k i : Nat}
theorem last_may (hs : s < 32) (hi : i < 16) : may (7 * (s : Int)) ((i : Int) + 1) = true := may_ok ⟨⟨by omega, by omega⟩, by omega, by omega⟩
/-- It was not asked yet. -/
theorem last_find0 (hs : s < 32) (hi : i < 16) : find (lastT s k i) (7 * (s : Int)) ((i : Int) + 1) = (zero, 3) := by
  unfold find
  rw [last_may hs hi, last_get]
  by_cases h : i = 0
  · rw [if_pos h]; simp
  · rw [if_neg h]
    simp
    omega
theorem last_put (hs : s < 32) (hi : i < 16) : putE (lastT s k i) (7 * (s : Int)) ((i : Int) + 1) ⟨0, 100 * (s : Int) + ((i : Int) + 1), []⟩ = 0 ∧ put (lastT s k i) (7 * (s : Int)) ((i : Int) + 1) ⟨0, 100 * (s : Int) + ((i : Int) + 1), []⟩ = lastT s k (i + 1) := by
  have e : putE (lastT s k i) (7 * (s : Int)) ((i : Int) + 1) ⟨0, 100 * (s : Int) + ((i : Int) + 1), []⟩ = 0 := by
    unfold putE
    rw [last_may hs hi, last_get]
    by_cases h : i = 0
    · rw [if_pos h]
      unfold lastT
      rw [if_pos h, lastS_len]
      simp
      omega
    · rw [if_neg h]
      simp
      omega
  refine ⟨e, ?_⟩
  unfold put
  rw [if_pos e]
  unfold lastT
  rw [if_neg (by omega : ¬ i + 1 = 0)]
  split
  · rename_i h
    rw [ins_last lastS_lt]
    simp
  · rw [ins_append lastS_lt]
    simp
/-- It is there already. -/
theorem last_again (hs : s < 32) (hi : i < 16) : putE (lastT s k (i + 1)) (7 * (s : Int)) ((i : Int) + 1) ⟨0, 0, []⟩ = 110 ∧ put (lastT s k (i + 1)) (7 * (s : Int)) ((i : Int) + 1) ⟨0, 0, []⟩ = lastT s k (i + 1) := by
  have e : putE (lastT s k (i + 1)) (7 * (s : Int)) ((i : Int) + 1) ⟨0, 0, []⟩ = 110 := by
    unfold putE
    rw [last_may hs hi, last_get, if_neg (by omega : ¬ (i + 1 = 0))]
    simp
  refine ⟨e, ?_⟩
  unfold put
  rw [e, if_neg (by decide)]
theorem last_find1 (hs : s < 32) (hi : i < 16) : find (lastT s k (i + 1)) (7 * (s : Int)) ((i : Int) + 1) = (⟨0, 100 * (s : Int) + ((i : Int) + 1), []⟩, 0) := by
  unfold find
  rw [last_may hs hi, last_get, if_neg (by omega : ¬ (i + 1 = 0))]
  simp
theorem last_find2 (hs : s < 32) (hi : i < 16) : find (lastT s k (i + 1)) (7 * (s : Int)) (i : Int) = (zero, if i = 0 then 1 else 110) := by
  unfold find
  by_cases h : i = 0
  · have hm : may (7 * (s : Int)) (i : Int) = false := by
      unfold may
      subst h
      simp
    rw [hm, if_pos h]
    simp
  · have hm : may (7 * (s : Int)) (i : Int) = true := may_ok ⟨⟨by omega, by omega⟩, by omega, by omega⟩
    have h1 : ¬ (((i + 1 : Nat) : Int) < (i : Int)) := by omega
    have h2 : (i : Int) < ((i + 1 : Nat) : Int) := by omega
    rw [hm, last_get, if_neg (by omega : ¬ (i + 1 = 0)), if_neg h, if_neg (by decide)]
    dsimp only
    rw [if_neg h1, if_pos h2]
end
theorem last_found {s k j : Nat} (h : j < s) (hs : s ≤ 32) (hk : 1 ≤ k) (hk' : k ≤ 16) : find (lastS s k) (7 * (j : Int)) (k : Int) = (⟨0, 100 * (j : Int) + (k : Int), []⟩, 0) := by
  have hm : may (7 * (j : Int)) (k : Int) = true := may_ok ⟨⟨by omega, by omega⟩, by omega, by omega⟩
  unfold find
  rw [hm, lastS_get h]
  simp

end Go.Proofs.Ytnfjfhjhofaodaa.Se
