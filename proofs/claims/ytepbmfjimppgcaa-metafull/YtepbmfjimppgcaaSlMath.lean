/-
  Which group has which slot, over plain numbers: new, give, ranges, bytes.
-/
import Derived.Test.YtepbmfjimppgcaaMath
namespace Go.Proofs.Ytepbmfjimppgcaa.Sl

/-- Who has each slot, and since which time. -/
structure St where
  O : Nat → Nat
  E : Nat → Nat

/-- What may be. -/
def Ok (s : St) : Prop := ∀ i, i < 16 → 1 ≤ s.O i ∧ s.O i ≤ 8 ∧ 1 ≤ s.E i ∧ s.E i ≤ 2147483647

def new (k : Nat) : St := ⟨fun i => 1 + i * k / 16, fun _ => 1⟩
theorem new_le {k : Nat} (hk : 1 ≤ k ∧ k ≤ 8) {i : Nat} (hi : i < 16) : 1 + i * k / 16 ≤ k := by
  have h1 : i * k ≤ 15 * k := Nat.mul_le_mul_right k (by omega)
  have h2 : i * k / 16 ≤ 15 * k / 16 := Nat.div_le_div_right h1
  have h3 : 15 * k / 16 < k := by omega
  omega
theorem new_ok {k : Nat} (hk : 1 ≤ k ∧ k ≤ 8) : Ok (new k) := fun i hi => by
  have := new_le hk hi
  refine ⟨?_, ?_, ?_, ?_⟩
  · show 1 ≤ 1 + i * k / 16; omega
  · show 1 + i * k / 16 ≤ 8; omega
  · show 1 ≤ 1; omega
  · show 1 ≤ 2147483647; omega

/-- What Give answers. -/
def giveE (s : St) (a g : Int) : Nat :=
  if 0 ≤ a ∧ a < 16 ∧ 1 ≤ g ∧ g ≤ 8 then
    if (s.O a.toNat : Int) = g then 90 else if s.E a.toNat = 2147483647 then 1 else 0
  else 1

/-- One owner more. -/
def put (s : St) (i g : Nat) : St := ⟨fun j => if j = i then g else s.O j, fun j => if j = i then s.E i + 1 else s.E j⟩
def give (s : St) (a g : Int) : St := if giveE s a g = 0 then put s a.toNat g.toNat else s

theorem put_ok {s : St} (h : Ok s) {i g : Nat} (hg : 1 ≤ g ∧ g ≤ 8) (he : s.E i ≠ 2147483647) (hi : i < 16) : Ok (put s i g) := by
  intro j hj
  obtain ⟨h1, h2, h3, h4⟩ := h j hj
  obtain ⟨h5, h6, h7, h8⟩ := h i hi
  show 1 ≤ (if j = i then g else s.O j) ∧ (if j = i then g else s.O j) ≤ 8 ∧ 1 ≤ (if j = i then s.E i + 1 else s.E j) ∧ (if j = i then s.E i + 1 else s.E j) ≤ 2147483647
  split <;> omega
theorem giveE_0 {s : St} {a g : Int} (h : giveE s a g = 0) : (0 ≤ a ∧ a < 16 ∧ 1 ≤ g ∧ g ≤ 8) ∧ (s.O a.toNat : Int) ≠ g ∧ s.E a.toNat ≠ 2147483647 := by
  unfold giveE at h
  split at h
  · rename_i hc
    split at h
    · omega
    · rename_i h1
      split at h
      · omega
      · rename_i h2
        exact ⟨hc, h1, h2⟩
  · omega
theorem give_ok {s : St} (h : Ok s) (a g : Int) : Ok (give s a g) := by
  unfold give
  split
  · rename_i h0
    obtain ⟨h1, h2, h3⟩ := giveE_0 h0
    exact put_ok h (by omega) h3 (by omega)
  · exact h

/-- The ranges of the first n slots. -/
def rng (O : Nat → Nat) : Nat → List (Nat × Nat × Nat)
  | 0 => []
  | n + 1 => match (rng O n).getLast? with
    | some (l, _, g) => if g = O n then (rng O n).dropLast ++ [(l, n, g)] else rng O n ++ [(n, n, O n)]
    | none => [(n, n, O n)]

/-- They end at the last slot, which its group has. -/
theorem rng_last (O : Nat → Nat) : ∀ n, 0 < n → ∃ pre l, rng O n = pre ++ [(l, n - 1, O (n - 1))] ∧ l < n
  | 0, h => by omega
  | n + 1, _ => by
    rw [rng]
    by_cases h0 : 0 < n
    · obtain ⟨pre, l, e, hl⟩ := rng_last O n h0
      rw [e, List.getLast?_concat]
      simp only
      split
      · rename_i e2
        rw [List.dropLast_concat]
        exact ⟨pre, l, by rw [Nat.add_sub_cancel, e2], by omega⟩
      · exact ⟨pre ++ [(l, n - 1, O (n - 1))], n, by rw [Nat.add_sub_cancel], by omega⟩
    · obtain rfl : n = 0 := by omega
      exact ⟨[], 0, by simp [rng], by omega⟩

theorem rng_same {O : Nat → Nat} {n : Nat} {pre : List (Nat × Nat × Nat)} {l h g : Nat} (e : rng O n = pre ++ [(l, h, g)]) (hg : g = O n) : rng O (n + 1) = pre ++ [(l, n, g)] := by
  rw [rng, e, List.getLast?_concat]
  simp only
  rw [if_pos hg, List.dropLast_concat]
theorem rng_other {O : Nat → Nat} {n : Nat} {pre : List (Nat × Nat × Nat)} {l h g : Nat} (e : rng O n = pre ++ [(l, h, g)]) (hg : g ≠ O n) : rng O (n + 1) = rng O n ++ [(n, n, O n)] := by
  rw [rng]
  rw [show (rng O n).getLast? = some (l, h, g) by rw [e, List.getLast?_concat]]
  simp only
  rw [if_neg hg]
theorem rng_first (O : Nat → Nat) : rng O 1 = [(0, 0, O 0)] := by simp [rng]
theorem rng_len (O : Nat → Nat) : ∀ n, (rng O n).length ≤ n
  | 0 => by simp [rng]
  | n + 1 => by
    have ih := rng_len O n
    by_cases h0 : 0 < n
    · obtain ⟨pre, l, e, hl⟩ := rng_last O n h0
      by_cases hg : O (n - 1) = O n
      · rw [rng_same e hg]
        rw [e] at ih
        simp at ih ⊢
        omega
      · rw [rng_other e hg]
        simp
        omega
    · obtain rfl : n = 0 := by omega
      rw [rng_first]
      simp

/-- The bytes of the first n slots. -/
def bytesTo (s : St) : Nat → List UInt8
  | 0 => [83]
  | n + 1 => bytesTo s n ++ (s.O n).toUInt8 :: M.putVar (s.E n)

end Go.Proofs.Ytepbmfjimppgcaa.Sl
