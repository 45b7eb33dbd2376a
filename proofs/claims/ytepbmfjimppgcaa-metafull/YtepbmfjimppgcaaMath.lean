/-
  The document's numbers and texts as bytes, as plain functions on lists of bytes; what is put is read back.
-/
namespace Go.Proofs.Ytepbmfjimppgcaa.M

/-- A number as bytes, seven bits each; at most f + 1 bytes. -/
def putVarF : Nat → Nat → List UInt8
  | 0, n => [n.toUInt8]
  | f + 1, n => if n < 128 then [n.toUInt8] else (n % 128 + 128).toUInt8 :: putVarF f (n / 128)

theorem putVarF_eq : ∀ (f g n : Nat), n ≤ f → n ≤ g → putVarF f n = putVarF g n
  | 0, 0, _, _, _ => rfl
  | 0, g + 1, n, h, _ => by rw [putVarF, putVarF, if_pos (by omega)]
  | f + 1, 0, n, _, h => by rw [putVarF, putVarF, if_pos (by omega)]
  | f + 1, g + 1, n, h1, h2 => by
    rw [putVarF, putVarF]
    split
    · rfl
    · rw [putVarF_eq f g (n / 128) (by omega) (by omega)]

/-- A number as bytes, seven bits each. -/
def putVar (n : Nat) : List UInt8 := putVarF n n

theorem putVar_lt {n : Nat} (h : n < 128) : putVar n = [n.toUInt8] := by
  unfold putVar
  match n, h with
  | 0, _ => rfl
  | n + 1, h => rw [putVarF, if_pos h]
theorem putVar_ge {n : Nat} (h : ¬ n < 128) : putVar n = (n % 128 + 128).toUInt8 :: putVar (n / 128) := by
  unfold putVar
  match n, h with
  | 0, h => exact absurd (by decide) h
  | n + 1, h => rw [putVarF, if_neg h, putVarF_eq n ((n + 1) / 128) ((n + 1) / 128) (by omega) (Nat.le_refl _)]

theorem putVar_length (k : Nat) : ∀ n, n < 128 ^ (k + 1) → (putVar n).length ≤ k + 1 := by
  induction k with
  | zero => intro n h; rw [putVar_lt (by simpa using h)]; simp
  | succ k ih =>
    intro n h
    by_cases hn : n < 128
    · rw [putVar_lt hn]; simp
    · rw [putVar_ge hn]
      have := ih (n / 128) (by rw [Nat.div_lt_iff_lt_mul (by omega)]; rw [Nat.pow_succ 128 (k + 1)] at h; exact h)
      simp; omega

theorem putVar_length9 {n : Nat} (h : n < 9223372036854775808) : (putVar n).length ≤ 9 := putVar_length 8 n (by simpa using h)

theorem putVar_ne (n : Nat) : putVar n ≠ [] := by
  by_cases hn : n < 128
  · rw [putVar_lt hn]; simp
  · rw [putVar_ge hn]; simp

/-- Reading a number: i bytes have been read, they make n. The answer: the number, how many bytes, the error (0 none, 5 too short, 10 no number). -/
def varGo (i n : Nat) : List UInt8 → Nat × Nat × Nat
  | [] => if 9 ≤ i then (0, 0, 10) else (0, 0, 5)
  | b :: r => if 9 ≤ i then (0, 0, 10) else if 128 ≤ b.toNat then varGo (i + 1) (n + b.toNat % 128 * 128 ^ i) r else if b.toNat = 0 ∧ 0 < i then (0, 0, 10) else (n + b.toNat * 128 ^ i, i + 1, 0)

def rdVar (l : List UInt8) : Nat × Nat × Nat := varGo 0 0 l

theorem byte_of {a : Nat} (h : a < 256) : (a.toUInt8).toNat = a := by
  simp [Nat.toUInt8, UInt8.toNat_ofNat']; omega

theorem varGo_put (m : Nat) : ∀ (i n : Nat) (t : List UInt8), (0 < i → 0 < m) → m * 128 ^ i < 128 ^ 9 → varGo i n (putVar m ++ t) = (n + m * 128 ^ i, i + (putVar m).length, 0) := by
  induction m using Nat.strongRecOn with
  | ind m ih =>
    intro i n t hi hlt
    have hi9 : m ≠ 0 → i < 9 := by
      intro hm
      apply Classical.byContradiction
      intro hc
      have h1 : 128 ^ 9 ≤ 128 ^ i := Nat.pow_le_pow_right (by omega) (by omega)
      have h2 : 1 * 128 ^ i ≤ m * 128 ^ i := Nat.mul_le_mul_right _ (by omega)
      omega
    have hi9' : ¬ 9 ≤ i := by
      by_cases hm : m = 0
      · by_cases h0 : 0 < i
        · have := hi h0; omega
        · omega
      · have := hi9 hm; omega
    by_cases hm : m < 128
    · rw [putVar_lt hm]
      have hb : (m.toUInt8).toNat = m := byte_of (by omega)
      simp only [List.cons_append, List.nil_append, varGo, hb]
      rw [if_neg hi9', if_neg (by omega), if_neg (by rintro ⟨rfl, h⟩; have := hi h; omega)]
      simp
    · rw [putVar_ge hm]
      have hb : ((m % 128 + 128).toUInt8).toNat = m % 128 + 128 := byte_of (by omega)
      simp only [List.cons_append, varGo, hb]
      rw [if_neg hi9', if_pos (by omega)]
      have e1 : m * 128 ^ i = m % 128 * 128 ^ i + m / 128 * 128 ^ (i + 1) := by
        rw [Nat.pow_succ, Nat.mul_comm (128 ^ i) 128, ← Nat.mul_assoc, ← Nat.add_mul]
        congr 1
        omega
      have hpos : 0 < 128 ^ i := Nat.pow_pos (by omega)
      rw [ih (m / 128) (by omega) (i + 1) _ t (fun _ => by omega) (by omega)]
      have e2 : (m % 128 + 128) % 128 = m % 128 := by omega
      rw [e2]
      simp only [List.length_cons, Prod.mk.injEq, and_true]
      exact ⟨by omega, by omega⟩

theorem rdVar_put (m : Nat) (t : List UInt8) (h : m < 9223372036854775808) : rdVar (putVar m ++ t) = (m, (putVar m).length, 0) := by
  have := varGo_put m 0 0 t (by omega) (by simpa using h)
  simpa [rdVar] using this

theorem varGo_cons (i : Nat) (l : List UInt8) (h : i < l.length) : ∃ b, l[i]? = some b ∧ l.drop i = b :: l.drop (i + 1) := by
  refine ⟨l[i], by simp [h], ?_⟩
  exact List.drop_eq_getElem_cons h

/-- A character while its bytes come in: how many are still to come, the bits that came, the lowest number of that many bytes. -/
structure Ch where
  left : Nat
  number : Nat
  least : Nat

/-- Its first byte. -/
def char0 (b : Nat) : Option Ch :=
  if b < 128 then some ⟨0, 0, 0⟩ else if b / 32 = 6 then some ⟨1, b % 32, 128⟩ else if b / 16 = 14 then some ⟨2, b % 16, 2048⟩ else if b / 8 = 30 then some ⟨3, b % 8, 65536⟩ else none

/-- May a character of that many bytes have the number? -/
def fits (n m : Nat) : Bool := decide (m ≤ n ∧ n ≤ 1114111 ∧ ¬ (55296 ≤ n ∧ n ≤ 57343))

/-- One more of its bytes. -/
def char1 (c : Ch) (b : Nat) : Option Ch :=
  if b / 64 = 2 then if 1 < c.left ∨ fits (c.number * 64 + b % 64) c.least = true then some ⟨c.left - 1, c.number * 64 + b % 64, c.least⟩ else none else none

/-- Are the bytes, behind those of a character that came, a text? -/
def mValid (c : Ch) : List UInt8 → Bool
  | [] => c.left == 0
  | b :: r => match (if c.left = 0 then char0 b.toNat else char1 c b.toNat) with
    | none => false
    | some c' => mValid c' r

/-- The bits that came are few. -/
def Few (c : Ch) : Prop := c.left ≤ 3 ∧ (c.number + 1) * 64 ^ c.left ≤ 2097152

theorem few0 : Few ⟨0, 0, 0⟩ := by simp [Few]

theorem few_char0 {b : Nat} {c : Ch} (h : char0 b = some c) : Few c := by
  unfold char0 at h
  unfold Few
  split at h
  · cases h; simp
  · split at h
    · cases h; refine ⟨by simp, ?_⟩; simp; omega
    · split at h
      · cases h; refine ⟨by simp, ?_⟩; simp; omega
      · split at h
        · cases h; refine ⟨by simp, ?_⟩; simp; omega
        · cases h

theorem few_char1 {b : Nat} {c c' : Ch} (hc : Few c) (h0 : c.left ≠ 0) (h : char1 c b = some c') : Few c' := by
  unfold char1 at h
  split at h
  · split at h
    · cases h
      obtain ⟨h1, h2⟩ := hc
      refine ⟨by simp; omega, ?_⟩
      obtain ⟨k, hk⟩ : ∃ k, c.left = k + 1 := ⟨c.left - 1, by omega⟩
      rw [hk, Nat.pow_succ, Nat.mul_comm (64 ^ k) 64, ← Nat.mul_assoc] at h2
      have h3 : c.number * 64 + b % 64 + 1 ≤ (c.number + 1) * 64 := by omega
      have h4 := Nat.mul_le_mul_right (64 ^ k) h3
      show (c.number * 64 + b % 64 + 1) * 64 ^ (c.left - 1) ≤ 2097152
      rw [hk, Nat.add_sub_cancel]
      exact Nat.le_trans h4 h2
    · cases h
  · cases h

theorem few_number {c : Ch} (h : Few c) : c.number ≤ 2097151 := by
  have h1 : 1 ≤ 64 ^ c.left := Nat.pow_pos (by omega)
  have h2 : (c.number + 1) * 1 ≤ (c.number + 1) * 64 ^ c.left := Nat.mul_le_mul_left _ h1
  have := h.2
  omega

end Go.Proofs.Ytepbmfjimppgcaa.M
