/-
  The document's texts, sign by sign; it is the same as byte by byte.
-/
import Derived.Test.YtkioeahlajjmiaaMath
namespace Go.Proofs.Ytkioeahlajjmiaa.M

/-- A byte that goes on. -/
def cont (b : UInt8) : Bool := decide (128 ≤ b.toNat ∧ b.toNat ≤ 191)

/-- Are the first n bytes such as go on? -/
def moreL (l : List UInt8) (n : Nat) : Bool := decide (n ≤ l.length) && (l.take n).all cont

/-- How many bytes the first sign has; 0: it is none. -/
def oneL : List UInt8 → Nat
  | [] => 0
  | b :: r =>
    if b.toNat < 128 then 1
    else if 192 ≤ b.toNat ∧ b.toNat < 224 then
      match moreL r 1, r with
      | true, c :: _ => if 128 ≤ b.toNat % 32 * 64 + c.toNat % 64 then 2 else 0
      | _, _ => 0
    else if 224 ≤ b.toNat ∧ b.toNat < 240 then
      match moreL r 2, r with
      | true, c :: d :: _ => if 2048 ≤ (b.toNat % 16 * 64 + c.toNat % 64) * 64 + d.toNat % 64 ∧ ((b.toNat % 16 * 64 + c.toNat % 64) * 64 + d.toNat % 64 < 55296 ∨ 57343 < (b.toNat % 16 * 64 + c.toNat % 64) * 64 + d.toNat % 64) then 3 else 0
      | _, _ => 0
    else if 240 ≤ b.toNat ∧ b.toNat < 248 then
      match moreL r 3, r with
      | true, c :: d :: e :: _ => if 65536 ≤ ((b.toNat % 8 * 64 + c.toNat % 64) * 64 + d.toNat % 64) * 64 + e.toNat % 64 ∧ ((b.toNat % 8 * 64 + c.toNat % 64) * 64 + d.toNat % 64) * 64 + e.toNat % 64 ≤ 1114111 then 4 else 0
      | _, _ => 0
    else 0

theorem oneL_cons (b : UInt8) (r : List UInt8) : oneL (b :: r) = (
    if b.toNat < 128 then 1
    else if 192 ≤ b.toNat ∧ b.toNat < 224 then
      match moreL r 1, r with
      | true, c :: _ => if 128 ≤ b.toNat % 32 * 64 + c.toNat % 64 then 2 else 0
      | _, _ => 0
    else if 224 ≤ b.toNat ∧ b.toNat < 240 then
      match moreL r 2, r with
      | true, c :: d :: _ => if 2048 ≤ (b.toNat % 16 * 64 + c.toNat % 64) * 64 + d.toNat % 64 ∧ ((b.toNat % 16 * 64 + c.toNat % 64) * 64 + d.toNat % 64 < 55296 ∨ 57343 < (b.toNat % 16 * 64 + c.toNat % 64) * 64 + d.toNat % 64) then 3 else 0
      | _, _ => 0
    else if 240 ≤ b.toNat ∧ b.toNat < 248 then
      match moreL r 3, r with
      | true, c :: d :: e :: _ => if 65536 ≤ ((b.toNat % 8 * 64 + c.toNat % 64) * 64 + d.toNat % 64) * 64 + e.toNat % 64 ∧ ((b.toNat % 8 * 64 + c.toNat % 64) * 64 + d.toNat % 64) * 64 + e.toNat % 64 ≤ 1114111 then 4 else 0
      | _, _ => 0
    else 0) := rfl

/-- Are the bytes a text? f: how many signs at most. -/
def rValidF : Nat → List UInt8 → Bool
  | 0, l => l.isEmpty
  | f + 1, l => if l = [] then true else if oneL l = 0 then false else rValidF f (l.drop (oneL l))

theorem mv_zero (x y : Nat) (l : List UInt8) : mValid ⟨0, x, y⟩ l = mValid ⟨0, 0, 0⟩ l := by
  cases l with
  | nil => rfl
  | cons b r => simp [mValid]

theorem moreL_nil (n : Nat) : moreL [] (n + 1) = false := by simp [moreL]
theorem moreL_cons (c : UInt8) (r : List UInt8) (n : Nat) : moreL (c :: r) (n + 1) = (cont c && moreL r n) := by
  simp [moreL, Bool.and_left_comm]
theorem moreL_zero (l : List UInt8) : moreL l 0 = true := by simp [moreL]

theorem cont_iff (c : UInt8) : cont c = true ↔ c.toNat / 64 = 2 := by
  simp [cont]; omega

theorem char1_no {c : Ch} {b : UInt8} (h : cont b = false) : char1 c b.toNat = none := by
  unfold char1
  rw [if_neg]
  intro e
  rw [(cont_iff b).2 e] at h
  cases h

theorem char1_more {c : Ch} {b : UInt8} (h : cont b = true) (hl : 1 < c.left) : char1 c b.toNat = some ⟨c.left - 1, c.number * 64 + b.toNat % 64, c.least⟩ := by
  unfold char1
  rw [if_pos ((cont_iff b).1 h), if_pos (Or.inl hl)]

theorem char1_last {c : Ch} {b : UInt8} (h : cont b = true) (hl : c.left = 1) : char1 c b.toNat = if fits (c.number * 64 + b.toNat % 64) c.least = true then some ⟨0, c.number * 64 + b.toNat % 64, c.least⟩ else none := by
  unfold char1
  rw [if_pos ((cont_iff b).1 h), hl]
  split <;> rename_i h1
  · rw [if_pos (h1.resolve_left (by omega))]
  · rw [if_neg (by intro e; exact h1 (Or.inr e))]

theorem mv_cons (c : Ch) (b : UInt8) (r : List UInt8) : mValid c (b :: r) = match (if c.left = 0 then char0 b.toNat else char1 c b.toNat) with | none => false | some c' => mValid c' r := rfl

/-- One step of a character that is not whole yet. -/
theorem mv_bad {c : Ch} (hl : c.left ≠ 0) (r : List UInt8) (h : moreL r 1 = false) : mValid c r = false := by
  cases r with
  | nil => simp [mValid, hl]
  | cons b r =>
    rw [moreL_cons, moreL_zero, Bool.and_true] at h
    rw [mv_cons, if_neg hl, char1_no h]

theorem mv_last {c : Ch} (hl : c.left = 1) (b : UInt8) (r : List UInt8) (h : cont b = true) : mValid c (b :: r) = if fits (c.number * 64 + b.toNat % 64) c.least = true then mValid ⟨0, 0, 0⟩ r else false := by
  rw [mv_cons, if_neg (by omega), char1_last h hl]
  by_cases hf : fits (c.number * 64 + b.toNat % 64) c.least = true
  · rw [if_pos hf, if_pos hf]; exact mv_zero _ _ r
  · rw [if_neg hf, if_neg hf]

theorem mv_more {c : Ch} (hl : 1 < c.left) (b : UInt8) (r : List UInt8) (h : cont b = true) : mValid c (b :: r) = mValid ⟨c.left - 1, c.number * 64 + b.toNat % 64, c.least⟩ r := by
  rw [mv_cons, if_neg (by omega), char1_more h hl]

theorem fits2 {n : Nat} (h : n < 2048) : (fits n 128 = true) ↔ 128 ≤ n := by simp [fits]; omega
theorem fits3 {n : Nat} (h : n < 65536) : (fits n 2048 = true) ↔ (2048 ≤ n ∧ (n < 55296 ∨ 57343 < n)) := by simp [fits]; omega
theorem fits4 {n : Nat} : (fits n 65536 = true) ↔ (65536 ≤ n ∧ n ≤ 1114111) := by simp [fits]; omega

theorem ite_false_iff {p q : Prop} [Decidable p] [Decidable q] {a : Bool} (h : p ↔ q) : (if p then a else false) = if q then a else false := by
  by_cases hp : p
  · rw [if_pos hp, if_pos (h.1 hp)]
  · rw [if_neg hp, if_neg (fun hq => hp (h.2 hq))]

/-- A sign of k bytes, k > 0, if p; else none. -/
theorem pick_one {p : Prop} [Decidable p] {k : Nat} {l r : List UInt8} (hk : k ≠ 0) (hd : l.drop k = r) :
    (if (if p then k else 0) = 0 then false else mValid ⟨0, 0, 0⟩ (l.drop (if p then k else 0))) = if p then mValid ⟨0, 0, 0⟩ r else false := by
  by_cases hp : p
  · simp only [if_pos hp]; rw [if_neg hk, hd]
  · simp only [if_neg hp]; rfl

theorem mv_step1 (b : UInt8) (r : List UInt8) : mValid ⟨0, 0, 0⟩ (b :: r) = if oneL (b :: r) = 0 then false else mValid ⟨0, 0, 0⟩ ((b :: r).drop (oneL (b :: r))) := by
  have hb : b.toNat < 256 := b.toNat_lt
  rw [mv_cons, if_pos rfl]
  unfold oneL
  by_cases h1 : b.toNat < 128
  · simp only [if_pos h1]
    rw [show char0 b.toNat = some ⟨0, 0, 0⟩ from by unfold char0; rw [if_pos h1]]
    rfl
  · simp only [if_neg h1]
    by_cases h2 : 192 ≤ b.toNat ∧ b.toNat < 224
    · simp only [if_pos h2]
      rw [show char0 b.toNat = some ⟨1, b.toNat % 32, 128⟩ from by unfold char0; rw [if_neg h1, if_pos (by omega)]]
      simp only
      cases hm : moreL r 1 with
      | false => simp only; exact mv_bad (by simp) r hm
      | true =>
        cases r with
        | nil => rw [moreL_nil] at hm; cases hm
        | cons c r =>
          rw [moreL_cons, moreL_zero, Bool.and_true] at hm
          have hc : c.toNat < 256 := c.toNat_lt
          simp only
          rw [mv_last rfl c r hm, pick_one (k := 2) (r := r) (by decide) rfl]
          exact ite_false_iff (fits2 (by simp only; omega))
    · simp only [if_neg h2]
      by_cases h3 : 224 ≤ b.toNat ∧ b.toNat < 240
      · simp only [if_pos h3]
        rw [show char0 b.toNat = some ⟨2, b.toNat % 16, 2048⟩ from by unfold char0; rw [if_neg h1, if_neg (by omega), if_pos (by omega)]]
        simp only
        cases r with
        | nil => rw [moreL_nil]; rfl
        | cons c r =>
          rw [moreL_cons]
          cases hc : cont c with
          | false =>
            simp only [Bool.false_and]
            exact mv_bad (by simp) _ (by rw [moreL_cons, hc]; rfl)
          | true =>
            simp only [Bool.true_and]
            rw [mv_more (by simp) c r hc]
            cases hm : moreL r 1 with
            | false => simp only; exact mv_bad (by simp) r hm
            | true =>
              cases r with
              | nil => rw [moreL_nil] at hm; cases hm
              | cons d r =>
                rw [moreL_cons, moreL_zero, Bool.and_true] at hm
                simp only
                rw [mv_last rfl d r hm, pick_one (k := 3) (r := r) (by decide) rfl]
                exact ite_false_iff (fits3 (by simp only; omega))
      · simp only [if_neg h3]
        by_cases h4 : 240 ≤ b.toNat ∧ b.toNat < 248
        · simp only [if_pos h4]
          rw [show char0 b.toNat = some ⟨3, b.toNat % 8, 65536⟩ from by unfold char0; rw [if_neg h1, if_neg (by omega), if_neg (by omega), if_pos (by omega)]]
          simp only
          cases r with
          | nil => rw [moreL_nil]; rfl
          | cons c r =>
            rw [moreL_cons]
            cases hc : cont c with
            | false =>
              simp only [Bool.false_and]
              exact mv_bad (by simp) _ (by rw [moreL_cons, hc]; rfl)
            | true =>
              simp only [Bool.true_and]
              rw [mv_more (by simp) c r hc]
              cases r with
              | nil => rw [moreL_nil]; rfl
              | cons d r =>
                rw [moreL_cons]
                cases hd : cont d with
                | false =>
                  simp only [Bool.false_and]
                  exact mv_bad (by simp) _ (by rw [moreL_cons, hd]; rfl)
                | true =>
                  simp only [Bool.true_and]
                  rw [mv_more (by simp) d r hd]
                  cases hm : moreL r 1 with
                  | false => simp only; exact mv_bad (by simp) r hm
                  | true =>
                    cases r with
                    | nil => rw [moreL_nil] at hm; cases hm
                    | cons e r =>
                      rw [moreL_cons, moreL_zero, Bool.and_true] at hm
                      simp only
                      rw [mv_last rfl e r hm, pick_one (k := 4) (r := r) (by decide) rfl]
                      exact ite_false_iff fits4
        · simp only [if_neg h4]
          rw [show char0 b.toNat = none from by unfold char0; rw [if_neg h1, if_neg (by omega), if_neg (by omega), if_neg (by omega)]]
          rfl

theorem rValid_eq : ∀ (f : Nat) (l : List UInt8), l.length ≤ f → rValidF f l = mValid ⟨0, 0, 0⟩ l
  | 0, l, h => by
    have e : l = [] := List.eq_nil_of_length_eq_zero (by omega)
    subst e; rfl
  | f + 1, l, h => by
    cases l with
    | nil => rfl
    | cons b r =>
      rw [mv_step1 b r, rValidF, if_neg (by simp)]
      by_cases h0 : oneL (b :: r) = 0
      · rw [if_pos h0, if_pos h0]
      · rw [if_neg h0, if_neg h0]
        exact rValid_eq f _ (by simp at h ⊢; omega)

end Go.Proofs.Ytkioeahlajjmiaa.M
