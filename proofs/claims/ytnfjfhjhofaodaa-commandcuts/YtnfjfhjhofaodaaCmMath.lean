/-
  Fields as bytes, one behind the other: numbers up to a most, and texts; what is put is read back, and only that.
-/
import Derived.Test.YtnfjfhjhofaodaaMath
namespace Go.Proofs.Ytnfjfhjhofaodaa

theorem varGo_inv : ∀ (l : List UInt8) (i n m k : Nat), M.varGo i n l = (m, k, 0) → ∃ q, m = n + q * 128 ^ i ∧ (0 < i → 0 < q) ∧ k = i + (M.putVar q).length ∧ ∃ t, l = M.putVar q ++ t
  | [], i, n, m, k, h => by
    rw [M.varGo] at h
    split at h <;> simp at h
  | b :: r, i, n, m, k, h => by
    have hb := b.toNat_lt
    rw [M.varGo] at h
    by_cases h9 : 9 ≤ i
    · rw [if_pos h9] at h; simp at h
    rw [if_neg h9] at h
    by_cases h1 : 128 ≤ b.toNat
    · rw [if_pos h1] at h
      obtain ⟨q, e1, e2, e3, t, e4⟩ := varGo_inv r (i + 1) _ m k h
      have hq := e2 (by omega)
      have hge : ¬ (q * 128 + b.toNat % 128 < 128) := by omega
      refine ⟨q * 128 + b.toNat % 128, ?_, fun _ => by omega, ?_, t, ?_⟩
      · rw [e1, Nat.pow_succ, Nat.add_mul, Nat.mul_comm (128 ^ i) 128, ← Nat.mul_assoc]; omega
      · rw [M.putVar_ge hge, show (q * 128 + b.toNat % 128) / 128 = q by omega, e3]; simp; omega
      · rw [M.putVar_ge hge, show (q * 128 + b.toNat % 128) / 128 = q by omega, show (q * 128 + b.toNat % 128) % 128 + 128 = b.toNat by omega, e4]
        simp
    · rw [if_neg h1] at h
      by_cases h2 : b.toNat = 0 ∧ 0 < i
      · rw [if_pos h2] at h; simp at h
      · rw [if_neg h2] at h
        simp only [Prod.mk.injEq, and_true] at h
        refine ⟨b.toNat, h.1.symm, fun hi => by omega, ?_, r, ?_⟩
        · rw [M.putVar_lt (by omega)]; simp; omega
        · rw [M.putVar_lt (by omega)]; simp

theorem rdVar_inv {l : List UInt8} {n k : Nat} (h : M.rdVar l = (n, k, 0)) : k = (M.putVar n).length ∧ ∃ t, l = M.putVar n ++ t := by
  obtain ⟨q, e1, e2, e3, t, e4⟩ := varGo_inv l 0 0 n k h
  have : n = q := by rw [e1]; simp
  subst this
  exact ⟨by omega, t, e4⟩

namespace Cm

/-- What a field is: a number up to a most, or a text. -/
abbrev K := Nat ⊕ Unit
abbrev K.n (most : Nat) : K := .inl most
abbrev K.t : K := .inr ()

/-- What stands in it. -/
abbrev V := Int ⊕ ByteArray
abbrev V.n (v : Int) : V := .inl v
abbrev V.t (s : ByteArray) : V := .inr s

def mI : Nat := 1099511627776
def mR : Nat := 262144

def enc1 : K → V → Option (List UInt8)
  | .inl m, .inl v => if 0 ≤ v ∧ v ≤ (m : Int) then some (M.putVar v.toNat) else none
  | .inr _, .inr s => if s.size ≤ mR then some (M.putVar s.size ++ s.data.toList) else none
  | _, _ => none

def enc : List (K × V) → Option (List UInt8)
  | [] => some []
  | (k, v) :: r => match enc1 k v with
    | none => none
    | some a => match enc r with
      | none => none
      | some b => some (a ++ b)

def dec1 : K → List UInt8 → Option (V × List UInt8)
  | .inl m, l => if (M.rdVar l).2.2 = 0 ∧ (M.rdVar l).1 ≤ m then some (.n ((M.rdVar l).1 : Int), l.drop (M.rdVar l).2.1) else none
  | .inr _, l => if (M.rdVar l).2.2 = 0 ∧ (M.rdVar l).1 ≤ mR ∧ (M.rdVar l).1 ≤ (l.drop (M.rdVar l).2.1).length then some (.t ⟨((l.drop (M.rdVar l).2.1).take (M.rdVar l).1).toArray⟩, (l.drop (M.rdVar l).2.1).drop (M.rdVar l).1) else none

def dec : List K → List UInt8 → Option (List (K × V) × List UInt8)
  | [], l => some ([], l)
  | k :: r, l => match dec1 k l with
    | none => none
    | some (v, l1) => match dec r l1 with
      | none => none
      | some (vs, l2) => some ((k, v) :: vs, l2)

theorem enc_append : ∀ (xs ys : List (K × V)), enc (xs ++ ys) = match enc xs with
    | none => none
    | some a => match enc ys with
      | none => none
      | some b => some (a ++ b)
  | [], ys => by
    simp only [List.nil_append, enc]
    cases enc ys <;> simp
  | (k, v) :: r, ys => by
    simp only [List.cons_append, enc]
    cases enc1 k v with
    | none => rfl
    | some a =>
      simp only
      rw [enc_append r ys]
      cases enc r with
      | none => rfl
      | some b =>
        simp only
        cases enc ys <;> simp

theorem dec_append : ∀ (xs ys : List K) (l : List UInt8), dec (xs ++ ys) l = match dec xs l with
    | none => none
    | some (a, l1) => match dec ys l1 with
      | none => none
      | some (b, l2) => some (a ++ b, l2)
  | [], ys, l => by
    simp only [List.nil_append, dec]
    cases dec ys l with
    | none => rfl
    | some p => simp
  | k :: r, ys, l => by
    simp only [List.cons_append, dec]
    cases dec1 k l with
    | none => rfl
    | some p =>
      obtain ⟨v, l1⟩ := p
      simp only
      rw [dec_append r ys l1]
      cases dec r l1 with
      | none => rfl
      | some q =>
        obtain ⟨vs, l2⟩ := q
        simp only
        cases dec ys l2 with
        | none => rfl
        | some z => simp

/-- A field that is put is read back. -/
theorem dec1_enc {k : K} {v : V} {bs : List UInt8} (h : enc1 k v = some bs) (hk : ∀ m, k = .n m → m < 9223372036854775808) (t : List UInt8) : dec1 k (bs ++ t) = some (v, t) := by
  cases k with
  | inl m =>
    cases v with
    | inr s => simp [enc1] at h
    | inl v =>
      rw [enc1] at h
      split at h
      · rename_i hv
        simp only [Option.some.injEq] at h
        subst h
        have hm := hk m rfl
        obtain ⟨k, rfl⟩ := Int.eq_ofNat_of_zero_le hv.1
        rw [Int.toNat_natCast]
        rw [dec1, M.rdVar_put k t (by omega)]
        simp
        omega
      · simp at h
  | inr u =>
    cases v with
    | inl v => simp [enc1] at h
    | inr s =>
      rw [enc1] at h
      split at h
      · rename_i hv
        simp only [Option.some.injEq] at h
        subst h
        unfold mR at hv
        rw [List.append_assoc, dec1, M.rdVar_put s.size _ (by omega)]
        have hs : s.size = s.data.toList.length := by rw [Array.length_toList]; rfl
        have e1 : (M.putVar s.size ++ (s.data.toList ++ t)).drop (M.putVar s.size).length = s.data.toList ++ t := List.drop_left
        have e2 : (s.data.toList ++ t).take s.size = s.data.toList := by rw [hs]; exact List.take_left
        have e3 : (s.data.toList ++ t).drop s.size = t := by rw [hs]; exact List.drop_left
        simp only [e1, e2, e3]
        rw [if_pos ⟨trivial, by unfold mR; omega, by rw [List.length_append]; omega⟩]
      · simp at h

/-- What is read is what would be put. -/
theorem enc1_dec {k : K} {l t : List UInt8} {v : V} (h : dec1 k l = some (v, t)) : ∃ bs, enc1 k v = some bs ∧ l = bs ++ t := by
  cases k with
  | inl m =>
    rw [dec1] at h
    split at h
    · rename_i hv
      simp only [Option.some.injEq, Prod.mk.injEq] at h
      obtain ⟨rfl, rfl⟩ := h
      obtain ⟨hk, t', ht⟩ := rdVar_inv (l := l) (n := (M.rdVar l).1) (k := (M.rdVar l).2.1) (by rw [← hv.1])
      refine ⟨M.putVar (M.rdVar l).1, ?_, ?_⟩
      · rw [enc1, if_pos ⟨by omega, by omega⟩, Int.toNat_natCast]
      · rw [hk]
        generalize M.putVar (M.rdVar l).1 = y at ht
        rw [ht, List.drop_left]
    · simp at h
  | inr u =>
    rw [dec1] at h
    split at h
    · rename_i hv
      simp only [Option.some.injEq, Prod.mk.injEq] at h
      obtain ⟨rfl, rfl⟩ := h
      obtain ⟨hk, t', ht⟩ := rdVar_inv (l := l) (n := (M.rdVar l).1) (k := (M.rdVar l).2.1) (by rw [← hv.1])
      have hd : l.drop (M.rdVar l).2.1 = t' := by
        rw [hk]
        generalize M.putVar (M.rdVar l).1 = y at ht
        rw [ht, List.drop_left]
      rw [hd] at hv ⊢
      have hsz : (⟨(t'.take (M.rdVar l).1).toArray⟩ : ByteArray).size = (M.rdVar l).1 := by
        show (t'.take (M.rdVar l).1).toArray.size = _
        rw [List.size_toArray, List.length_take]
        omega
      refine ⟨M.putVar (M.rdVar l).1 ++ t'.take (M.rdVar l).1, ?_, ?_⟩
      · rw [enc1, hsz, if_pos hv.2.1]
      · rw [List.append_assoc, List.take_append_drop]
        exact ht
    · simp at h

def small (ks : List (K × V)) : Prop := ∀ p ∈ ks, ∀ m, p.1 = .n m → m < 9223372036854775808

theorem dec_enc : ∀ (xs : List (K × V)) (bs : List UInt8), small xs → enc xs = some bs → ∀ t, dec (xs.map (·.1)) (bs ++ t) = some (xs, t)
  | [], bs, _, h, t => by
    simp only [enc, Option.some.injEq] at h
    subst h
    rfl
  | (k, v) :: r, bs, hs, h, t => by
    simp only [enc] at h
    cases h1 : enc1 k v with
    | none => rw [h1] at h; simp at h
    | some a =>
      rw [h1] at h
      simp only at h
      cases h2 : enc r with
      | none => rw [h2] at h; simp at h
      | some b =>
        rw [h2] at h
        simp only [Option.some.injEq] at h
        subst h
        simp only [List.map_cons, dec]
        rw [List.append_assoc, dec1_enc h1 (hs _ (List.mem_cons_self ..))]
        simp only
        rw [dec_enc r b (fun p hp => hs p (List.mem_cons_of_mem _ hp)) h2 t]

theorem enc_dec : ∀ (ks : List K) (l t : List UInt8) (xs : List (K × V)), dec ks l = some (xs, t) → xs.map (·.1) = ks ∧ ∃ bs, enc xs = some bs ∧ l = bs ++ t
  | [], l, t, xs, h => by
    simp only [dec, Option.some.injEq, Prod.mk.injEq] at h
    obtain ⟨rfl, rfl⟩ := h
    exact ⟨rfl, [], rfl, rfl⟩
  | k :: r, l, t, xs, h => by
    simp only [dec] at h
    cases h1 : dec1 k l with
    | none => rw [h1] at h; simp at h
    | some p =>
      obtain ⟨v, l1⟩ := p
      rw [h1] at h
      simp only at h
      cases h2 : dec r l1 with
      | none => rw [h2] at h; simp at h
      | some q =>
        obtain ⟨vs, l2⟩ := q
        rw [h2] at h
        simp only [Option.some.injEq, Prod.mk.injEq] at h
        obtain ⟨rfl, rfl⟩ := h
        obtain ⟨e1, b, e2, e3⟩ := enc_dec r l1 l2 vs h2
        obtain ⟨a, e4, e5⟩ := enc1_dec h1
        refine ⟨by simp [e1], a ++ b, ?_, by rw [e5, e3, List.append_assoc]⟩
        simp only [enc, e4, e2]

/-- So two rows of fields of the same kinds that have the same bytes are the same. -/
theorem enc_inj {xs ys : List (K × V)} {bs : List UInt8} (hk : xs.map (·.1) = ys.map (·.1)) (hs : small xs) (hs' : small ys) (hx : enc xs = some bs) (hy : enc ys = some bs) : xs = ys := by
  have h1 := dec_enc xs bs hs hx []
  have h2 := dec_enc ys bs hs' hy []
  rw [hk, h2] at h1
  simpa using h1.symm

/-- Cut ahead of its end nothing is read whole; with bytes behind it something is left. -/
theorem dec_cut {xs : List (K × V)} {bs : List UInt8} (hs : small xs) (h : enc xs = some bs) {k : Nat} (hk : k < bs.length) : ∀ ys, dec (xs.map (·.1)) (bs.take k) ≠ some (ys, []) := by
  intro ys hd
  obtain ⟨e1, b, e2, e3⟩ := enc_dec _ _ _ _ hd
  rw [List.append_nil] at e3
  have h1 := dec_enc xs bs hs h []
  have h2 := dec_enc ys b (fun p hp m e => by
    have hm : p.1 ∈ ys.map (·.1) := List.mem_map.2 ⟨p, hp, rfl⟩
    rw [e1] at hm
    obtain ⟨q, hq, hqe⟩ := List.mem_map.1 hm
    exact hs q hq m (hqe.trans e)) e2 (bs.drop k)
  rw [e1, ← e3, List.take_append_drop] at h2
  rw [List.append_nil] at h1
  rw [h1] at h2
  simp only [Option.some.injEq, Prod.mk.injEq] at h2
  have := congrArg List.length h2.2
  simp at this
  omega

end Cm
end Go.Proofs.Ytnfjfhjhofaodaa
