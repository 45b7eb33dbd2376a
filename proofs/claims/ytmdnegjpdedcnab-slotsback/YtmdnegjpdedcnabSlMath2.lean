/-
  Ranges stand one behind the other; a map's bytes, read: plain mathematics.
-/
import Derived.Test.YtmdnegjpdedcnabSlMath
namespace Go.Proofs.Ytmdnegjpdedcnab.Sl

/-- Ranges one behind the other, from slot a on to slot n; the group ahead is b. -/
def chain (O : Nat → Nat) (n : Nat) : Nat → Nat → List (Nat × Nat × Nat) → Prop
  | a, _, [] => a = n
  | a, b, (l, h, g) :: r => l = a ∧ l ≤ h ∧ h < n ∧ g ≠ b ∧ (∀ s, l ≤ s → s ≤ h → O s = g) ∧ chain O n (h + 1) g r

theorem chain_ext {O : Nat → Nat} {n l h g : Nat} (hg : O n = g) : ∀ (pre : List (Nat × Nat × Nat)) (a b : Nat), chain O n a b (pre ++ [(l, h, g)]) → chain O (n + 1) a b (pre ++ [(l, n, g)])
  | [], a, b, hc => by
    obtain ⟨h1, h2, h3, h4, h5, h6⟩ := hc
    have h6 : h + 1 = n := h6
    refine ⟨h1, by omega, by omega, h4, fun s q1 q2 => ?_, rfl⟩
    by_cases e : s = n
    · rw [e]; exact hg
    · exact h5 s q1 (by omega)
  | (l', h', g') :: pre, a, b, hc => by
    obtain ⟨h1, h2, h3, h4, h5, h6⟩ := hc
    exact ⟨h1, h2, by omega, h4, h5, chain_ext hg pre _ _ h6⟩
theorem chain_new {O : Nat → Nat} {n l h g : Nat} (hg : O n ≠ g) : ∀ (pre : List (Nat × Nat × Nat)) (a b : Nat), chain O n a b (pre ++ [(l, h, g)]) → chain O (n + 1) a b (pre ++ [(l, h, g)] ++ [(n, n, O n)])
  | [], a, b, hc => by
    obtain ⟨h1, h2, h3, h4, h5, h6⟩ := hc
    have h6 : h + 1 = n := h6
    refine ⟨h1, h2, by omega, h4, h5, h6.symm, Nat.le_refl _, Nat.lt_succ_self _, hg, fun s q1 q2 => ?_, rfl⟩
    rw [show s = n by omega]
  | (l', h', g') :: pre, a, b, hc => by
    obtain ⟨h1, h2, h3, h4, h5, h6⟩ := hc
    exact ⟨h1, h2, by omega, h4, h5, chain_new hg pre _ _ h6⟩
theorem rng_chain {O : Nat → Nat} (h0 : O 0 ≠ 0) : ∀ n, 0 < n → chain O n 0 0 (rng O n)
  | 0, h => by omega
  | n + 1, _ => by
    by_cases hn : 0 < n
    · obtain ⟨pre, l, e, hl⟩ := rng_last O n hn
      have ih := rng_chain h0 n hn
      by_cases hg : O (n - 1) = O n
      · rw [rng_same e hg]
        rw [e] at ih
        exact chain_ext hg.symm pre 0 0 ih
      · rw [rng_other e hg]
        rw [e] at ih ⊢
        exact chain_new (fun q => hg q.symm) pre 0 0 ih
    · obtain rfl : n = 0 := by omega
      rw [rng_first]
      exact ⟨rfl, Nat.le_refl _, Nat.lt_succ_self _, h0, fun s _ q => by rw [show s = 0 by omega], rfl⟩
theorem chain_at {O : Nat → Nat} {n a b : Nat} {L : List (Nat × Nat × Nat)} {i l h g : Nat} (hc : chain O n a b (L.drop i)) (hi : L[i]? = some (l, h, g)) : l = a ∧ l ≤ h ∧ h < n ∧ g ≠ b ∧ (∀ s, l ≤ s → s ≤ h → O s = g) ∧ chain O n (h + 1) g (L.drop (i + 1)) := by
  obtain ⟨hl, he⟩ := List.getElem?_eq_some_iff.1 hi
  rw [List.drop_eq_getElem_cons hl, he] at hc
  exact hc

/-- A number that was read is what is put for it. -/
theorem varGo_inv : ∀ (l : List UInt8) (i n m k : Nat), M.varGo i n l = (m, k, 0) → ∃ q, m = n + q * 128 ^ i ∧ (0 < i → 0 < q) ∧ k = i + (M.putVar q).length ∧ ∃ t, l = M.putVar q ++ t
  | [], i, n, m, k, h => by
    unfold M.varGo at h
    split at h <;> simp at h
  | b :: r, i, n, m, k, h => by
    unfold M.varGo at h
    have hb : b.toNat < 256 := b.toNat_lt
    by_cases h9 : 9 ≤ i
    · rw [if_pos h9] at h; simp at h
    · rw [if_neg h9] at h
      by_cases h1 : 128 ≤ b.toNat
      · rw [if_pos h1] at h
        obtain ⟨q, e1, e2, e3, t, e4⟩ := varGo_inv r (i + 1) _ m k h
        have hq := e2 (by omega)
        refine ⟨b.toNat % 128 + 128 * q, ?_, fun _ => by omega, ?_, t, ?_⟩
        · rw [e1, Nat.pow_succ, Nat.add_mul, Nat.mul_comm (128 ^ i) 128, ← Nat.mul_assoc, Nat.mul_comm q 128, Nat.add_assoc]
        all_goals rw [M.putVar_ge (by omega), show (b.toNat % 128 + 128 * q) % 128 + 128 = b.toNat by omega, show (b.toNat % 128 + 128 * q) / 128 = q by omega]
        · rw [e3, List.length_cons]; omega
        · rw [e4]; simp
      · rw [if_neg h1] at h
        by_cases h2 : b.toNat = 0 ∧ 0 < i
        · rw [if_pos h2] at h; simp at h
        · rw [if_neg h2] at h
          simp only [Prod.mk.injEq, and_true] at h
          refine ⟨b.toNat, h.1.symm, fun hi => by omega, ?_, r, ?_⟩
          all_goals rw [M.putVar_lt (by omega)]
          · rw [← h.2]; rfl
          · simp
theorem rdVar_inv {l : List UInt8} {n k : Nat} (h : M.rdVar l = (n, k, 0)) : k = (M.putVar n).length ∧ ∃ t, l = M.putVar n ++ t := by
  obtain ⟨q, e1, e2, e3, t, e4⟩ := varGo_inv l 0 0 n k h
  have : n = q := by rw [e1]; simp
  subst this
  exact ⟨by omega, t, e4⟩

/-- The owner that bytes begin with: group, epoch, how many bytes. -/
def own1 : List UInt8 → Option (Nat × Nat × Nat)
  | [] => none
  | b :: t => if (M.rdVar t).2.2 = 0 ∧ 1 ≤ b.toNat ∧ b.toNat ≤ 8 ∧ 1 ≤ (M.rdVar t).1 ∧ (M.rdVar t).1 ≤ 2147483647 then some (b.toNat, (M.rdVar t).1, 1 + (M.rdVar t).2.1) else none

/-- n owners, and what is left. -/
def rdTo (l : List UInt8) : Nat → Option (List (Nat × Nat) × List UInt8)
  | 0 => some ([], l)
  | n + 1 => match rdTo l n with
    | none => none
    | some (xs, r) => match own1 r with
      | none => none
      | some (g, e, k) => some (xs ++ [(g, e)], r.drop k)

def ofL (xs : List (Nat × Nat)) : St := ⟨fun i => (xs.getD i (0, 0)).1, fun i => (xs.getD i (0, 0)).2⟩

/-- The map of bytes. -/
def frm (l : List UInt8) : Option St := match l with
  | [] => none
  | b :: t => if b = 83 then match rdTo t 16 with
    | some (xs, []) => some (ofL xs)
    | _ => none else none

theorem rdTo_none {l : List UInt8} {i : Nat} (h : rdTo l i = none) : ∀ j, i ≤ j → rdTo l j = none := by
  intro j
  induction j with
  | zero => intro hj; rw [show (0 : Nat) = i by omega]; exact h
  | succ j ih =>
    intro hj
    by_cases e : i = j + 1
    · rw [← e]; exact h
    · rw [rdTo, ih (by omega)]
theorem rdTo_stop {l : List UInt8} {i : Nat} {xs : List (Nat × Nat)} {r : List UInt8} (h : rdTo l i = some (xs, r)) (h0 : own1 r = none) (hi : i < 16) : rdTo l 16 = none := by
  refine rdTo_none (i := i + 1) ?_ 16 (by omega)
  rw [rdTo, h]
  simp only
  rw [h0]
theorem rdTo_more {l : List UInt8} {i : Nat} {xs : List (Nat × Nat)} {r : List UInt8} {g e k : Nat} (h : rdTo l i = some (xs, r)) (h0 : own1 r = some (g, e, k)) : rdTo l (i + 1) = some (xs ++ [(g, e)], r.drop k) := by
  rw [rdTo, h]
  simp only
  rw [h0]

theorem own1_some {r : List UInt8} {g e k : Nat} (h : own1 r = some (g, e, k)) : 1 ≤ g ∧ g ≤ 8 ∧ 1 ≤ e ∧ e ≤ 2147483647 ∧ r = (g.toUInt8 :: M.putVar e) ++ r.drop k ∧ k ≤ r.length ∧ 1 ≤ k := by
  match r, h with
  | b :: t, h =>
    rw [own1] at h
    split at h
    · rename_i hc
      simp only [Option.some.injEq, Prod.mk.injEq] at h
      obtain ⟨rfl, rfl, rfl⟩ := h
      obtain ⟨hk, t', ht⟩ := rdVar_inv (l := t) (n := (M.rdVar t).1) (k := (M.rdVar t).2.1) (by rw [← hc.1])
      have hl : (M.rdVar t).2.1 ≤ t.length := by
        rw [hk]
        have := congrArg List.length ht
        simp at this
        omega
      refine ⟨hc.2.1, hc.2.2.1, hc.2.2.2.1, hc.2.2.2.2, ?_, by simp; omega, by omega⟩
      rw [show b.toNat.toUInt8 = b by simp, Nat.add_comm 1, List.drop_succ_cons, List.cons_append]
      congr 1
      have h3 : t.drop (M.putVar (M.rdVar t).1).length = t' := by
        generalize M.putVar (M.rdVar t).1 = y at ht
        rw [ht, List.drop_left]
      rw [hk, h3]
      exact ht
    · simp at h

/-- What was read: so many owners, each of them may be; as bytes they are what was read. -/
theorem rdTo_put {l : List UInt8} : ∀ (i : Nat) (xs : List (Nat × Nat)) (r : List UInt8), rdTo l i = some (xs, r) → xs.length = i ∧ (∀ p ∈ xs, 1 ≤ p.1 ∧ p.1 ≤ 8 ∧ 1 ≤ p.2 ∧ p.2 ≤ 2147483647) ∧ l = (xs.flatMap fun p => p.1.toUInt8 :: M.putVar p.2) ++ r
  | 0, xs, r, h => by
    simp only [rdTo, Option.some.injEq, Prod.mk.injEq] at h
    obtain ⟨rfl, rfl⟩ := h
    simp
  | i + 1, xs, r, h => by
    rw [rdTo] at h
    cases h1 : rdTo l i with
    | none => rw [h1] at h; simp at h
    | some p =>
      obtain ⟨xs', r'⟩ := p
      rw [h1] at h
      simp only at h
      cases h2 : own1 r' with
      | none => rw [h2] at h; simp at h
      | some q =>
        obtain ⟨g, e, k⟩ := q
        rw [h2] at h
        simp only [Option.some.injEq, Prod.mk.injEq] at h
        obtain ⟨rfl, rfl⟩ := h
        obtain ⟨i1, i2, i3⟩ := rdTo_put i xs' r' h1
        obtain ⟨o1, o2, o3, o4, o5, o6, o7⟩ := own1_some h2
        refine ⟨by simp [i1], fun p hp => ?_, ?_⟩
        · rw [List.mem_append] at hp
          rcases hp with hp | hp
          · exact i2 p hp
          · simp at hp
            subst hp
            exact ⟨o1, o2, o3, o4⟩
        · rw [List.flatMap_append, List.append_assoc]
          conv => lhs; rw [i3, o5]
          simp

theorem bytesTo_ofL (xs : List (Nat × Nat)) : ∀ n, n ≤ xs.length → bytesTo (ofL xs) n = 83 :: ((xs.take n).flatMap fun p => p.1.toUInt8 :: M.putVar p.2)
  | 0, _ => by simp [bytesTo]
  | n + 1, h => by
    rw [bytesTo, bytesTo_ofL xs n (by omega), List.take_succ_eq_append_getElem (by omega), List.flatMap_append]
    have e : xs.getD n (0, 0) = xs[n] := by simp [List.getD, List.getElem?_eq_getElem (show n < xs.length by omega)]
    show 83 :: _ ++ ((xs.getD n (0, 0)).1.toUInt8 :: M.putVar (xs.getD n (0, 0)).2) = _
    rw [e]
    simp

theorem ofL_ok {xs : List (Nat × Nat)} (hl : xs.length = 16) (h : ∀ p ∈ xs, 1 ≤ p.1 ∧ p.1 ≤ 8 ∧ 1 ≤ p.2 ∧ p.2 ≤ 2147483647) : Ok (ofL xs) := by
  intro i hi
  have e : xs.getD i (0, 0) = xs[i] := by simp [List.getD, List.getElem?_eq_getElem (show i < xs.length by omega)]
  show 1 ≤ (xs.getD i (0, 0)).1 ∧ (xs.getD i (0, 0)).1 ≤ 8 ∧ 1 ≤ (xs.getD i (0, 0)).2 ∧ (xs.getD i (0, 0)).2 ≤ 2147483647
  rw [e]
  exact h _ (List.getElem_mem _)

theorem frm_some {l : List UInt8} {s : St} (h : frm l = some s) : Ok s ∧ bytesTo s 16 = l := by
  match l, h with
  | b :: t, h =>
    have h : (if b = 83 then match rdTo t 16 with
      | some (xs, []) => some (ofL xs)
      | _ => none else none) = some s := h
    split at h
    · rename_i hb
      split at h
      · rename_i xs hx
        simp only [Option.some.injEq] at h
        subst h
        obtain ⟨h1, h2, h3⟩ := rdTo_put 16 xs [] hx
        refine ⟨ofL_ok h1 h2, ?_⟩
        rw [bytesTo_ofL xs 16 (by omega), List.take_of_length_le (by omega), hb]
        rw [List.append_nil] at h3
        rw [← h3]
      · simp at h
    · simp at h

/-- A map's bytes are read as the map. -/
theorem own1_put {g e : Nat} (h : 1 ≤ g ∧ g ≤ 8 ∧ 1 ≤ e ∧ e ≤ 2147483647) (t : List UInt8) : own1 (g.toUInt8 :: (M.putVar e ++ t)) = some (g, e, 1 + (M.putVar e).length) := by
  have hg : (g.toUInt8).toNat = g := M.byte_of (by omega)
  rw [own1, M.rdVar_put e t (by omega), hg]
  simp only
  rw [if_pos (by simp only [true_and]; exact h)]
def tail (s : St) : Nat → Nat → List UInt8
  | _, 0 => []
  | i, n + 1 => (s.O i).toUInt8 :: (M.putVar (s.E i) ++ tail s (i + 1) n)
theorem bytesTo_tail (s : St) : ∀ n i, bytesTo s i ++ tail s i n = bytesTo s (i + n)
  | 0, i => by simp [tail]
  | n + 1, i => by
    rw [tail, show i + (n + 1) = i + 1 + n by omega, ← bytesTo_tail s n (i + 1), bytesTo]
    simp
theorem rdTo_tail {s : St} (h : Ok s) : ∀ i, i ≤ 16 → ∃ xs, rdTo (tail s 0 16) i = some (xs, tail s i (16 - i)) ∧ xs = (List.range i).map (fun j => (s.O j, s.E j))
  | 0, _ => ⟨[], rfl, rfl⟩
  | i + 1, hi => by
    obtain ⟨xs, h1, h2⟩ := rdTo_tail h i (by omega)
    have e : tail s i (16 - i) = (s.O i).toUInt8 :: (M.putVar (s.E i) ++ tail s (i + 1) (16 - (i + 1))) := by
      rw [show 16 - i = 16 - (i + 1) + 1 by omega, tail]
    refine ⟨xs ++ [(s.O i, s.E i)], ?_, ?_⟩
    · rw [e] at h1
      rw [rdTo_more h1 (own1_put (h i (by omega)) _), Nat.add_comm 1, List.drop_succ_cons, List.drop_left]
    · rw [h2, List.range_succ, List.map_append]
      rfl
theorem frm_bytes {s : St} (h : Ok s) : ∃ s', frm (bytesTo s 16) = some s' ∧ ∀ i, i < 16 → s'.O i = s.O i ∧ s'.E i = s.E i := by
  obtain ⟨xs, h1, h2⟩ := rdTo_tail h 16 (Nat.le_refl _)
  have e : bytesTo s 16 = 83 :: tail s 0 16 := by
    have := bytesTo_tail s 16 0
    rw [Nat.zero_add] at this
    rw [← this]
    rfl
  refine ⟨ofL xs, ?_, fun i hi => ?_⟩
  · rw [e]
    show (if (83 : UInt8) = 83 then match rdTo (tail s 0 16) 16 with
      | some (xs, []) => some (ofL xs)
      | _ => none else none) = some (ofL xs)
    rw [if_pos rfl, h1]
    rfl
  · have e2 : xs.getD i (0, 0) = (s.O i, s.E i) := by
      rw [h2]
      simp [List.getD, List.getElem?_range hi]
    show (xs.getD i (0, 0)).1 = s.O i ∧ (xs.getD i (0, 0)).2 = s.E i
    rw [e2]
    exact ⟨rfl, rfl⟩

end Go.Proofs.Ytmdnegjpdedcnab.Sl
