/-
  Rows that are read alone, of elements of so many cells.
-/
import Derived.Test.YtnfjfhjhofaodaaSeMem
namespace Go.Proofs.Ytnfjfhjhofaodaa
open Go.RowKit

/-- The slice value v has n elements, xs in all. -/
def Rd (w : World) (v : Value) (n : Nat) (xs : List Value) : Prop :=
  ∃ p c, v = .slice p n c ∧ n ≤ c ∧ c ≤ maxLen ∧ (p = none → c = 0) ∧ ∀ a, p = some a → ∀ j x, xs[j]? = some x → w.cell? (a.add j) = some x

theorem Rd.ofRow {w : World} {size n : Nat} {v : Value} {xs : List Value} (h : RowC w size v n xs) : Rd w v n xs := by
  obtain ⟨h1, p, c, hv, h2, h3, h4⟩ := h
  refine ⟨p, c, hv, h2, h3, fun e => ?_, fun a ha j x hx => ?_⟩
  · rcases h4 with h | ⟨g, off, hp, _⟩
    · exact h
    · rw [hp] at e; cases e
  · rcases h4 with h | ⟨g, off, hp, _, hC⟩
    · have h0 : n = 0 := by omega
      rw [h0, Nat.zero_mul] at h1
      rw [List.eq_nil_of_length_eq_zero h1] at hx
      simp at hx
    · rw [hp] at ha
      injection ha with ha
      rw [← ha, Addr.add_lit]
      exact hC j x hx
theorem Rd.carry {w w' : World} {v : Value} {n : Nat} {xs : List Value} (h : Rd w v n xs) (hk : ∀ k, (∃ o sp x, w.cell? ⟨k, o, sp⟩ = some x) → w'.heap[k]? = w.heap[k]?) : Rd w' v n xs := by
  obtain ⟨p, c, hv, h2, h3, h4, h5⟩ := h
  refine ⟨p, c, hv, h2, h3, h4, fun a ha j x hx => ?_⟩
  have := h5 a ha j x hx
  rw [World.cell?_of_block (a := a.add j) (hk (a.add j).block ⟨(a.add j).off, (a.add j).spot, x, this⟩)]
  exact this
theorem Rd.below {w w' : World} {v : Value} {n : Nat} {xs : List Value} (h : Rd w v n xs) (hb : Below w.heap.size w w') : Rd w' v n xs :=
  h.carry fun k ⟨_, _, _, hx⟩ => hb.block k (World.block_lt_of_cell? w _ hx)
theorem Rd.nil (w : World) : Rd w (.slice none 0 0) 0 [] := ⟨none, 0, rfl, by simp, by unfold maxLen; omega, fun _ => rfl, fun a ha => by cases ha⟩
theorem Rd.form {w : World} {v : Value} {n : Nat} {xs : List Value} (h : Rd w v n xs) : ∃ p c, v = .slice p n c ∧ n ≤ c ∧ c ≤ maxLen := by
  obtain ⟨p, c, hv, h2, h3, _⟩ := h
  exact ⟨p, c, hv, h2, h3⟩

/-- Elements of K cells each. -/
theorem flat_len {α : Type} {f : α → List Value} {K : Nat} (hf : ∀ x, (f x).length = K) : ∀ l : List α, (l.flatMap f).length = l.length * K
  | [] => by simp
  | x :: l => by rw [List.flatMap_cons, List.length_append, hf, flat_len hf l, List.length_cons, Nat.add_mul]; omega
theorem flat_at {α : Type} {f : α → List Value} {K : Nat} (hf : ∀ x, (f x).length = K) : ∀ (l : List α) (i : Nat) (x : α), l[i]? = some x → ∀ q, q < K → (l.flatMap f)[i * K + q]? = (f x)[q]?
  | [], _, _, h, _, _ => by simp at h
  | y :: l, 0, x, h, q, hq => by
    have h' : y = x := by simpa using h
    subst h'
    rw [List.flatMap_cons, Nat.zero_mul, Nat.zero_add, List.getElem?_append_left (by rw [hf]; exact hq)]
  | y :: l, i + 1, x, h, q, hq => by
    have ih := flat_at hf l i x (by simpa using h) q hq
    rw [List.flatMap_cons, List.getElem?_append_right (by rw [hf, Nat.add_mul]; omega), hf, ← ih]
    congr 1
    rw [Nat.add_mul]
    omega
theorem flat_snoc {α : Type} (f : α → List Value) (l : List α) (x : α) : (l ++ [x]).flatMap f = l.flatMap f ++ f x := by simp

/-- Where an element lies. -/
theorem Rd.at {α : Type} {f : α → List Value} {K : Nat} (hK : 0 < K) (hf : ∀ x, (f x).length = K) {w : World} {p : Option Addr} {n c i : Nat} {l : List α} (h : Rd w (.slice p n c) n (l.flatMap f)) (hl : l.length = n) (hi : i < n) : ∃ g o, p = some ⟨g, o, none⟩ ∧ ∀ x, l[i]? = some x → ∀ q u, (f x)[q]? = some u → w.cell? ⟨g, o + i * K + q, none⟩ = some u := by
  obtain ⟨p', c', hv, h2, h3, h4, h5⟩ := h
  injection hv with e1 e2 e3
  subst e1 e3
  cases p with
  | none => have := h4 rfl; omega
  | some a =>
    obtain ⟨b, off, spot⟩ := a
    have hspot : spot = none := by
      have q0 : 0 < (f (l[0]'(by omega))).length := by rw [hf]; exact hK
      have h0 := flat_at hf l 0 (l[0]'(by omega)) (List.getElem?_eq_getElem (by omega)) 0 hK
      rw [List.getElem?_eq_getElem q0] at h0
      have := h5 _ rfl _ _ h0
      simpa [Addr.add] using World.cell?_spot this
    subst hspot
    refine ⟨b, off, rfl, fun x hx q u hu => ?_⟩
    have hq : q < K := by rw [← hf x]; exact (List.getElem?_eq_some_iff.1 hu).1
    have := h5 _ rfl _ _ ((flat_at hf l i x hx q hq).trans hu)
    rw [Addr.add_lit] at this
    rw [Nat.add_assoc]
    exact this

/-- Ids as cells. -/
def idc (x : Int × Int) : List Value := [.int .i64 x.1, .int .i64 x.2]
theorem idc_len (x : Int × Int) : (idc x).length = 2 := rfl
/-- A reply and its posts' slice as cells. -/
def rec_ (x : Mo.Re × Value) : List Value := [.int .i64 x.1.err, .int .i64 x.1.at_, x.2]
theorem rec_len (x : Mo.Re × Value) : (rec_ x).length = 3 := rfl

end Go.Proofs.Ytnfjfhjhofaodaa
