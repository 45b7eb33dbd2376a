/-
  Both disks while a script is played: the document's lies in a variable of the law's.
-/
import Derived.Test.YtncchapgoedncaaDpSame
import Derived.Test.YtncchapgoedncaaArrOp
namespace Go.Proofs.Ytncchapgoedncaa
open Go.RowKit

/-- Both disks, and a variable of three cells in block et. -/
structure Pq (w X : World) (b room et : Nat) (A : Nat → List UInt8) (S : Nat → Nat) (g1 g2 c1 c2 : Nat) (own : Nat → Prop) (u0 u1 u2 : Value) : Prop where
  pr : Pr w X b room A S g1 g2 c1 c2 own
  q0 : X.cell? ⟨et, 0, none⟩ = some u0
  q1 : X.cell? ⟨et, 1, none⟩ = some u1
  q2 : X.cell? ⟨et, 2, none⟩ = some u2
  fr : ∀ o, o < 3 → X.frozen? ⟨et, o, none⟩ = false
  lt : et < X.heap.size
  ne : et ≠ b ∧ ¬ own et ∧ g1 ≠ et ∧ g2 ≠ et
  ge : w.heap.size ≤ et

theorem Pq.below {w X X' : World} {b room et g1 g2 c1 c2 : Nat} {A : Nat → List UInt8} {S : Nat → Nat} {own : Nat → Prop} {u0 u1 u2 : Value} (h : Pq w X b room et A S g1 g2 c1 c2 own u0 u1 u2) (hb : Below X.heap.size X X') : Pq w X' b room et A S g1 g2 c1 c2 own u0 u1 u2 := by
  have hc : ∀ o, X'.cell? ⟨et, o, none⟩ = X.cell? ⟨et, o, none⟩ := fun o => hb.cell (p := ⟨et, o, none⟩) h.lt
  exact ⟨h.pr.below hb, by rw [hc]; exact h.q0, by rw [hc]; exact h.q1, by rw [hc]; exact h.q2, fun o ho => by rw [hb.frozen (p := ⟨et, o, none⟩) h.lt]; exact h.fr o ho, Nat.lt_of_lt_of_le h.lt hb.size, h.ne, h.ge⟩

theorem Pq.tight {w X : World} {b room et g1 g2 c1 c2 : Nat} {A : Nat → List UInt8} {S : Nat → Nat} {own : Nat → Prop} {u0 u1 u2 : Value} (h : Pq w X b room et A S g1 g2 c1 c2 own u0 u1 u2) : Pq w X b room et A S g1 g2 c1 c2 (fun k => own k ∧ k < X.heap.size) u0 u1 u2 :=
  ⟨h.pr.tight, h.q0, h.q1, h.q2, h.fr, h.lt, ⟨h.ne.1, fun e => h.ne.2.1 e.1, h.ne.2.2⟩, h.ge⟩

/-- Behind a call. -/
theorem Pq.done {w X X' : World} {b room et g1 g2 c1 c2 x1 x2 d1 d2 : Nat} {A A' : Nat → List UInt8} {S S' : Nat → Nat} {own own' : Nat → Prop} {u0 u1 u2 : Value} (h : Pq w X b room et A S g1 g2 c1 c2 own u0 u1 u2)
    (hpr : Pr w X' b room A' S' x1 x2 d1 d2 own') (hk : Kept b own X X') (ho : ∀ k, k < X.heap.size → own' k → own k) (h1 : x1 = g1 ∨ X.heap.size ≤ x1) (h2 : x2 = g2 ∨ X.heap.size ≤ x2) : Pq w X' b room et A' S' x1 x2 d1 d2 own' u0 u1 u2 := by
  obtain ⟨n1, n2, n3, n4⟩ := h.ne
  have hlt := h.lt
  have hh := hk.block et hlt n1 n2
  have hc : ∀ o, X'.cell? ⟨et, o, none⟩ = X.cell? ⟨et, o, none⟩ := fun o => World.cell?_of_block (a := ⟨et, o, none⟩) hh
  have hf : ∀ o, X'.frozen? ⟨et, o, none⟩ = X.frozen? ⟨et, o, none⟩ := fun o => World.frozen?_of_block (a := ⟨et, o, none⟩) hh
  exact ⟨hpr, by rw [hc]; exact h.q0, by rw [hc]; exact h.q1, by rw [hc]; exact h.q2, fun o ho => by rw [hf]; exact h.fr o ho, Nat.lt_of_lt_of_le hlt hk.size, ⟨n1, fun e => n2 (ho et hlt e), by omega, by omega⟩, h.ge⟩

/-- The variable is set. -/
theorem Pq.put {w X : World} {b room et g1 g2 c1 c2 : Nat} {A : Nat → List UInt8} {S : Nat → Nat} {own : Nat → Prop} {u0 u1 u2 : Value} (h : Pq w X b room et A S g1 g2 c1 c2 own u0 u1 u2) (x y z : Value) : Pq w (set3 X et x y z) b room et A S g1 g2 c1 c2 own x y z := by
  obtain ⟨y0, y1, y2⟩ := set3_at x y z h.q0 h.q1 h.q2
  exact ⟨h.pr.set3 h.ge h.ne.1 h.ne.2.1 h.ne.2.2.1 h.ne.2.2.2 x y z, y0, y1, y2, fun o ho => by rw [set3_frozen]; exact h.fr o ho, by rw [set3_size]; exact h.lt, h.ne, h.ge⟩
/-- Another block is set. -/
theorem Pq.other {w X : World} {b room et g1 g2 c1 c2 p : Nat} {A : Nat → List UInt8} {S : Nat → Nat} {own : Nat → Prop} {u0 u1 u2 : Value} (h : Pq w X b room et A S g1 g2 c1 c2 own u0 u1 u2) (hp : w.heap.size ≤ p) (hb : p ≠ b) (ho : ¬ own p) (h1 : g1 ≠ p) (h2 : g2 ≠ p) (he : et ≠ p) (x y z : Value) : Pq w (set3 X p x y z) b room et A S g1 g2 c1 c2 own u0 u1 u2 :=
  ⟨h.pr.set3 hp hb ho h1 h2 x y z, by rw [set3_cell X x y z he]; exact h.q0, by rw [set3_cell X x y z he]; exact h.q1, by rw [set3_cell X x y z he]; exact h.q2, fun o ho => by rw [set3_frozen]; exact h.fr o ho, by rw [set3_size]; exact h.lt, h.ne, h.ge⟩

theorem OpAt.carry {w X : World} {g o : Nat} (h : OpAt w g o) (hg : g < w.heap.size) (hb : Below w.heap.size w X) : OpAt X g o := by
  obtain ⟨kind, file, a, b, text, kv, gk, K, h0, h1, h2, h3, h4, h5, hbb, hs, hI, hk⟩ := h
  have hc : ∀ o, X.cell? ⟨g, o, none⟩ = w.cell? ⟨g, o, none⟩ := fun o => hb.cell (p := ⟨g, o, none⟩) hg
  exact ⟨kind, file, a, b, text, kv, gk, K, by rw [hc]; exact h0, by rw [hc]; exact h1, by rw [hc]; exact h2, by rw [hc]; exact h3, by rw [hc]; exact h4, by rw [hc]; exact h5, hbb, hs, hI.carry (fun e => hb.block gk (hk e)), fun e => Nat.lt_of_lt_of_le (hk e) hb.size⟩

end Go.Proofs.Ytncchapgoedncaa
