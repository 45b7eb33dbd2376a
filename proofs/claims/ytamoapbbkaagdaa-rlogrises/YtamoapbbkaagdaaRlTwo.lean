/-
  Two raft logs beside one another that a call made itself.
-/
import Derived.Test.YtamoapbbkaagdaaRlOps
import Derived.Test.YtamoapbbkaagdaaRlAwake
import Derived.Test.YtamoapbbkaagdaaRlArgs
namespace Go.Proofs.Ytamoapbbkaagdaa
open Go.RowKit

/-- Two logs, made behind w, that have nothing in common. -/
def Two (w X : World) (Bx By : Nat) (sx sy : G.L) : Prop :=
  ∃ ox oy : Nat → Prop, Lg X Bx sx ox ∧ Lg X By sy oy ∧ (∀ k, ox k → ¬ oy k ∧ k ≠ By ∧ w.heap.size ≤ k) ∧ (∀ k, oy k → k ≠ Bx ∧ w.heap.size ≤ k) ∧ Bx ≠ By ∧ w.heap.size ≤ Bx ∧ w.heap.size ≤ By ∧ Below w.heap.size w X

theorem Two.swap {w X : World} {Bx By : Nat} {sx sy : G.L} (h : Two w X Bx By sx sy) : Two w X By Bx sy sx := by
  obtain ⟨ox, oy, h1, h2, h3, h4, h5, h6, h7, h8⟩ := h
  exact ⟨oy, ox, h2, h1, fun k hk => ⟨fun e => (h3 k e).1 hk, h4 k hk⟩, fun k hk => (h3 k hk).2, fun e => h5 e.symm, h7, h6, h8⟩

theorem Two.below {w X Y : World} {Bx By : Nat} {sx sy : G.L} (h : Two w X Bx By sx sy) (hb : Below X.heap.size X Y) : Two w Y Bx By sx sy := by
  obtain ⟨ox, oy, h1, h2, h3, h4, h5, h6, h7, h8⟩ := h
  exact ⟨ox, oy, h1.below hb, h2.below hb, h3, h4, h5, h6, h7, h8.trans (hb.mono h8.size)⟩

theorem Two.old {w X : World} {Bx By : Nat} {sx sy : G.L} (h : Two w X Bx By sx sy) : Below w.heap.size w X := by
  obtain ⟨ox, oy, h1, h2, h3, h4, h5, h6, h7, h8⟩ := h
  exact h8

theorem Two.ok {w X : World} {Bx By : Nat} {sx sy : G.L} (h : Two w X Bx By sx sy) : G.Ok sx ∧ G.Ok sy := by
  obtain ⟨ox, oy, h1, h2, _⟩ := h
  exact ⟨h1.ok, h2.ok⟩

/-- A call of the first one. -/
theorem Two.left {w X : World} {Bx By : Nat} {sx sy : G.L} (h : Two w X Bx By sx sy) : ∃ ox, Lg X Bx sx ox ∧ ∀ Y s', Aft ox X Y Bx s' → Two w Y Bx By s' sy := by
  obtain ⟨ox, oy, h1, h2, h3, h4, h5, h6, h7, h8⟩ := h
  refine ⟨ox, h1, fun Y s' ha => ?_⟩
  have hl := h2.lt
  have hs := ha.2.size
  refine ⟨sinceB ox X Y, oy, ha.1, h2.carry hs (ha.2.block By hl (fun e => h5 e.symm) (fun e => (h3 By e).2.1 rfl)) (fun k hk => ha.2.block k (h2.here k hk).1 (h4 k hk).1 (fun e => (h3 k e).1 hk)), fun k hk => ?_, h4, h5, h6, h7, ?_⟩
  · rcases hk with e | e
    · exact h3 k e
    · refine ⟨fun q => ?_, ?_, ?_⟩
      · have := (h2.here k q).1
        omega
      · omega
      · have := h8.size
        omega
  · exact h8.trans (ha.2.below h6 (fun k hk => (h3 k hk).2.2) h8.size)

/-- Two logs that were made one behind the other. -/
theorem Two.make {w w1 w2 : World} {s1 s2 : G.L} (h1 : Lg w1 w.heap.size s1 (fun k => w.heap.size < k ∧ k < w1.heap.size)) (b1 : Below w.heap.size w w1) (h2 : Lg w2 w1.heap.size s2 (fun k => w1.heap.size < k ∧ k < w2.heap.size)) (b2 : Below w1.heap.size w1 w2) :
    Two w w2 w.heap.size w1.heap.size s1 s2 := by
  have hl := h1.lt
  have hl2 := h2.lt
  refine ⟨_, _, h1.below b2, h2, fun k hk => ⟨fun e => by omega, by omega, by omega⟩, fun k hk => ⟨by omega, by omega⟩, by omega, Nat.le_refl _, b1.size, b1.trans (b2.mono b1.size)⟩

end Go.Proofs.Ytamoapbbkaagdaa
