/-
  Lists that were read, in memory.
-/
import Derived.Test.YtgkcchbignakcaaCmInL
namespace Go.Proofs.Ytgkcchbignakcaa
open Go.RowKit

theorem Rx.mostN {w0 U : World} {B : Nat} {x : Option (List UInt8)} {bs : List (Nat × TypeId × List Value)} {X : World} (h : Rx w0 U B x bs X) (m : Nat) {v : Int} (hv : mostV m x = v) :
    Calls Try.prog 41 #[.pointer (some ⟨B, 0, none⟩), .int .i64 (m : Int)] X fun e Y => e = .returned (.int .i64 v) ∧ Rx w0 U B (mostX m x) bs Y := by
  subst hv
  exact h.most m
theorem Rx.mostC1 {w0 U : World} {B : Nat} {x : Option (List UInt8)} {bs : List (Nat × TypeId × List Value)} {X : World} (h : Rx w0 U B x bs X) {v : Int} (hv : mostV 1 x = v) :
    Calls Try.prog 41 #[.pointer (some ⟨B, 0, none⟩), .int .i64 1] X fun e Y => e = .returned (.int .i64 v) ∧ Rx w0 U B (mostX 1 x) bs Y := h.mostN 1 hv
theorem Rx.mostC16 {w0 U : World} {B : Nat} {x : Option (List UInt8)} {bs : List (Nat × TypeId × List Value)} {X : World} (h : Rx w0 U B x bs X) {v : Int} (hv : mostV 16 x = v) :
    Calls Try.prog 41 #[.pointer (some ⟨B, 0, none⟩), .int .i64 16] X fun e Y => e = .returned (.int .i64 v) ∧ Rx w0 U B (mostX 16 x) bs Y := h.mostN 16 hv
theorem Rx.mostC64 {w0 U : World} {B : Nat} {x : Option (List UInt8)} {bs : List (Nat × TypeId × List Value)} {X : World} (h : Rx w0 U B x bs X) {v : Int} (hv : mostV 64 x = v) :
    Calls Try.prog 41 #[.pointer (some ⟨B, 0, none⟩), .int .i64 64] X fun e Y => e = .returned (.int .i64 v) ∧ Rx w0 U B (mostX 64 x) bs Y := h.mostN 64 hv
theorem RowC.entsIn {X : World} {p : Option Addr} {n c : Nat} {l : List (Int × ByteArray)} (h : RowC X 2 (.slice p n c) n (entCs l)) (hn : l.length = n) : EntsIn X p l := by
  by_cases h0 : n = 0
  · exact .inl (List.eq_nil_of_length_eq_zero (by omega))
  · obtain ⟨g, off, c', hv, -, -, hr, hc⟩ := h.cells (by omega)
    injection hv with e1 e2 e3
    have hlt : g < X.heap.size := by
      have := (hr 0 (by omega)).1
      obtain ⟨z, hz⟩ := Option.isSome_iff_exists.1 this
      exact World.block_lt_of_cell? X _ hz
    refine .inr ⟨g, off, e1, hlt, fun i e he => ?_⟩
    have hx : (entCs l)[i * 2]? = some (.int .i64 e.1) ∧ (entCs l)[i * 2 + 1]? = some (.string e.2) := by
      clear h hc hr hn
      induction l generalizing i with
      | nil => simp at he
      | cons a r ih =>
        cases i with
        | zero =>
          simp only [List.getElem?_cons_zero, Option.some.injEq] at he
          subst he
          exact ⟨rfl, rfl⟩
        | succ i =>
          rw [List.getElem?_cons_succ] at he
          have := ih i he
          rw [show (i + 1) * 2 = i * 2 + 2 by omega]
          exact this
    refine ⟨hc _ _ hx.1, ?_⟩
    have := hc _ _ hx.2
    rw [Nat.add_assoc]
    exact this
theorem RowC.postsIn {X : World} {p : Option Addr} {n c : Nat} {l : List (ByteArray × ByteArray)} (h : RowC X 2 (.slice p n c) n (postCs l)) (hn : l.length = n) : PostsIn X p l := by
  by_cases h0 : n = 0
  · exact .inl (List.eq_nil_of_length_eq_zero (by omega))
  · obtain ⟨g, off, c', hv, -, -, hr, hc⟩ := h.cells (by omega)
    injection hv with e1 e2 e3
    have hlt : g < X.heap.size := by
      have := (hr 0 (by omega)).1
      obtain ⟨z, hz⟩ := Option.isSome_iff_exists.1 this
      exact World.block_lt_of_cell? X _ hz
    refine .inr ⟨g, off, e1, hlt, fun i e he => ?_⟩
    have hx : (postCs l)[i * 2]? = some (.string e.1) ∧ (postCs l)[i * 2 + 1]? = some (.string e.2) := by
      clear h hc hr hn
      induction l generalizing i with
      | nil => simp at he
      | cons a r ih =>
        cases i with
        | zero =>
          simp only [List.getElem?_cons_zero, Option.some.injEq] at he
          subst he
          exact ⟨rfl, rfl⟩
        | succ i =>
          rw [List.getElem?_cons_succ] at he
          have := ih i he
          rw [show (i + 1) * 2 = i * 2 + 2 by omega]
          exact this
    refine ⟨hc _ _ hx.1, ?_⟩
    have := hc _ _ hx.2
    rw [Nat.add_assoc]
    exact this

theorem textX_none : textX none = none := stepX_none .t
theorem fine_text {x : Option (List UInt8)} (h : x = none) : fineB (textX x) = false := by rw [h, textX_none]; rfl
theorem fine_none {x : Option (List UInt8)} (h : x = none) : fineB x = false := by rw [h]; rfl
theorem below_undrew9 {w w' : World} (h : Below w.heap.size w w') : Below w.heap.size w w' := h

end Go.Proofs.Ytgkcchbignakcaa
