/-
  The reader's number and text.
-/
import Derived.Test.YtnfjfhjhofaodaaCmFd
import Derived.Test.YtnfjfhjhofaodaaCmWt
import Derived.Test.YtnfjfhjhofaodaaVar
namespace Go.Proofs.Ytnfjfhjhofaodaa
open Go.RowKit

namespace Cm
theorem toL_cut (s : ByteArray) (k : Nat) : (s.extract k s.size).data.toList = s.data.toList.drop k := by
  have e : (s.extract k s.size).data = s.data.extract k s.size := by simp [ByteArray.data_extract]
  rw [e, Array.toList_extract]
  simp [List.extract]
  have : s.data.size = s.size := rfl
  rw [List.take_of_length_le (by simp)]
theorem toL_take (s : ByteArray) (k : Nat) : (s.extract 0 k).data.toList = s.data.toList.take k := by
  have e : (s.extract 0 k).data = s.data.extract 0 k := by simp [ByteArray.data_extract]
  rw [e, Array.toList_extract]
  simp [List.extract]
theorem toL_len (s : ByteArray) : s.data.toList.length = s.size := by rw [Array.length_toList]; rfl
theorem of_toL {s t : ByteArray} (h : s.data.toList = t.data.toList) : s = t := by
  apply ByteArray.ext
  exact Array.ext' h
theorem varGo_top : ∀ (l : List UInt8) (i n : Nat), n < 128 ^ i → i ≤ 9 → (M.varGo i n l).1 < 128 ^ 9 ∧ (M.varGo i n l).2.1 ≤ i + l.length ∧ (M.varGo i n l).2.1 ≤ 9 ∧ (M.varGo i n l).2.2 ≤ 10
  | [], i, n, hn, hi => by unfold M.varGo; split <;> simp
  | b :: r, i, n, hn, hi => by
    unfold M.varGo
    by_cases h9 : 9 ≤ i
    · rw [if_pos h9]; simp
    · rw [if_neg h9]
      have hb : b.toNat < 256 := b.toNat_lt
      have hm := (shl_facts i n b.toNat (by omega) hn).2
      by_cases h1 : 128 ≤ b.toNat
      · rw [if_pos h1]
        have ih := varGo_top r (i + 1) _ hm (by omega)
        refine ⟨ih.1, by simp; omega, ih.2.2.1, ih.2.2.2⟩
      · rw [if_neg h1]
        by_cases h2 : b.toNat = 0 ∧ 0 < i
        · rw [if_pos h2]; simp
        · rw [if_neg h2]
          rw [Nat.mod_eq_of_lt (by omega)] at hm
          have h3 : 128 ^ (i + 1) ≤ 128 ^ 9 := Nat.pow_le_pow_right (by omega) (by omega)
          exact ⟨by omega, by simp, by simp; omega, by simp⟩
theorem rdVar_top (l : List UInt8) : (M.rdVar l).1 < 9223372036854775808 ∧ (M.rdVar l).2.1 ≤ l.length ∧ (M.rdVar l).2.1 ≤ 9 ∧ (M.rdVar l).2.2 ≤ 10 := by
  have := varGo_top l 0 0 (by simp) (by omega)
  have e9 : (128 : Nat) ^ 9 = 9223372036854775808 := by decide
  rw [e9] at this
  simpa [M.rdVar] using this
end Cm

/-- What was there is as it was, but for the cells that S tells. -/
structure KeptC (S : Nat → Nat → Prop) (w w' : World) : Prop where
  os : w'.os = w.os
  tape : w'.tape = w.tape
  output : w'.output = w.output
  size : w.heap.size ≤ w'.heap.size
  cell : ∀ b o, b < w.heap.size → ¬ S b o → w'.cell? ⟨b, o, none⟩ = w.cell? ⟨b, o, none⟩
  frozen : ∀ b o, b < w.heap.size → w'.frozen? ⟨b, o, none⟩ = w.frozen? ⟨b, o, none⟩
  shape : ∀ b, b < w.heap.size → w'.shape? b = w.shape? b
  block : ∀ b, b < w.heap.size → (∀ o, ¬ S b o) → w'.heap[b]? = w.heap[b]?

theorem KeptC.refl (S : Nat → Nat → Prop) (w : World) : KeptC S w w := ⟨rfl, rfl, rfl, Nat.le_refl _, fun _ _ _ _ => rfl, fun _ _ _ => rfl, fun _ _ => rfl, fun _ _ _ => rfl⟩
theorem KeptC.trans {S S' : Nat → Nat → Prop} {a w w' : World} (h : KeptC S a w) (k : KeptC S' w w') (hs : ∀ b o, b < a.heap.size → S' b o → S b o) : KeptC S a w' :=
  ⟨k.os.trans h.os, k.tape.trans h.tape, k.output.trans h.output, Nat.le_trans h.size k.size,
    fun b o hb hn => (k.cell b o (Nat.lt_of_lt_of_le hb h.size) (fun x => hn (hs b o hb x))).trans (h.cell b o hb hn),
    fun b o hb => (k.frozen b o (Nat.lt_of_lt_of_le hb h.size)).trans (h.frozen b o hb),
    fun b hb => (k.shape b (Nat.lt_of_lt_of_le hb h.size)).trans (h.shape b hb),
    fun b hb hn => (k.block b (Nat.lt_of_lt_of_le hb h.size) (fun o x => hn o (hs b o hb x))).trans (h.block b hb hn)⟩
theorem shape_of_block {w w' : World} {b : Nat} (h : w'.heap[b]? = w.heap[b]?) : w'.shape? b = w.shape? b := by unfold World.shape?; rw [h]
theorem KeptC.of_below {S : Nat → Nat → Prop} {w w' : World} (h : Below w.heap.size w w') : KeptC S w w' :=
  ⟨h.os, h.tape, h.output, h.size, fun b o hb _ => h.cell (p := ⟨b, o, none⟩) hb, fun b o hb => h.frozen (p := ⟨b, o, none⟩) hb, fun b hb => shape_of_block (h.block b hb), fun b hb _ => h.block b hb⟩
theorem KeptC.mono {S S' : Nat → Nat → Prop} {w w' : World} (h : KeptC S w w') (hs : ∀ b o, b < w.heap.size → S b o → S' b o) : KeptC S' w w' :=
  ⟨h.os, h.tape, h.output, h.size, fun b o hb hn => h.cell b o hb (fun x => hn (hs b o hb x)), h.frozen, h.shape, fun b hb hn => h.block b hb (fun o x => hn o (hs b o hb x))⟩
theorem shape_setCell (w : World) (a : Addr) (v : Value) (b : Nat) : (w.setCell a v).shape? b = w.shape? b := by
  by_cases e : b = a.block
  · subst e
    unfold World.shape? World.setCell
    simp only [Array.getElem?_modify, if_true]
    cases hb : w.heap[a.block]? with
    | none => rfl
    | some x =>
      cases x with
      | cells c el f =>
        simp only [Option.map_some]
        split <;> simp
      | _ => rfl
  · exact shape_of_block (Below.heap_setCell _ _ _ _ e)
theorem KeptC.setCell {S : Nat → Nat → Prop} {a w : World} (h : KeptC S a w) {b o : Nat} (hs : b < a.heap.size → S b o) (v : Value) : KeptC S a (w.setCell ⟨b, o, none⟩ v) := by
  refine ⟨h.os, h.tape, h.output, by simpa using h.size, fun k j hk hn => ?_, fun k j hk => ?_, fun k hk => ?_, fun k hk hn => ?_⟩
  · rw [World.cell?_setCell_other]
    · exact h.cell k j hk hn
    · rintro e
      injection e with e1 e2
      subst e1; subst e2
      exact hn (hs hk)
  · rw [World.frozen?_setCell]; exact h.frozen k j hk
  · rw [shape_setCell]; exact h.shape k hk
  · have : k ≠ b := by rintro rfl; exact hn o (hs hk)
    rw [Below.heap_setCell _ _ _ _ this]; exact h.block k hk hn
theorem KeptC.drew {S : Nat → Nat → Prop} {a w : World} (h : KeptC S a w) : KeptC S a w.drew := ⟨h.os, h.tape, h.output, h.size, h.cell, h.frozen, h.shape, h.block⟩
theorem KeptC.alloc {S : Nat → Nat → Prop} {a w : World} (h : KeptC S a w) (o : Obj) : KeptC S a (w.alloc o) :=
  h.trans (KeptC.of_below (S := fun _ _ => False) (alloc_below w o)) (fun _ _ _ => False.elim)

/-- The reader in block R has s before it. -/
def Rd (w : World) (R : Nat) (s : ByteArray) : Prop := w.heap[R]? = some (.cells #[.string s] 107 (0, 0)) ∧ s.size ≤ 140737488351232

theorem Rd.cell {w : World} {R : Nat} {s : ByteArray} (h : Rd w R s) : w.cell? ⟨R, 0, none⟩ = some (.string s) := by rw [Lib.cell_of_heap h.1]; rfl
theorem Rd.frozen {w : World} {R : Nat} {s : ByteArray} (h : Rd w R s) : w.frozen? ⟨R, 0, none⟩ = false := by simp [World.frozen?, h.1]
theorem Rd.lt {w : World} {R : Nat} {s : ByteArray} (h : Rd w R s) : R < w.heap.size := by
  rcases Nat.lt_or_ge R w.heap.size with x | x
  · exact x
  · have := h.1; rw [Array.getElem?_eq_none x] at this; cases this
theorem Rd.kept {w w' : World} {R : Nat} {s : ByteArray} (h : Rd w R s) {S : Nat → Nat → Prop} (hk : KeptC S w w') (hn : ∀ o, ¬ S R o) : Rd w' R s := ⟨by rw [hk.block R h.lt hn]; exact h.1, h.2⟩
theorem Rd.set {w : World} {R : Nat} {s t : ByteArray} (h : Rd w R s) (ht : t.size ≤ 140737488351232) : Rd (w.setCell ⟨R, 0, none⟩ (.string t)) R t := ⟨by rw [heap_setCell_same _ _ _ _ _ _ h.1]; simp, ht⟩

/-- What a call on a reader comes to: what was read stands there, and what is left; or a panic. -/
def ROut (w : World) (R : Nat) (S : Nat → Nat → Prop) (x : Option (List (Cm.K × Cm.V) × List UInt8)) (H : World → List (Cm.K × Cm.V) → Prop) (e : Ending) (w' : World) : Prop :=
  KeptC (fun b o => b = R ∨ S b o) w w' ∧ match x with
  | some (vs, r) => e = .returned (.tuple #[]) ∧ (∃ t, Rd w' R t ∧ t.data.toList = r) ∧ H w' vs
  | none => ∃ t v, e = .panicked [{ v := .iface t v, recovered := false }]

end Go.Proofs.Ytnfjfhjhofaodaa
