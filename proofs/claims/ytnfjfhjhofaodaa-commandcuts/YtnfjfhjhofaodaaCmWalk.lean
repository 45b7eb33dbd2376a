/-
  walk, where fields go into bytes.
-/
import Derived.Test.YtnfjfhjhofaodaaCmWt
namespace Go.Proofs.Ytnfjfhjhofaodaa
open Go.RowKit

/-- What walk does with fields that were there in w0 and have ps in them. -/
def WalkC (w0 : World) (fs : List Fd) (ps : List (Cm.K × Cm.V)) : Prop :=
  ∀ (w : World) (B : Nat) (g : Option Nat) (l : List UInt8) (eb : Nat), Below w0.heap.size w0 w → Wr w B g l → w0.heap.size ≤ B → (∀ k, g = some k → w0.heap.size ≤ k) → Elems w eb fs → eb ≠ B → g ≠ some eb → l.length + ps.length * 300000 ≤ 140737486000000 →
    Calls Try.prog 43 #[wrV B, .slice (some ⟨eb, 0, none⟩) fs.length fs.length] w (WOut w B g l (Cm.enc ps))

/-- What walkList does with the list in a cell that was there in w0. -/
def ListC (w0 : World) (fn : FuncId) (most : Nat) (b o : Nat) (ps : List (Cm.K × Cm.V)) : Prop :=
  ∀ (w : World) (B : Nat) (g : Option Nat) (l : List UInt8), Below w0.heap.size w0 w → Wr w B g l → w0.heap.size ≤ B → (∀ k, g = some k → w0.heap.size ≤ k) → l.length + ps.length * 300000 ≤ 140737486000000 →
    Calls Try.prog fn #[wrV B, .pointer (some ⟨b, o, none⟩), .int .i64 (most : Int)] w (WOut w B g l (Cm.enc ps))

/-- What a field that was there in w0 has in it. -/
def FW (w0 : World) : Fd → List (Cm.K × Cm.V) → Prop
  | .inl (b, o), ps => ∃ v : Int, v < 9223372036854775808 ∧ w0.cell? ⟨b, o, none⟩ = some (.int .i64 v) ∧ ps = [(.n Cm.mI, .n v)]
  | .inr (.inl (b, o)), ps => ∃ v : Int, v < 9223372036854775808 ∧ w0.cell? ⟨b, o, none⟩ = some (.int .i64 v) ∧ w0.frozen? ⟨b, o, none⟩ = false ∧ ps = [(.n Cm.mI, .n v)]
  | .inr (.inr (.inl (b, o))), ps => ∃ t : Bool, w0.cell? ⟨b, o, none⟩ = some (.bool t) ∧ w0.frozen? ⟨b, o, none⟩ = false ∧ ps = [(.n 1, .n (if t then 1 else 0))]
  | .inr (.inr (.inr (.inl (b, o)))), ps => ∃ s : ByteArray, s.size < 9223372036854775808 ∧ w0.cell? ⟨b, o, none⟩ = some (.string s) ∧ ps = [(.t, .t s)]
  | .inr (.inr (.inr (.inr (.inl (b, o))))), ps => ListC w0 53 16 b o ps
  | .inr (.inr (.inr (.inr (.inr (.inl (b, o)))))), ps => ListC w0 54 64 b o ps
  | .inr (.inr (.inr (.inr (.inr (.inr (t, b, o)))))), ps => WalkC w0 (fields b o t) ps

namespace Cm
theorem enc_one (k : K) (v : V) : enc [(k, v)] = enc1 k v := by
  simp only [enc]
  cases enc1 k v <;> simp

theorem enc_take {pss : List (List (K × V))} {k : Nat} {p : List (K × V)} (hk : pss[k]? = some p) : enc (pss.take (k + 1)).flatten = match enc (pss.take k).flatten with
    | none => none
    | some a => match enc p with
      | none => none
      | some b => some (a ++ b) := by
  rw [List.take_add_one, hk, List.flatten_append, enc_append]
  have e : ((some p).toList).flatten = p := by simp
  rw [e]
  cases enc (pss.take k).flatten with
  | none => rfl
  | some a => cases enc p <;> rfl

theorem enc_fall {pss : List (List (K × V))} {k : Nat} (h : enc (pss.take k).flatten = none) : enc pss.flatten = none := by
  conv => lhs; rw [← List.take_append_drop k pss, List.flatten_append, enc_append]
  rw [h]

theorem flat_len (pss : List (List (K × V))) (k : Nat) {p : List (K × V)} (hk : pss[k]? = some p) : (pss.take k).flatten.length + p.length ≤ pss.flatten.length := by
  conv => rhs; rw [← List.take_append_drop (k + 1) pss, List.flatten_append, List.length_append]
  rw [List.take_add_one, hk, List.flatten_append, List.length_append]
  simp

theorem enc1_len {k : K} {v : V} {bs : List UInt8} (h : enc1 k v = some bs) (hk : ∀ m, k = .n m → m < 9223372036854775808) : bs.length ≤ 300000 := by
  cases k with
  | inl m =>
    cases v with
    | inr s => simp [enc1] at h
    | inl v =>
      rw [enc1] at h
      split at h
      · rename_i hv
        simp only [Option.some.injEq] at h
        subst h
        have hm := hk m rfl
        have := M.putVar_length9 (n := v.toNat) (by omega)
        omega
      · simp at h
  | inr u =>
    cases v with
    | inl v => simp [enc1] at h
    | inr s =>
      rw [enc1] at h
      split at h
      · rename_i hv
        simp only [Option.some.injEq] at h
        subst h
        unfold mR at hv
        have := M.putVar_length9 (n := s.size) (by omega)
        have e : s.data.toList.length = s.size := by rw [Array.length_toList]; rfl
        rw [List.length_append, e]
        omega
      · simp at h

theorem enc_len : ∀ (ps : List (K × V)) (bs : List UInt8), small ps → enc ps = some bs → bs.length ≤ ps.length * 300000
  | [], bs, _, h => by
    simp only [enc, Option.some.injEq] at h
    subst h
    simp
  | (k, v) :: r, bs, hs, h => by
    simp only [enc] at h
    cases h1 : enc1 k v with
    | none => rw [h1] at h; simp at h
    | some a =>
      rw [h1] at h
      simp only at h
      cases h2 : enc r with
      | none => rw [h2] at h; simp at h
      | some b =>
        rw [h2] at h
        simp only [Option.some.injEq] at h
        subst h
        have := enc_len r b (fun p hp => hs p (List.mem_cons_of_mem _ hp)) h2
        have := enc1_len h1 (hs _ (List.mem_cons_self ..))
        simp only [List.length_append, List.length_cons]
        omega
end Cm

/-- The writer under way: so much is put. -/
structure Wy (w0 w wr : World) (B : Nat) (g : Option Nat) (l : List UInt8) (pss : List (List (Cm.K × Cm.V))) (k : Nat) : Prop where
  out : ∃ bs g', Cm.enc (pss.take k).flatten = some bs ∧ Wr wr B g' (l ++ bs) ∧ (∀ j, g' = some j → g = some j ∨ w.heap.size ≤ j)
  kept : KeptO (WrO B g) w wr
  below : Below w0.heap.size w0 wr
  b0 : w0.heap.size ≤ B
  g0 : ∀ k, g = some k → w0.heap.size ≤ k
  size : w0.heap.size ≤ w.heap.size
  small : Cm.small pss.flatten
  len : l.length + pss.flatten.length * 300000 ≤ 140737486000000

theorem Wy.start {w0 w : World} {B : Nat} {g : Option Nat} {l : List UInt8} {pss : List (List (Cm.K × Cm.V))} (hb : Below w0.heap.size w0 w) (hw : Wr w B g l) (h0 : w0.heap.size ≤ B) (hg : ∀ k, g = some k → w0.heap.size ≤ k) (hs : Cm.small pss.flatten) (hl : l.length + pss.flatten.length * 300000 ≤ 140737486000000) : Wy w0 w w B g l pss 0 :=
  ⟨⟨[], g, rfl, by rw [List.append_nil]; exact hw, fun j h => .inl h⟩, KeptO.refl _ _, hb, h0, hg, hb.size, hs, hl⟩

theorem Wy.end_ {w0 w wr : World} {B : Nat} {g : Option Nat} {l : List UInt8} {pss : List (List (Cm.K × Cm.V))} (h : Wy w0 w wr B g l pss pss.length) : WOut w B g l (Cm.enc pss.flatten) (.returned (.tuple #[])) wr := by
  obtain ⟨bs, g', he, hw, hg⟩ := h.out
  rw [List.take_length] at he
  rw [he]
  exact ⟨rfl, g', hw, h.kept, hg⟩

theorem Wy.step {w0 w wr w' : World} {B : Nat} {g : Option Nat} {l : List UInt8} {pss : List (List (Cm.K × Cm.V))} {k : Nat} (h : Wy w0 w wr B g l pss k) {p : List (Cm.K × Cm.V)} (hk : pss[k]? = some p) {bs b : List UInt8} {g' : Option Nat} (he : Cm.enc (pss.take k).flatten = some bs) (hg : ∀ j, g' = some j → g = some j ∨ w.heap.size ≤ j)
    (hb : Cm.enc p = some b) {g2 : Option Nat} (hw : Wr w' B g2 ((l ++ bs) ++ b)) (hk2 : KeptO (WrO B g') wr w') (hg2 : ∀ j, g2 = some j → g' = some j ∨ wr.heap.size ≤ j) : Wy w0 w w' B g l pss (k + 1) := by
  refine ⟨⟨bs ++ b, g2, by rw [Cm.enc_take hk, he]; simp only [hb], by rw [← List.append_assoc]; exact hw, fun j hj => ?_⟩, h.kept.trans hk2 (WrO.mono_lt hg), ?_, h.b0, h.g0, h.size, h.small, h.len⟩
  · rcases hg2 j hj with x | x
    · exact hg j x
    · exact .inr (Nat.le_trans h.kept.size x)
  · refine h.below.trans ⟨hk2.os, hk2.tape, hk2.output, hk2.size, fun i hi => hk2.block i (by have := h.below.size; omega) ?_⟩
    rintro (x | x)
    · have := h.b0; omega
    · rcases hg i x with y | y
      · have := h.g0 i y; omega
      · have := h.size; omega

theorem Wy.panic {w0 w wr w' : World} {B : Nat} {g : Option Nat} {l : List UInt8} {pss : List (List (Cm.K × Cm.V))} {k : Nat} (h : Wy w0 w wr B g l pss k) {p : List (Cm.K × Cm.V)} (hk : pss[k]? = some p) {bs : List UInt8} {g' : Option Nat} (he : Cm.enc (pss.take k).flatten = some bs) (hg : ∀ j, g' = some j → g = some j ∨ w.heap.size ≤ j)
    (hb : Cm.enc p = none) (hk2 : KeptO (WrO B g') wr w') {t : TypeId} {v : Value} : WOut w B g l (Cm.enc pss.flatten) (.panicked [{ v := .iface t v, recovered := false }]) w' := by
  rw [Cm.enc_fall (k := k + 1) (by rw [Cm.enc_take hk, he]; simp only [hb])]
  exact ⟨⟨_, _, rfl⟩, h.kept.trans hk2 (WrO.mono_lt hg)⟩

end Go.Proofs.Ytnfjfhjhofaodaa
