/-
  Who is off is in no channel; a list of texts has one; Channels beside what the caller keeps.
-/
import Derived.Test.YtkioeahlajjmiaaMoDo6
import Derived.Test.YtkioeahlajjmiaaMoChans
namespace Go.Proofs.Ytkioeahlajjmiaa
open Go.RowKit Go.Sort

/-- Who is off is in no channel. -/
def Oo (s : Mo.St) : Prop := ∀ a, s.off a = true → ∀ x y c, s.ch x y = some c → c.mem a = false

theorem Oo.new : Oo Mo.new := fun a h => by cases h
theorem Oo.setC {s : Mo.St} (h : Oo s) {p q : ByteArray} {c' : Option Mo.Ch} (hc : ∀ c, c' = some c → ∀ a, s.off a = true → c.mem a = false) : Oo (Mo.setC s p q c') := fun a ha x y c hs => by
  have hs : (if x = p ∧ y = q then c' else s.ch x y) = some c := hs
  split at hs
  · exact hc c hs a ha
  · exact h a ha x y c hs
theorem Oo.does {s : Mo.St} (h : Oo s) (o : Mo.Op) : Oo (Mo.does s o) := by
  unfold Mo.does
  split
  · exact h
  split
  · split
    · exact h
    · exact h.setC (fun c e a _ => by injection e with e; rw [← e]; rfl)
  split
  · split
    · exact h
    · rename_i c hc
      split
      · exact h
      · rename_i hof
        split
        · exact h
        · refine h.setC (fun c' e a ha => ?_)
          injection e with e
          rw [← e]
          show (if a = o.user then true else c.mem a) = false
          rw [if_neg (fun q => hof (by rw [← q]; exact ha))]
          exact h a ha _ _ c hc
  split
  · split
    · exact h
    · rename_i c hc
      split
      · refine h.setC (fun c' e a ha => ?_)
        injection e with e
        rw [← e]
        exact h a ha _ _ c hc
      · exact h
  split
  · exact h
  split
  · split
    · exact h
    · rename_i c hc
      split
      · exact h
      · refine Oo.setC (h.setC (fun c' e => by cases e)) (fun c' e a ha => ?_)
        injection e with e
        rw [← e]
        exact h a ha _ _ c hc
  split
  · intro a ha x y c hs
    have hs : (if x = o.space then none else s.ch x y) = some c := hs
    split at hs
    · cases hs
    · exact h a ha x y c hs
  split
  · exact h
  · intro a ha x y c hs
    have hs : (s.ch x y).map (Mo.lessM · o.user) = some c := hs
    obtain ⟨c', hc', e⟩ := Option.map_eq_some_iff.1 hs
    rw [← e]
    show (if a = o.user then false else c'.mem a) = false
    split
    · rfl
    · rename_i hne
      have ha : (if a = o.user then true else s.off a) = true := ha
      rw [if_neg hne] at ha
      exact h a ha x y c' hc'

/-- A row's cells. -/
def rowL (g off : Nat) (l : List ByteArray) : List (Nat × Nat × Value) := (List.range l.length).map fun j => (g, off + j, .string (l.getD j ⟨#[]⟩))
theorem rowL_mem {g off : Nat} {l : List ByteArray} {j : Nat} {x : ByteArray} (h : l[j]? = some x) : (g, off + j, Value.string x) ∈ rowL g off l := by
  have hj : j < l.length := (List.getElem?_eq_some_iff.1 h).1
  refine List.mem_map.2 ⟨j, List.mem_range.2 hj, ?_⟩
  simp [List.getD, h]
theorem rowL_of {g off : Nat} {l : List ByteArray} {q : Nat × Nat × Value} (h : q ∈ rowL g off l) : ∃ j x, l[j]? = some x ∧ q = (g, off + j, .string x) := by
  obtain ⟨j, hj, rfl⟩ := List.mem_map.1 h
  have hj := List.mem_range.1 hj
  exact ⟨j, l[j], List.getElem?_eq_getElem hj, by simp [List.getD, List.getElem?_eq_getElem hj]⟩

section
variable {w X Y : World} {B : Nat} {s : Mo.St} {n : Nat} {L : List (Nat × Nat × Value)}

theorem Mv.strs {l : List ByteArray} {g off c : Nat} (h : Mv w X B s n L) (h1 : l.length ≤ c) (h2 : c ≤ maxLen) (hL : ∀ q ∈ rowL g off l, q ∈ L) : StrV X (.slice (some ⟨g, off, none⟩) l.length c) l := by
  obtain ⟨loc, _, h4⟩ := h
  exact ⟨_, c, rfl, h1, h2, .inr ⟨g, off, rfl, fun j x hx => (h4 _ (hL _ (rowL_mem hx))).2⟩⟩

theorem Mv.channels (h : Mv w X B s n L) (hn : n < 1099511627776) (sp : ByteArray) :
    Calls Try.prog 13 #[.pointer (some ⟨B, 0, none⟩), .string sp] X fun e Y => ∃ p m c T, e = .returned (.slice p m c) ∧ T.Nodup ∧ (∀ y, y ∈ T ↔ ∃ ch, s.ch sp y = some ch) ∧ (∀ y ∈ T, Ok y) ∧ StrV Y (.slice p m c) (risen T) ∧ (∀ a, p = some a → X.heap.size ≤ a.block) ∧ Below X.heap.size X Y ∧ Mv w Y B s n L := by
  have hv := h
  obtain ⟨loc, ⟨who, ⟨bc, bo, f, cs, h1⟩, _⟩, _⟩ := h
  refine (Channels_c h1 hn sp).mono ?_
  rintro e Y ⟨p, m, c, T, rfl, q1, q2, q3, q4, q5⟩
  refine ⟨p, m, c, T, rfl, q1, fun y => ?_, fun y hy => ?_, q3, q4, q5, hv.below q5⟩
  · rw [q2 y, h1.ch]
    constructor
    · rintro ⟨k, hk⟩
      exact ⟨cs k, by rw [hk]; rfl⟩
    · rintro ⟨ch, hc⟩
      obtain ⟨k, hk, _⟩ := Option.map_eq_some_iff.1 hc
      exact ⟨k, hk⟩
  · obtain ⟨k, hk⟩ := (q2 y).1 hy
    exact (h1.dom _ _ k hk).2
end

set_option maxHeartbeats 800000 in
set_option maxRecDepth 20000 in
theorem In_c {w : World} {u : Value} {l : List ByteArray} (hu : StrV w u l) (x : ByteArray) (hx : x ∉ l) : Calls Try.prog 15 #[u, .string x] w fun e w' => e = .returned (.bool false) ∧ Below w.heap.size w w' := by
  obtain ⟨p, c, rfl, q1, q2, q3⟩ := hu
  obtain ⟨m, hm⟩ : ∃ m, m = l.length := ⟨_, rfl⟩
  have HX : Hid (∀ k, k < m → ∃ y g off, p = some ⟨g, off, none⟩ ∧ (y.toList == x.toList) = false ∧ ∀ X, Below w.heap.size w X → X.cell? ⟨g, off + k, none⟩ = some (.string y)) := fun k hk => by
    have hl : l ≠ [] := fun e => by rw [e] at hm; simp at hm; omega
    rcases q3 with q3 | ⟨g, off, hp, hc⟩
    · exact absurd q3 hl
    have hk' : k < l.length := by omega
    have a1 := hc k _ (List.getElem?_eq_getElem hk')
    exact ⟨_, g, off, hp, by rw [beqB]; exact decide_eq_false (fun e => hx (by rw [← e]; exact List.getElem_mem hk')), fun X hX => (hX.cell (p := ⟨g, off + k, none⟩) (World.block_lt_of_cell? _ _ a1)).trans a1⟩
  rw [← hm] at q1 ⊢
  unfold maxLen at q2
  clear q3 hm hx
  go_enter Try.func15, Try.ntmps15
  go_wp2
  go_loopw [5] (fun iv wr => ∃ k : Nat, iv = .int .i64 (k : Int) ∧ k ≤ m ∧ Hid (Below w.heap.size w wr)) (fun iv _ => m - (intOf iv).toNat)
  case atStart => exact ⟨0, rfl, Nat.zero_le _, Below.refl _ _⟩
  case round =>
    obtain ⟨k, rfl, hk, HB⟩ := hrel
    by_cases hlt : k < m
    · obtain ⟨y, g, off, hp, hne, hc⟩ := HX.out k hlt
      subst hp
      have hk0 : (0 : Int) ≤ (k : Int) := by omega
      have hk1 : (k : Int) < (m : Int) := by omega
      have HS := hc wr HB.out
      have HSd := hc wr.drew HB.out.drew
      have HBd : Hid (Below w.heap.size w wr.drew) := HB.out.drew
      clear hc
      go_wp2
      go_roundw
      case rel => exact ⟨k + 1, by go_num, by omega, HB⟩
      case measure => simp [intOf]; omega
    · obtain rfl : k = m := by omega
      go_wp2
      go_ret
      exact ⟨rfl, HB.out⟩
end Go.Proofs.Ytkioeahlajjmiaa
