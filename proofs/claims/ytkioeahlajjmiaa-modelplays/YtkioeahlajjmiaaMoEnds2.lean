/-
  A set's names as a list; Members beside what the caller keeps; two lists of one set's names.
-/
import Derived.Test.YtkioeahlajjmiaaMoEnds
import Derived.Test.YtkioeahlajjmiaaMoArgs
namespace Go.Proofs.Ytkioeahlajjmiaa
open Go.RowKit Go.Sort

theorem risen_mem {T : List ByteArray} {a : ByteArray} : a ∈ risen T ↔ a ∈ T := by
  unfold risen
  constructor
  · intro h
    obtain ⟨l, hl, rfl⟩ := List.mem_map.1 h
    have hl := (List.mergeSort_perm _ _).mem_iff.1 hl
    obtain ⟨b, hb, rfl⟩ := List.mem_map.1 hl
    rw [back]
    exact hb
  · intro h
    exact List.mem_map.2 ⟨a.data.toList, (List.mergeSort_perm _ _).mem_iff.2 (List.mem_map.2 ⟨a, h, rfl⟩), back a⟩
theorem risen_same {T T' : List ByteArray} (h1 : T.Nodup) (h2 : T'.Nodup) (h : ∀ a, a ∈ T ↔ a ∈ T') : risen T = risen T' := by
  unfold risen
  rw [mergeSort_of_perm (((List.perm_ext_iff_of_nodup h1 h2).2 h).map _)]
theorem risen_nil {T : List ByteArray} (h : ∀ a, a ∉ T) : risen T = [] := by
  cases e : risen T with
  | nil => rfl
  | cons a l => exact absurd (risen_mem.1 (by rw [e]; exact List.mem_cons_self)) (h a)

/-- A set's names, once each. -/
theorem names_of {w : World} {b n : Nat} {g : ByteArray → Bool} (h : Ms w b n g) : ∃ T : List ByteArray, T.Nodup ∧ ∀ a, a ∈ T ↔ (Ok a ∧ g a = true) := by
  obtain ⟨D, hown, hat⟩ := h
  obtain ⟨es, rfl, hap, _⟩ := hown.entries stKeyed
  have hks : ∀ p ∈ es, ∃ x : ByteArray, p.1 = sl x ∧ Ok x := by
    obtain ⟨es', clock, _, F, _, hD⟩ := hown
    injection hD with hD
    intro p hp
    rw [hD] at hp
    have hp := mem_sorted.1 hp
    obtain ⟨x, hx, rfl⟩ := List.mem_map.1 hp
    obtain ⟨y, hy⟩ := F.reads x hx
    have hk := WideElems.rd_key hy
    obtain ⟨a, _, ha, hl⟩ := sl_inv hk
    exact ⟨a, by rw [WideElems.rg_of hy]; exact hl, ha⟩
  refine ⟨es.map fun p => ⟨(strOf p.1).toArray⟩, ?_, fun a => ?_⟩
  · rw [List.nodup_iff_pairwise_ne, List.pairwise_map]
    refine List.Pairwise.imp_of_mem ?_ hap
    intro a b ha hb hab e
    obtain ⟨x, hx, _⟩ := hks a ha
    obtain ⟨y, hy, _⟩ := hks b hb
    rw [hx, hy] at e
    have e : (⟨x.data.toList.toArray⟩ : ByteArray) = ⟨y.data.toList.toArray⟩ := e
    rw [back, back] at e
    exact hab (by rw [hx, hy, e])
  · constructor
    · intro h
      obtain ⟨p, hp, e⟩ := List.mem_map.1 h
      obtain ⟨x, hx, ho⟩ := hks p hp
      rw [hx] at e
      have e : (⟨x.data.toList.toArray⟩ : ByteArray) = a := e
      rw [back] at e
      rw [← e]
      refine ⟨ho, ?_⟩
      rw [← hat x ho, Maps.has_eq, List.any_eq_true]
      exact ⟨p, hp, by rw [hx]; exact WideAt.sameKey_self (sl_key x)⟩
    · rintro ⟨ho, hg⟩
      rw [← hat a ho, Maps.has_eq, List.any_eq_true] at hg
      obtain ⟨p, hp, e⟩ := hg
      obtain ⟨x, hx, _⟩ := hks p hp
      by_cases q : x = a
      · exact List.mem_map.2 ⟨p, hp, by rw [hx, q]; exact back a⟩
      · rw [hx, sl_same q] at e
        cases e

section
variable {w X Y : World} {B : Nat} {s : Mo.St} {n : Nat} {L : List (Nat × Nat × Value)}

/-- Members, of a channel that is there: nobody who is no member is told. -/
theorem Mv.members (h : Mv w X B s n L) (hn : n < 1099511627776) {x y : ByteArray} {ch : Mo.Ch} (hx : Ok x) (hy : Ok y) (hs : s.ch x y = some ch) :
    Calls Try.prog 12 #[.pointer (some ⟨B, 0, none⟩), .string x, .string y] X fun e Y => ∃ p m c l, e = .returned (.tuple #[.slice p m c, .int .i64 0]) ∧ StrV Y (.slice p m c) l ∧ (∀ a ∈ l, ch.mem a = true) ∧ Below X.heap.size X Y := by
  obtain ⟨loc, ⟨who, ⟨bc, bo, f, cs, h1⟩, _⟩, _⟩ := h
  obtain ⟨k, hf, hck⟩ := h1.hasCh hs
  obtain ⟨bm, v, hc, _⟩ := h1.one _ _ k hf
  obtain ⟨T, hnd, hT⟩ := names_of hc.mem
  refine (Members_c h1 hn hx hy hf hnd hT).mono ?_
  rintro e Y ⟨p, m, c, rfl, q1, _, q3⟩
  exact ⟨p, m, c, _, rfl, q1, fun a ha => by rw [← hck]; exact ((hT a).1 (risen_mem.1 ha)).2, q3⟩

/-- The channels, where there is one; the list is kept. -/
theorem Mv.chans (h : Mv w X B s n L) (hn : n < 1099511627776) {sp y : ByteArray} {ch : Mo.Ch} (hs : s.ch sp y = some ch) :
    Calls Try.prog 13 #[.pointer (some ⟨B, 0, none⟩), .string sp] X fun e Y => ∃ g off c T, e = .returned (.slice (some ⟨g, off, none⟩) (risen T).length c) ∧ (risen T).length ≤ c ∧ c ≤ maxLen ∧ T.Nodup ∧ (∀ y, y ∈ T ↔ ∃ ch, s.ch sp y = some ch) ∧ (∀ y ∈ T, Ok y) ∧ Mv w Y B s n (rowL g off (risen T) ++ L) := by
  refine (h.channels hn sp).mono ?_
  rintro e Y ⟨p, m, c, T, rfl, q1, q2, q3, q4, q5, q6, q7⟩
  obtain ⟨p', c', hv, k1, k2, k3 | ⟨g, off, hp, hcs⟩⟩ := q4
  · have : y ∈ risen T := risen_mem.2 ((q2 y).2 ⟨ch, hs⟩)
    rw [k3] at this
    cases this
  · injection hv with v1 v2 v3
    subst v1 v2 v3 hp
    refine ⟨g, off, c, T, rfl, k1, k2, q1, q2, q3, h.add q6 (fun q hq => ?_)⟩
    obtain ⟨j, x, hx, rfl⟩ := rowL_of hq
    exact ⟨q5 _ rfl, hcs j x hx⟩
/-- The channels, where there is none. -/
theorem Mv.chans0 (h : Mv w X B s n L) (hn : n < 1099511627776) {sp : ByteArray} (hs : ∀ y, s.ch sp y = none) :
    Calls Try.prog 13 #[.pointer (some ⟨B, 0, none⟩), .string sp] X fun e Y => ∃ p c, e = .returned (.slice p 0 c) ∧ Below X.heap.size X Y := by
  refine (h.channels hn sp).mono ?_
  rintro e Y ⟨p, m, c, T, rfl, q1, q2, q3, q4, q5, q6, q7⟩
  have e0 : risen T = [] := risen_nil (fun a ha => by obtain ⟨ch, hc⟩ := (q2 a).1 ha; rw [hs a] at hc; cases hc)
  rw [e0] at q4
  obtain ⟨p', c', hv, _⟩ := q4
  injection hv with v1 v2 v3
  subst v2
  exact ⟨p, c, rfl, q6⟩
/-- The channels, that are as a list is. -/
theorem Mv.chansAs (h : Mv w X B s n L) (hn : n < 1099511627776) {sp : ByteArray} {T : List ByteArray} (hnd : T.Nodup) (hT : ∀ y, y ∈ T ↔ ∃ ch, s.ch sp y = some ch) :
    Calls Try.prog 13 #[.pointer (some ⟨B, 0, none⟩), .string sp] X fun e Y => ∃ p m c, e = .returned (.slice p m c) ∧ StrV Y (.slice p m c) (risen T) ∧ Below X.heap.size X Y := by
  refine (h.channels hn sp).mono ?_
  rintro e Y ⟨p, m, c, T', rfl, q1, q2, q3, q4, q5, q6, q7⟩
  rw [risen_same q1 hnd (fun a => (q2 a).trans (hT a).symm)] at q4
  exact ⟨p, m, c, rfl, q4, q6⟩
end
end Go.Proofs.Ytkioeahlajjmiaa
