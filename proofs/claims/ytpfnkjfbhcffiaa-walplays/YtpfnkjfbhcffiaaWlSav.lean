/-
  What is saved of a group, in a block: its cells and its list; last, termAt, which records fit.
-/
import Derived.Test.YtpfnkjfbhcffiaaWlRec
import Derived.Test.YtpfnkjfbhcffiaaWlRow
import Derived.BigRegion
import Derived.BigQuiet
namespace Go.Proofs.Ytpfnkjfbhcffiaa
open Go.RowKit

/-- Entries as cells. -/
def entCells (l : List (Int × ByteArray)) : List Value := l.flatMap fun e => [.int .i64 e.1, .string e.2]
theorem entCells_len (l : List (Int × ByteArray)) : (entCells l).length = l.length * 2 := by
  induction l with
  | nil => rfl
  | cons e l ih => rw [entCells, List.flatMap_cons, List.length_append, ← entCells, ih]; simp; omega
theorem entCells_snoc (l : List (Int × ByteArray)) (e : Int × ByteArray) : entCells (l ++ [e]) = entCells l ++ [.int .i64 e.1, .string e.2] := by simp [entCells]
theorem entCells_cons (e : Int × ByteArray) (l : List (Int × ByteArray)) : entCells (e :: l) = .int .i64 e.1 :: .string e.2 :: entCells l := by simp [entCells]
theorem entCells_at : ∀ (l : List (Int × ByteArray)) (i : Nat) (e : Int × ByteArray), l[i]? = some e → (entCells l)[i * 2]? = some (.int .i64 e.1) ∧ (entCells l)[i * 2 + 1]? = some (.string e.2)
  | [], _, _, h => by simp at h
  | x :: l, 0, e, h => by
    have h' : x = e := by simpa using h
    subst h'
    rw [entCells_cons]
    exact ⟨rfl, rfl⟩
  | x :: l, i + 1, e, h => by
    rw [entCells_cons]
    have := entCells_at l i e (by simpa using h)
    rw [show (i + 1) * 2 = i * 2 + 1 + 1 by omega]
    simpa using this
theorem entCells_one (l : List (Int × ByteArray)) : ∀ u ∈ entCells l, u.oneCell' = true := by
  intro u hu
  unfold entCells at hu
  rw [List.mem_flatMap] at hu
  obtain ⟨e, _, h⟩ := hu
  simp at h
  rcases h with rfl | rfl <;> rfl
theorem entCells_take (l : List (Int × ByteArray)) (k : Nat) : entCells (l.take k) = (entCells l).take (k * 2) := by
  induction l generalizing k with
  | nil => simp [entCells]
  | cons e l ih =>
    cases k with
    | zero => simp [entCells]
    | succ k =>
      rw [List.take_succ_cons, entCells_cons, entCells_cons, ih, show (k + 1) * 2 = k * 2 + 1 + 1 by omega]
      rfl
theorem entCells_drop (l : List (Int × ByteArray)) (k : Nat) : entCells (l.drop k) = (entCells l).drop (k * 2) := by
  induction l generalizing k with
  | nil => simp [entCells]
  | cons e l ih =>
    cases k with
    | zero => simp
    | succ k =>
      rw [List.drop_succ_cons, entCells_cons, ih, show (k + 1) * 2 = k * 2 + 1 + 1 by omega]
      rfl

/-- The slice value v is a list of entries in a row of its own. -/
def EntV (w : World) (v : Value) (l : List (Int × ByteArray)) : Prop := RowV w 75 2 v l.length (entCells l)

/-- Block B holds, from cell o on, what is saved; the list's value is v. -/
structure SvC (w : World) (B o : Nat) (s : W.Sv) (v : Value) : Prop where
  c0 : w.cell? ⟨B, o, none⟩ = some (.int .i64 s.term)
  c1 : w.cell? ⟨B, o + 1, none⟩ = some (.int .i64 s.vote)
  c2 : w.cell? ⟨B, o + 2, none⟩ = some (.int .i64 s.base)
  c3 : w.cell? ⟨B, o + 3, none⟩ = some (.int .i64 s.bterm)
  c4 : w.cell? ⟨B, o + 4, none⟩ = some (.string s.data)
  c5 : w.cell? ⟨B, o + 5, none⟩ = some v
  fz : ∀ j, j < 6 → w.frozen? ⟨B, o + j, none⟩ = false

theorem SvC.carry {w w' : World} {B o : Nat} {s : W.Sv} {v : Value} (h : SvC w B o s v) (hb : w'.heap[B]? = w.heap[B]?) : SvC w' B o s v := by
  have hc : ∀ p, w'.cell? ⟨B, p, none⟩ = w.cell? ⟨B, p, none⟩ := fun p => World.cell?_of_block (a := ⟨B, p, none⟩) hb
  have hf : ∀ p, w'.frozen? ⟨B, p, none⟩ = w.frozen? ⟨B, p, none⟩ := fun p => World.frozen?_of_block (a := ⟨B, p, none⟩) hb
  exact ⟨by rw [hc]; exact h.c0, by rw [hc]; exact h.c1, by rw [hc]; exact h.c2, by rw [hc]; exact h.c3, by rw [hc]; exact h.c4, by rw [hc]; exact h.c5, fun j hj => by rw [hf]; exact h.fz j hj⟩

theorem SvC.lt {w : World} {B o : Nat} {s : W.Sv} {v : Value} (h : SvC w B o s v) : B < w.heap.size := by
  apply Classical.byContradiction
  intro hn
  have := h.c0
  simp [World.cell?, show w.heap[B]? = none from Array.getElem?_eq_none (by omega)] at this

theorem last_c {w : World} {B o : Nat} {s : W.Sv} {v : Value} (h : SvC w B o s v) (he : EntV w v s.ents) (hok : W.Ok s) :
    Calls Try.prog 77 #[.pointer (some ⟨B, o, none⟩)] w fun e w' => e = .returned (.int .i64 (W.last s)) ∧ w' = w.drew := by
  obtain ⟨p, c, hv, _, _⟩ := he.form
  have h2 := h.c2
  have h5 := h.c5
  rw [hv] at h5
  have hb := hok.base
  have hl := hok.last
  unfold W.last at hl ⊢
  obtain ⟨n, hn⟩ : ∃ n, n = s.ents.length := ⟨_, rfl⟩
  rw [← hn] at h5 hl ⊢
  obtain ⟨x, hx⟩ : ∃ x, x = s.base := ⟨_, rfl⟩
  rw [← hx] at h2 hb hl ⊢
  have hw : IntKind.i64.wrap (x + (n : Int)) = x + (n : Int) := by rw [IntKind.wrap_i64]; omega
  clear h he hok hv hn hx
  go_enter Try.func77, Try.ntmps77
  go_wp2
  go_region
  go_wp2
  go_ret
  exact ⟨rfl, rfl⟩

theorem termAt_base {w : World} {B o : Nat} {s : W.Sv} {v : Value} (h : SvC w B o s v) :
    Calls Try.prog 78 #[.pointer (some ⟨B, o, none⟩), .int .i64 s.base] w fun e w' => e = .returned (.int .i64 s.bterm) ∧ w' = w := by
  have h2 := h.c2
  have h3 := h.c3
  have hd : (s.base == s.base) = true := by simp
  clear h
  go_enter Try.func78, Try.ntmps78
  go_wp2
  go_ret
  exact ⟨rfl, rfl⟩

theorem termAt_in {w : World} {B o : Nat} {s : W.Sv} {v : Value} (h : SvC w B o s v) (he : EntV w v s.ents) (hok : W.Ok s) (k : Nat) (hk : k < s.ents.length) :
    Calls Try.prog 78 #[.pointer (some ⟨B, o, none⟩), .int .i64 (s.base + 1 + (k : Int))] w fun e w' => e = .returned (.int .i64 s.ents[k].1) ∧ w' = w.drew := by
  obtain ⟨g, c, hv, _, hnc, hcm, hc⟩ := he.cells (by omega)
  have h2 := h.c2
  have h5 := h.c5
  rw [hv] at h5
  have hb := hok.base
  have hl := hok.last
  unfold W.last at hl
  have he1 := hc (k * 2) (by omega)
  rw [(entCells_at s.ents k s.ents[k] (List.getElem?_eq_getElem hk)).1] at he1
  obtain ⟨t, ht⟩ : ∃ t, t = s.ents[k].1 := ⟨_, rfl⟩
  rw [← ht] at he1 ⊢
  obtain ⟨n, hn⟩ : ∃ n, n = s.ents.length := ⟨_, rfl⟩
  rw [← hn] at h5 hl hk hnc
  obtain ⟨x, hx⟩ : ∃ x, x = s.base := ⟨_, rfl⟩
  rw [← hx] at h2 hb hl ⊢
  have hw : IntKind.i64.wrap (x + 1 + (k : Int) - x) = 1 + (k : Int) := by rw [IntKind.wrap_i64]; omega
  have hw2 : IntKind.i64.wrap (1 + (k : Int) - 1) = (k : Int) := by rw [IntKind.wrap_i64]; omega
  have hd : (x + 1 + (k : Int) == x) = false := by simp; omega
  unfold maxLen at hcm
  clear h he hok hv hn hx hc ht
  go_enter Try.func78, Try.ntmps78
  go_wp2
  go_region
  go_wp2
  go_ret
  exact ⟨rfl, rfl⟩

theorem termAt_c {w : World} {B o : Nat} {s : W.Sv} {v : Value} (h : SvC w B o s v) (he : EntV w v s.ents) (hok : W.Ok s) (i : Int) (hi : s.base ≤ i ∧ i ≤ W.last s) :
    Calls Try.prog 78 #[.pointer (some ⟨B, o, none⟩), .int .i64 i] w fun e w' => e = .returned (.int .i64 (W.termAt s i)) ∧ ∃ m, w' = w.drewN m := by
  unfold W.last at hi
  unfold W.termAt
  by_cases e : i = s.base
  · rw [if_pos e, e]
    refine (termAt_base h).mono ?_
    rintro e w' ⟨rfl, hw⟩
    exact ⟨rfl, 0, hw⟩
  · rw [if_neg e]
    have hk : (i - s.base - 1).toNat < s.ents.length := by omega
    rw [List.getElem?_eq_getElem hk]
    have := termAt_in h he hok _ hk
    rw [show s.base + 1 + (((i - s.base - 1).toNat : Nat) : Int) = i by omega] at this
    refine this.mono ?_
    rintro e w' ⟨rfl, hw⟩
    exact ⟨rfl, 1, hw⟩

end Go.Proofs.Ytpfnkjfbhcffiaa
