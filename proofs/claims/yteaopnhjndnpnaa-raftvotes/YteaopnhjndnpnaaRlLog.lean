/-
  A raft log in memory: its block, its entries' row; what of the world stays as it was while it is used; its calls that read alone.
-/
import Derived.Test.YteaopnhjndnpnaaRows
import Derived.Test.YteaopnhjndnpnaaRlRow
import Derived.Test.YteaopnhjndnpnaaRlMath
import Derived.BigRegion
import Derived.BigQuiet
import Derived.Deep.RegionHeld
namespace Go.Proofs.Yteaopnhjndnpnaa
open Go.RowKit

/-- Entries as cells. -/
def entCells (l : List (Int × ByteArray)) : List Value := l.flatMap fun e => [.int .i64 e.1, .string e.2]
theorem entCells_len (l : List (Int × ByteArray)) : (entCells l).length = l.length * 2 := by
  induction l with
  | nil => rfl
  | cons e l ih => rw [entCells, List.flatMap_cons, List.length_append, ← entCells, ih]; simp; omega
theorem entCells_snoc (l : List (Int × ByteArray)) (e : Int × ByteArray) : entCells (l ++ [e]) = entCells l ++ [.int .i64 e.1, .string e.2] := by simp [entCells]
theorem entCells_append (l l' : List (Int × ByteArray)) : entCells (l ++ l') = entCells l ++ entCells l' := by simp [entCells]
theorem entCells_cons (e : Int × ByteArray) (l : List (Int × ByteArray)) : entCells (e :: l) = .int .i64 e.1 :: .string e.2 :: entCells l := by simp [entCells]
theorem entCells_at : ∀ (l : List (Int × ByteArray)) (i : Nat) (e : Int × ByteArray), l[i]? = some e → (entCells l)[i * 2]? = some (.int .i64 e.1) ∧ (entCells l)[i * 2 + 1]? = some (.string e.2)
  | [], _, _, h => by simp at h
  | x :: l, 0, e, h => by
    have h' : x = e := by simpa using h
    subst h'
    rw [entCells_cons]
    exact ⟨rfl, rfl⟩
  | x :: l, i + 1, e, h => by
    rw [entCells_cons]
    have := entCells_at l i e (by simpa using h)
    rw [show (i + 1) * 2 = i * 2 + 1 + 1 by omega]
    simpa using this
theorem entCells_one (l : List (Int × ByteArray)) : ∀ u ∈ entCells l, u.oneCell' = true := by
  intro u hu
  unfold entCells at hu
  rw [List.mem_flatMap] at hu
  obtain ⟨e, _, h⟩ := hu
  simp at h
  rcases h with rfl | rfl <;> rfl
theorem entCells_take (l : List (Int × ByteArray)) (k : Nat) : entCells (l.take k) = (entCells l).take (k * 2) := by
  induction l generalizing k with
  | nil => simp [entCells]
  | cons e l ih =>
    cases k with
    | zero => simp [entCells]
    | succ k =>
      rw [List.take_succ_cons, entCells_cons, entCells_cons, ih, show (k + 1) * 2 = k * 2 + 1 + 1 by omega]
      rfl
theorem entCells_drop (l : List (Int × ByteArray)) (k : Nat) : entCells (l.drop k) = (entCells l).drop (k * 2) := by
  induction l generalizing k with
  | nil => simp [entCells]
  | cons e l ih =>
    cases k with
    | zero => simp
    | succ k =>
      rw [List.drop_succ_cons, entCells_cons, ih, show (k + 1) * 2 = k * 2 + 1 + 1 by omega]
      rfl

/-- What is neither block b nor owned is as it was. -/
structure KeptB (b : Nat) (own : Nat → Prop) (w w' : World) : Prop where
  os : w'.os = w.os
  tape : w'.tape = w.tape
  output : w'.output = w.output
  size : w.heap.size ≤ w'.heap.size
  block : ∀ k, k < w.heap.size → k ≠ b → ¬ own k → w'.heap[k]? = w.heap[k]?

/-- What was owned, and what was made since. -/
def sinceB (own : Nat → Prop) (w w' : World) : Nat → Prop := fun k => own k ∨ (w.heap.size ≤ k ∧ k < w'.heap.size)

theorem KeptB.refl (b : Nat) (own : Nat → Prop) (w : World) : KeptB b own w w := ⟨rfl, rfl, rfl, Nat.le_refl _, fun _ _ _ _ => rfl⟩
theorem KeptB.trans {b : Nat} {own own' : Nat → Prop} {a w w' : World} (h : KeptB b own a w) (k : KeptB b own' w w') (ho : ∀ k, k < a.heap.size → own' k → own k) : KeptB b own a w' :=
  ⟨k.os.trans h.os, k.tape.trans h.tape, k.output.trans h.output, Nat.le_trans h.size k.size, fun i hi hb hn => (k.block i (Nat.lt_of_lt_of_le hi h.size) hb (fun e => hn (ho i hi e))).trans (h.block i hi hb hn)⟩
theorem KeptB.ofBelow {b : Nat} {own : Nat → Prop} {w w' : World} (h : Below w.heap.size w w') : KeptB b own w w' := ⟨h.os, h.tape, h.output, h.size, fun k hk _ _ => h.block k hk⟩
theorem KeptB.below {b B : Nat} {own : Nat → Prop} {w w' : World} (h : KeptB b own w w') (hb : B ≤ b) (ho : ∀ k, own k → B ≤ k) (hB : B ≤ w.heap.size) : Below B w w' :=
  ⟨h.os, h.tape, h.output, h.size, fun k hk => h.block k (by omega) (by omega) (fun e => by have := ho k e; omega)⟩
theorem KeptB.setCell {b : Nat} {own : Nat → Prop} {a w : World} (h : KeptB b own a w) (p : Addr) (hp : p.block = b ∨ own p.block ∨ a.heap.size ≤ p.block) (u : Value) : KeptB b own a (w.setCell p u) :=
  ⟨h.os, h.tape, h.output, by simpa [World.setCell] using h.size, fun k hk hb hn => by
    rw [Below.heap_setCell _ _ _ _ (by rintro rfl; rcases hp with e | e | e; exact hb e; exact hn e; omega)]
    exact h.block k hk hb hn⟩
theorem KeptB.grown {b : Nat} {own : Nat → Prop} {a w w' : World} {row : Option Nat} (h : KeptB b own a w) (hg : w.grownBy w' row) (hr : ∀ k, row = some k → k = b ∨ own k ∨ a.heap.size ≤ k) : KeptB b own a w' :=
  ⟨hg.os.trans h.os, hg.tape.trans h.tape, hg.output.trans h.output, Nat.le_trans h.size hg.size, fun k hk hb hn => by
    rw [hg.block k (Nat.lt_of_lt_of_le hk h.size) (fun e => by rcases hr k e.symm with q | q | q; exact hb q; exact hn q; omega)]
    exact h.block k hk hb hn⟩

/-- Block B holds a log, whose entries' slice is v; of them m places were emptied. -/
structure LgV (w : World) (B : Nat) (s : G.L) (own : Nat → Prop) (v : Value) (m : Nat) : Prop where
  lt : B < w.heap.size
  c0 : w.cell? ⟨B, 0, none⟩ = some (.bool true)
  c1 : w.cell? ⟨B, 1, none⟩ = some (.int .i64 s.base)
  c2 : w.cell? ⟨B, 2, none⟩ = some (.int .i64 s.term)
  c3 : w.cell? ⟨B, 3, none⟩ = some v
  c4 : w.cell? ⟨B, 4, none⟩ = some (.int .i64 (m : Int))
  fz : ∀ j, j < 5 → w.frozen? ⟨B, j, none⟩ = false
  row : RowC w 2 v s.ents.length (entCells s.ents)
  mine : ∀ k, cBlk v = some k → own k
  here : ∀ k, own k → k < w.heap.size ∧ k ≠ B
  few : m ≤ s.ents.length
  ok : G.Ok s

def Lg (w : World) (B : Nat) (s : G.L) (own : Nat → Prop) : Prop := ∃ v m, LgV w B s own v m

theorem LgV.carry {w w' : World} {B : Nat} {s : G.L} {own : Nat → Prop} {v : Value} {m : Nat} (h : LgV w B s own v m) (hs : w.heap.size ≤ w'.heap.size) (hb : w'.heap[B]? = w.heap[B]?) (ho : ∀ k, own k → w'.heap[k]? = w.heap[k]?) : LgV w' B s own v m := by
  have hc : ∀ p, w'.cell? ⟨B, p, none⟩ = w.cell? ⟨B, p, none⟩ := fun p => World.cell?_of_block (a := ⟨B, p, none⟩) hb
  have hf : ∀ p, w'.frozen? ⟨B, p, none⟩ = w.frozen? ⟨B, p, none⟩ := fun p => World.frozen?_of_block (a := ⟨B, p, none⟩) hb
  exact ⟨Nat.lt_of_lt_of_le h.lt hs, by rw [hc]; exact h.c0, by rw [hc]; exact h.c1, by rw [hc]; exact h.c2, by rw [hc]; exact h.c3, by rw [hc]; exact h.c4, fun j hj => by rw [hf]; exact h.fz j hj, h.row.carry (fun k hk => ho k (h.mine k hk)), h.mine, fun k hk => ⟨Nat.lt_of_lt_of_le (h.here k hk).1 hs, (h.here k hk).2⟩, h.few, h.ok⟩
theorem Lg.carry {w w' : World} {B : Nat} {s : G.L} {own : Nat → Prop} (h : Lg w B s own) (hs : w.heap.size ≤ w'.heap.size) (hb : w'.heap[B]? = w.heap[B]?) (ho : ∀ k, own k → w'.heap[k]? = w.heap[k]?) : Lg w' B s own := by
  obtain ⟨v, m, h⟩ := h
  exact ⟨v, m, h.carry hs hb ho⟩
theorem Lg.lt {w : World} {B : Nat} {s : G.L} {own : Nat → Prop} (h : Lg w B s own) : B < w.heap.size := by obtain ⟨v, m, h⟩ := h; exact h.lt
theorem Lg.here {w : World} {B : Nat} {s : G.L} {own : Nat → Prop} (h : Lg w B s own) : ∀ k, own k → k < w.heap.size ∧ k ≠ B := by obtain ⟨v, m, h⟩ := h; exact h.here
theorem Lg.ok {w : World} {B : Nat} {s : G.L} {own : Nat → Prop} (h : Lg w B s own) : G.Ok s := by obtain ⟨v, m, h⟩ := h; exact h.ok
theorem Lg.below {w w' : World} {B : Nat} {s : G.L} {own : Nat → Prop} (h : Lg w B s own) (hb : Below w.heap.size w w') : Lg w' B s own := h.carry hb.size (hb.block B h.lt) (fun k hk => hb.block k (h.here k hk).1)
theorem LgV.below {w w' : World} {B : Nat} {s : G.L} {own : Nat → Prop} {v : Value} {m : Nat} (h : LgV w B s own v m) (hb : Below w.heap.size w w') : LgV w' B s own v m := h.carry hb.size (hb.block B h.lt) (fun k hk => hb.block k (h.here k hk).1)
theorem Lg.wider {w : World} {B : Nat} {s : G.L} {own own' : Nat → Prop} (h : Lg w B s own) (ho : ∀ k, own k → own' k) (hh : ∀ k, own' k → k < w.heap.size ∧ k ≠ B) : Lg w B s own' := by
  obtain ⟨v, m, h⟩ := h
  exact ⟨v, m, h.lt, h.c0, h.c1, h.c2, h.c3, h.c4, h.fz, h.row, fun k hk => ho k (h.mine k hk), hh, h.few, h.ok⟩

/-- What a call of a log leaves. -/
def Aft (own : Nat → Prop) (w w' : World) (B : Nat) (s : G.L) : Prop := Lg w' B s (sinceB own w w') ∧ KeptB B own w w'

theorem Aft.same {w w' : World} {B : Nat} {s : G.L} {own : Nat → Prop} (h : Lg w B s own) (hb : Below w.heap.size w w') : Aft own w w' B s := by
  have hh := h.here
  have hl := h.lt
  refine ⟨(h.below hb).wider (fun k hk => .inl hk) (fun k hk => ?_), KeptB.ofBelow hb⟩
  rcases hk with e | e
  · exact ⟨Nat.lt_of_lt_of_le (hh k e).1 hb.size, (hh k e).2⟩
  · exact ⟨e.2, by omega⟩

theorem below_drewN (w : World) (n : Nat) : Below w.heap.size w (w.drewN n) := ⟨rfl, rfl, rfl, Nat.le_refl _, fun _ _ => rfl⟩
theorem below_alloc (w : World) (o : Obj) : Below w.heap.size w (w.alloc o) := (Below.refl _ _).alloc (Nat.le_refl _) o

section
variable {w : World} {B : Nat} {s : G.L} {own : Nat → Prop}

theorem isMade_c (h : Lg w B s own) : Calls Try.prog 49 #[.pointer (some ⟨B, 0, none⟩)] w fun e w' => e = .returned (.bool true) ∧ w' = w := by
  obtain ⟨v, m, h⟩ := h
  have h0 := h.c0
  clear h
  go_enter Try.func49, Try.ntmps49
  go_wp2
  go_ret
  exact ⟨rfl, rfl⟩

theorem Base_c (h : Lg w B s own) : Calls Try.prog 29 #[.pointer (some ⟨B, 0, none⟩)] w fun e w' => e = .returned (.int .i64 s.base) ∧ w' = w := by
  have HM : Hid _ := isMade_c h
  obtain ⟨v, m, h⟩ := h
  have h1 := h.c1
  clear h
  go_enter Try.func29, Try.ntmps29
  go_wp2_with fail
  refine Calls.mono HM.out ?_
  rintro e w1 ⟨rfl, hw⟩
  subst hw
  go_wp2
  go_ret
  exact ⟨rfl, rfl⟩

theorem Last_c (h : Lg w B s own) : Calls Try.prog 32 #[.pointer (some ⟨B, 0, none⟩)] w fun e w' => e = .returned (.int .i64 (G.last s)) ∧ w' = w.drew := by
  have HM : Hid _ := isMade_c h
  obtain ⟨v, m, h⟩ := h
  obtain ⟨p, c, hv, _, _⟩ := h.row.form
  have h1 := h.c1
  have h3 := h.c3
  rw [hv] at h3
  have hb := h.ok.base
  have hl := h.ok.last
  unfold G.last at hl ⊢
  obtain ⟨n, hn⟩ : ∃ n, n = s.ents.length := ⟨_, rfl⟩
  rw [← hn] at h3 hl ⊢
  obtain ⟨x, hx⟩ : ∃ x, x = s.base := ⟨_, rfl⟩
  rw [← hx] at h1 hb hl ⊢
  have hw : IntKind.i64.wrap (x + (n : Int)) = x + (n : Int) := by rw [IntKind.wrap_i64]; omega
  clear h hv hn hx
  go_enter Try.func32, Try.ntmps32
  go_wp2_with fail
  refine Calls.mono HM.out ?_
  rintro e w1 ⟨rfl, hw⟩
  subst hw
  go_wp2
  go_region
  go_wp2
  go_ret
  exact ⟨rfl, rfl⟩

theorem within_c (h : Lg w B s own) (i a b : Int) : Calls Try.prog 54 #[.pointer (some ⟨B, 0, none⟩), .int .i64 i, .int .i64 a, .int .i64 b] w fun e w' => e = .returned (.int .i64 (G.within i a b)) ∧ w' = w := by
  have HM : Hid _ := isMade_c h
  clear h
  unfold G.within
  by_cases h1 : i < a
  · rw [if_pos h1]
    go_enter Try.func54, Try.ntmps54
    go_wp2_with fail
    refine Calls.mono HM.out ?_
    rintro e w1 ⟨rfl, hw⟩
    subst hw
    go_wp2
    go_ret
    exact ⟨rfl, rfl⟩
  · rw [if_neg h1]
    by_cases h2 : b < i
    · rw [if_pos h2]
      go_enter Try.func54, Try.ntmps54
      go_wp2_with fail
      refine Calls.mono HM.out ?_
      rintro e w1 ⟨rfl, hw⟩
      subst hw
      go_wp2
      go_ret
      exact ⟨rfl, rfl⟩
    · rw [if_neg h2]
      go_enter Try.func54, Try.ntmps54
      go_wp2_with fail
      refine Calls.mono HM.out ?_
      rintro e w1 ⟨rfl, hw⟩
      subst hw
      go_wp2
      go_ret
      exact ⟨rfl, rfl⟩

theorem place_c (h : Lg w B s own) (i : Int) (hi : -1 ≤ i - s.base - 1 ∧ i - s.base - 1 ≤ 1099511627776) : Calls Try.prog 55 #[.pointer (some ⟨B, 0, none⟩), .int .i64 i] w fun e w' => e = .returned (.int .i64 (i - s.base - 1)) ∧ w' = w := by
  obtain ⟨v, m, h⟩ := h
  have h1 := h.c1
  obtain ⟨x, hx⟩ : ∃ x, x = s.base := ⟨_, rfl⟩
  rw [← hx] at h1 hi ⊢
  have hw1 : IntKind.i64.wrap (i - x) = i - x := by rw [IntKind.wrap_i64]; omega
  have hw2 : IntKind.i64.wrap (i - x - 1) = i - x - 1 := by rw [IntKind.wrap_i64]; omega
  clear h hx hi
  go_enter Try.func55, Try.ntmps55
  go_wp2
  go_ret
  exact ⟨rfl, rfl⟩

end
end Go.Proofs.Yteaopnhjndnpnaa
