/-
  What a crash leaves of each file; and a disk beside which two rows of the call's own lie.
-/
import Derived.Test.YtncchapgoedncaaDkAwake
namespace Go.Proofs.Ytncchapgoedncaa
open Go.RowKit

theorem torn_take {l : List UInt8} {s k : Nat} (t : UInt8) (m : Nat) (hm : m ≤ s ∨ m + 1 ≤ s + k) : (torn l s k t).take m = l.take m := by
  unfold torn
  split
  · rename_i e
    rw [List.take_take, Nat.min_eq_left (by omega)]
  · have hm2 : m ≤ s + k - 1 := by omega
    rw [List.take_set_of_le hm2, List.take_take, Nat.min_eq_left (by omega)]

/-- What the power's end leaves of a file. -/
structure Left (l : List UInt8) (s : Nat) (l' : List UInt8) (s' : Nat) : Prop where
  all : s' = l'.length
  least : s ≤ l'.length
  most : l'.length ≤ l.length
  sure : l'.take s = l.take s
  rest : s < l'.length → l'.take (l'.length - 1) = l.take (l'.length - 1)

theorem left_step (t : UInt8) (i : Nat) (c : Cr) (h : c.S i ≤ (c.A i).length) : Left (c.A i) (c.S i) ((crStep t i c).A i) ((crStep t i c).S i) := by
  unfold crStep
  split
  · rename_i e
    exact ⟨e.symm, by omega, Nat.le_refl _, rfl, fun _ => rfl⟩
  · have hk := keeps_le (c.K.headD 0) ((c.A i).length - c.S i)
    obtain ⟨k, hk'⟩ : ∃ k, k = keeps (c.K.headD 0) ((c.A i).length - c.S i) := ⟨_, rfl⟩
    rw [← hk'] at hk
    show Left _ _ (upd c.A i _ i) (upd c.S i _ i)
    rw [upd_same, upd_same, ← hk']
    have hl := torn_length t (l := c.A i) (s := c.S i) (k := k) (by omega)
    refine ⟨hl.symm, by omega, by omega, torn_take t _ (.inl (Nat.le_refl _)), fun h2 => ?_⟩
    rw [hl]
    exact torn_take t _ (.inr (by omega))

theorem crTo_after (t : UInt8) (c : Cr) (i : Nat) : ∀ n, n ≤ i → (crTo t c n).A i = c.A i ∧ (crTo t c n).S i = c.S i
  | 0, _ => ⟨rfl, rfl⟩
  | n + 1, h => by
    obtain ⟨h1, h2⟩ := crTo_after t c i n (by omega)
    obtain ⟨h3, h4⟩ := crStep_other t (i := i) (j := n) (crTo t c n) (by omega)
    exact ⟨h3.trans h1, h4.trans h2⟩
theorem crTo_left (t : UInt8) (c : Cr) (i : Nat) (h : c.S i ≤ (c.A i).length) : ∀ n, i < n → Left (c.A i) (c.S i) ((crTo t c n).A i) ((crTo t c n).S i)
  | 0, hn => by omega
  | n + 1, hn => by
    by_cases e : i = n
    · subst e
      obtain ⟨h1, h2⟩ := crTo_after t c i i (Nat.le_refl _)
      have := left_step t i (crTo t c i) (by rw [h1, h2]; exact h)
      rw [h1, h2] at this
      exact this
    · obtain ⟨h3, h4⟩ := crStep_other t (i := i) (j := n) (crTo t c n) e
      rw [crTo, h3, h4]
      exact crTo_left t c i h n (by omega)

theorem Dk.tighter {w : World} {b room : Nat} {A : Nat → List UInt8} {S : Nat → Nat} {own : Nat → Prop} (h : Dk w b room A S own) : Dk w b room A S (fun k => own k ∧ k < w.heap.size) := by
  obtain ⟨V, h⟩ := h
  exact ⟨V, ⟨h.lt, h.roomC, h.used, h.froz, h.bytes, h.sure, h.row, h.apart, fun i hi k hk => ⟨h.mine i hi k hk, ((h.row i hi).block hk).2⟩, h.leSure, h.fits, h.big⟩⟩

/-- What lies behind block b, but the two rows g1 and g2. -/
def beside (b g1 g2 : Nat) : Nat → Prop := fun k => b < k ∧ k ≠ g1 ∧ k ≠ g2
theorem beside_since {b g1 g2 : Nat} {w w' : World} (h0 : b < w.heap.size) (h1 : g1 < w.heap.size) (h2 : g2 < w.heap.size) : ∀ k, k < w'.heap.size → since (beside b g1 g2) w k → beside b g1 g2 k := by
  intro k _ e
  rcases e with e | e
  · exact e
  · exact ⟨by omega, by omega, by omega⟩
theorem Kept.beside {b g1 g2 : Nat} {w w' : World} (h : Kept b (beside b g1 g2) w w') (hb : b < w.heap.size) : Below b w w' := h.below (Nat.le_refl _) (fun _ e => Nat.le_of_lt e.1) (Nat.le_of_lt hb)

/-- The rows g1 (three texts) and g2 (three numbers) beside a disk. -/
structure Two (w : World) (g1 g2 : Nat) (T : Nat → ByteArray) (U : Nat → Nat) : Prop where
  l1 : g1 < w.heap.size
  l2 : g2 < w.heap.size
  t : ∀ x, x < 3 → w.cell? ⟨g1, x, none⟩ = some (.string (T x))
  u : ∀ x, x < 3 → w.cell? ⟨g2, x, none⟩ = some (.int .i64 (U x : Int))
  f1 : ∀ x, x < 3 → w.frozen? ⟨g1, x, none⟩ = false
  f2 : ∀ x, x < 3 → w.frozen? ⟨g2, x, none⟩ = false
theorem Two.carry {w w' : World} {g1 g2 : Nat} {T : Nat → ByteArray} {U : Nat → Nat} (h : Two w g1 g2 T U) (hs : w.heap.size ≤ w'.heap.size) (h1 : w'.heap[g1]? = w.heap[g1]?) (h2 : w'.heap[g2]? = w.heap[g2]?) : Two w' g1 g2 T U :=
  ⟨Nat.lt_of_lt_of_le h.l1 hs, Nat.lt_of_lt_of_le h.l2 hs, fun x hx => by rw [World.cell?_of_block (a := ⟨g1, x, none⟩) h1]; exact h.t x hx, fun x hx => by rw [World.cell?_of_block (a := ⟨g2, x, none⟩) h2]; exact h.u x hx,
    fun x hx => by rw [World.frozen?_of_block (a := ⟨g1, x, none⟩) h1]; exact h.f1 x hx, fun x hx => by rw [World.frozen?_of_block (a := ⟨g2, x, none⟩) h2]; exact h.f2 x hx⟩
theorem Two.drew {w : World} {g1 g2 : Nat} {T : Nat → ByteArray} {U : Nat → Nat} (h : Two w g1 g2 T U) : Two w.drew g1 g2 T U := h.carry (Nat.le_refl _) rfl rfl
theorem Two.kept {w w' : World} {b g1 g2 : Nat} {T : Nat → ByteArray} {U : Nat → Nat} (h : Two w g1 g2 T U) (hk : Kept b (Proofs.Ytncchapgoedncaa.beside b g1 g2) w w') (h1 : g1 ≠ b) (h2 : g2 ≠ b) : Two w' g1 g2 T U :=
  h.carry hk.size (hk.block g1 h.l1 h1 (fun e => e.2.1 rfl)) (hk.block g2 h.l2 h2 (fun e => e.2.2 rfl))
theorem Two.setT {w : World} {g1 g2 : Nat} {T : Nat → ByteArray} {U : Nat → Nat} (h : Two w g1 g2 T U) (hg : g1 ≠ g2) {x : Nat} (hx : x < 3) (s : ByteArray) : Two (w.setCell ⟨g1, x, none⟩ (.string s)) g1 g2 (upd T x s) U := by
  refine ⟨by simpa [World.setCell] using h.l1, by simpa [World.setCell] using h.l2, fun y hy => ?_, fun y hy => ?_, fun y hy => by rw [World.frozen?_setCell]; exact h.f1 y hy, fun y hy => by rw [World.frozen?_setCell]; exact h.f2 y hy⟩
  · rw [cell_set _ (h.t x hx)]
    unfold upd
    split
    · rfl
    · exact h.t y hy
  · rw [World.cell?_setCell_other _ _ _ _ (by intro q; injection q; omega)]; exact h.u y hy
theorem Two.setU {w : World} {g1 g2 : Nat} {T : Nat → ByteArray} {U : Nat → Nat} (h : Two w g1 g2 T U) (hg : g1 ≠ g2) {x : Nat} (hx : x < 3) (n : Nat) : Two (w.setCell ⟨g2, x, none⟩ (.int .i64 (n : Int))) g1 g2 T (upd U x n) := by
  refine ⟨by simpa [World.setCell] using h.l1, by simpa [World.setCell] using h.l2, fun y hy => ?_, fun y hy => ?_, fun y hy => by rw [World.frozen?_setCell]; exact h.f1 y hy, fun y hy => by rw [World.frozen?_setCell]; exact h.f2 y hy⟩
  · rw [World.cell?_setCell_other _ _ _ _ (by intro q; injection q; omega)]; exact h.t y hy
  · rw [cell_set _ (h.u x hx)]
    unfold upd
    split
    · rfl
    · exact h.u y hy

/-- The disk, the two rows, and what ties them. -/
structure Sv (w : World) (b g1 g2 : Nat) (A : Nat → List UInt8) (S : Nat → Nat) (T : Nat → ByteArray) (U : Nat → Nat) (most : Nat) : Prop where
  disk : Dk w b 1048576 A S (beside b g1 g2)
  two : Two w g1 g2 T U
  a : ∀ x, x < 3 → A (7 * x) = (T x).data.toList
  s : ∀ x, x < 3 → U x = S (7 * x)
  le : tot A ≤ most

theorem Sv.below {w w' : World} {b g1 g2 most : Nat} {A : Nat → List UInt8} {S : Nat → Nat} {T : Nat → ByteArray} {U : Nat → Nat} (h : Sv w b g1 g2 A S T U most) (hb : Below w.heap.size w w') : Sv w' b g1 g2 A S T U most :=
  ⟨h.disk.below hb, h.two.carry hb.size (hb.block _ h.two.l1) (hb.block _ h.two.l2), h.a, h.s, h.le⟩

theorem Sv.add {w : World} {b g1 g2 most : Nat} {A : Nat → List UInt8} {S : Nat → Nat} {T : Nat → ByteArray} {U : Nat → Nat} (h : Sv w b g1 g2 A S T U most) (h1 : g1 ≠ b) (h2 : g2 ≠ b) {x : Nat} (hx : x < 3) (s : ByteArray) (hfit : most + s.size ≤ 1048576) :
    Calls Try.prog 9 #[.pointer (some ⟨b, 0, none⟩), .int .i64 (7 * (x : Int)), .string s] w fun e w' => e = .returned (.int .i64 0) ∧
      Dk w' b 1048576 (upd A (7 * x) (A (7 * x) ++ s.data.toList)) S (Proofs.Ytncchapgoedncaa.beside b g1 g2) ∧ Two w' g1 g2 T U ∧ Below b w w' := by
  have := Add_yes h.disk (7 * x) (by omega) s (by have := h.le; omega)
  rw [show ((7 * x : Nat) : Int) = 7 * (x : Int) by omega] at this
  refine this.mono ?_
  rintro e w' ⟨rfl, q1, q2⟩
  exact ⟨rfl, q1.wider (beside_since h.disk.lt h.two.l1 h.two.l2), h.two.kept q2 h1 h2, q2.beside h.disk.lt⟩

theorem Sv.joined {w w' : World} {b g1 g2 most : Nat} {A : Nat → List UInt8} {S : Nat → Nat} {T : Nat → ByteArray} {U : Nat → Nat} (h : Sv w b g1 g2 A S T U most) (h1 : g1 ≠ b) (h12 : g1 ≠ g2) {x : Nat} (hx : x < 3) (s : ByteArray)
    (hd : Dk w' b 1048576 (upd A (7 * x) (A (7 * x) ++ s.data.toList)) S (Proofs.Ytncchapgoedncaa.beside b g1 g2)) (ht : Two w' g1 g2 T U) :
    Sv (w'.setCell ⟨g1, x, none⟩ (.string (T x ++ s))).drew b g1 g2 (upd A (7 * x) (A (7 * x) ++ s.data.toList)) S (upd T x (T x ++ s)) U (most + s.size) := by
  refine ⟨(hd.setCell ⟨g1, x, none⟩ _ h1 (fun e => e.2.1 rfl)).drew, (ht.setT h12 hx _).drew, fun y hy => ?_, h.s, ?_⟩
  · by_cases e : y = x
    · subst e
      rw [upd_same, upd_same, h.a y hy]
      simp
    · rw [upd_other _ _ (by omega), upd_other _ _ e]
      exact h.a y hy
  · have := tot_upd A (by omega : 7 * x < 256) (A (7 * x) ++ s.data.toList)
    have hl := h.le
    rw [List.length_append] at this
    have hs : s.data.toList.length = s.size := by simp
    omega

theorem Sv.sync {w : World} {b g1 g2 most : Nat} {A : Nat → List UInt8} {S : Nat → Nat} {T : Nat → ByteArray} {U : Nat → Nat} (h : Sv w b g1 g2 A S T U most) (h1 : g1 ≠ b) (h2 : g2 ≠ b) :
    Calls Try.prog 10 #[.pointer (some ⟨b, 0, none⟩)] w fun e w' => e = .returned (.int .i64 0) ∧
      Dk w' b 1048576 A (fun i => if i < 256 then (A i).length else S i) (Proofs.Ytncchapgoedncaa.beside b g1 g2) ∧ Two w' g1 g2 T U ∧ Below b w w' := by
  refine (Sync_yes h.disk).mono ?_
  rintro e w' ⟨rfl, q1, q2⟩
  exact ⟨rfl, q1, h.two.kept q2 h1 h2, q2.beside h.disk.lt⟩

theorem Sv.synced {w w' : World} {b g1 g2 most : Nat} {A : Nat → List UInt8} {S : Nat → Nat} {T : Nat → ByteArray} {U U' : Nat → Nat} (h : Sv w b g1 g2 A S T U most)
    (hd : Dk w' b 1048576 A (fun i => if i < 256 then (A i).length else S i) (Proofs.Ytncchapgoedncaa.beside b g1 g2)) (ht : Two w' g1 g2 T U') (hU : ∀ x, x < 3 → U' x = (T x).size) :
    Sv w' b g1 g2 A (fun i => if i < 256 then (A i).length else S i) T U' most := by
  refine ⟨hd, ht, h.a, fun x hx => ?_, h.le⟩
  show U' x = if 7 * x < 256 then _ else _
  rw [if_pos (by omega), hU x hx, h.a x hx]
  simp

theorem Sv.crash {w : World} {b g1 g2 most : Nat} {A : Nat → List UInt8} {S : Nat → Nat} {T : Nat → ByteArray} {U : Nat → Nat} (h : Sv w b g1 g2 A S T U most) (h1 : g1 ≠ b) (h2 : g2 ≠ b) (x y z t : Int) (hm : x ≤ 9223372036854775807 ∧ y ≤ 9223372036854775807 ∧ z ≤ 9223372036854775807) (g : Nat) (hg : w.heap.size = g) :
    Calls Try.prog 12 #[.pointer (some ⟨b, 0, none⟩), .slice (some ⟨g, 0, none⟩) 3 3, .int .i64 t] (w.alloc (.cells #[.int .i64 x, .int .i64 y, .int .i64 z] 3)) fun e w' => e = .returned (.int .i64 0) ∧
      Dk w' b 1048576 (crTo (lowByte t) ⟨A, S, [x, y, z]⟩ 256).A (crTo (lowByte t) ⟨A, S, [x, y, z]⟩ 256).S (Proofs.Ytncchapgoedncaa.beside b g1 g2) ∧ Two w' g1 g2 T U ∧ Below b w w' := by
  subst hg
  have hlt := h.disk.lt
  have ho := (Dk.tighter h.disk).alloc (.cells #[.int .i64 x, .int .i64 y, .int .i64 z] 3)
  have ht : Two (w.alloc (.cells #[.int .i64 x, .int .i64 y, .int .i64 z] 3)) g1 g2 T U := h.two.carry (by simp) (Below.heap_alloc _ _ _ h.two.l1) (Below.heap_alloc _ _ _ h.two.l2)
  have := Crash_yes ho w.heap.size (.slice (some ⟨w.heap.size, 0, none⟩) 3 3) [x, y, z] t ⟨_, 3, rfl, Nat.le_refl _, by omega, by simp; exact hm, .inr ⟨0, rfl, fun j hj => by
    rw [World.cell?_alloc_mark]
    have hj' : j < 3 := hj
    match j, hj' with
    | 0, _ => rfl
    | 1, _ => rfl
    | 2, _ => rfl⟩⟩ (fun _ => ⟨by simp, by omega, fun e => by have := e.2; omega⟩)
  refine this.mono ?_
  rintro e w' ⟨rfl, q1, q2⟩
  have hk : Kept b (Proofs.Ytncchapgoedncaa.beside b g1 g2) (w.alloc (.cells #[.int .i64 x, .int .i64 y, .int .i64 z] 3)) w' := ⟨q2.os, q2.tape, q2.output, q2.size, fun k a1 a2 a3 => q2.block k a1 a2 (fun e => a3 e.1)⟩
  refine ⟨rfl, q1.wider (fun k _ e => ?_), ht.kept hk h1 h2, ((Below.refl _ _).alloc (Nat.le_of_lt hlt) _).trans (hk.beside (by simp; omega))⟩
  rcases e with e | e
  · exact e.1
  · have a1 := h.two.l1
    have a2 := h.two.l2
    simp at e
    exact ⟨by omega, by omega, by omega⟩

end Go.Proofs.Ytncchapgoedncaa
