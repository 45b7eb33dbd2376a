/-
  A row of elements of so many cells that a holder may write, anywhere in a block: read, append, cut, clear; over any program.
-/
import Derived.Deep.AppendSrc
import Derived.Deep.MidRow
import Derived.Lib.SliceRun
import Derived.Deep.RegionLaw
import Derived.Test.YtepbmfjimppgcaaOwn
namespace Go.Proofs.Ytepbmfjimppgcaa
open Go.RowKit

/-- The block that a slice's room lies in, if it has any. -/
def cBlk : Value → Option Nat
  | .slice (some a) _ (_ + 1) => some a.block
  | _ => none

/-- The cells from there on are there, and may be written. -/
def RoomAt (w : World) (g off n : Nat) : Prop := ∀ j, j < n → (w.cell? ⟨g, off + j, none⟩).isSome = true ∧ w.frozen? ⟨g, off + j, none⟩ = false

/-- The slice value v has n elements of 'size' cells each, xs in all; its room may be written. -/
def RowC (w : World) (size : Nat) (v : Value) (n : Nat) (xs : List Value) : Prop :=
  xs.length = n * size ∧ ∃ p c, v = .slice p n c ∧ n ≤ c ∧ c ≤ maxLen ∧ (c = 0 ∨ ∃ g off, p = some ⟨g, off, none⟩ ∧ RoomAt w g off (c * size) ∧ ∀ j x, xs[j]? = some x → w.cell? ⟨g, off + j, none⟩ = some x)

theorem RowC.nil (w : World) (size : Nat) (p : Option Addr) : RowC w size (.slice p 0 0) 0 [] := ⟨by simp, p, 0, rfl, Nat.le_refl _, by unfold maxLen; omega, .inl rfl⟩

theorem RoomAt.carry {w w' : World} {g off n : Nat} (h : RoomAt w g off n) (hb : w'.heap[g]? = w.heap[g]?) : RoomAt w' g off n := by
  intro j hj
  rw [World.cell?_of_block (a := ⟨g, off + j, none⟩) hb, World.frozen?_of_block (a := ⟨g, off + j, none⟩) hb]
  exact h j hj

theorem RowC.carry {w w' : World} {size n : Nat} {v : Value} {xs : List Value} (h : RowC w size v n xs) (hk : ∀ k, cBlk v = some k → w'.heap[k]? = w.heap[k]?) : RowC w' size v n xs := by
  obtain ⟨h1, p, c, hv, h2, h3, h4 | ⟨g, off, hp, h5, h6⟩⟩ := h
  · exact ⟨h1, p, c, hv, h2, h3, .inl h4⟩
  · by_cases hc : c = 0
    · exact ⟨h1, p, c, hv, h2, h3, .inl hc⟩
    · obtain ⟨c', rfl⟩ : ∃ c', c = c' + 1 := ⟨c - 1, by omega⟩
      have hb := hk g (by rw [hv, hp]; rfl)
      refine ⟨h1, p, c' + 1, hv, h2, h3, .inr ⟨g, off, hp, h5.carry hb, fun j x hx => ?_⟩⟩
      rw [World.cell?_of_block (a := ⟨g, off + j, none⟩) hb]
      exact h6 j x hx

theorem RowC.form {w : World} {size n : Nat} {v : Value} {xs : List Value} (h : RowC w size v n xs) : ∃ p c, v = .slice p n c ∧ n ≤ c ∧ c ≤ maxLen := by
  obtain ⟨_, p, c, hv, h2, h3, _⟩ := h
  exact ⟨p, c, hv, h2, h3⟩

theorem RowC.lt {w : World} {size n : Nat} {v : Value} {xs : List Value} (h : RowC w size v n xs) (hs : 0 < size) {k : Nat} (hk : cBlk v = some k) : k < w.heap.size := by
  obtain ⟨h1, p, c, hv, h2, h3, h4 | ⟨g, off, hp, h5, h6⟩⟩ := h
  · subst hv h4
    cases p <;> simp [cBlk] at hk
  · subst hv hp
    cases c with
    | zero => simp [cBlk] at hk
    | succ c =>
      simp [cBlk] at hk
      subst hk
      have := (h5 0 (by rw [Nat.add_mul]; omega)).1
      obtain ⟨x, hx⟩ := Option.isSome_iff_exists.1 this
      exact World.block_lt_of_cell? w _ hx

/-- Where there is an element: the block and the place. -/
theorem RowC.cells {w : World} {size n : Nat} {v : Value} {xs : List Value} (h : RowC w size v n xs) (hn : 0 < n) : ∃ g off c, v = .slice (some ⟨g, off, none⟩) n (c + 1) ∧ n ≤ c + 1 ∧ c + 1 ≤ maxLen ∧ RoomAt w g off ((c + 1) * size) ∧ ∀ j x, xs[j]? = some x → w.cell? ⟨g, off + j, none⟩ = some x := by
  obtain ⟨h1, p, c, hv, h2, h3, h4 | ⟨g, off, hp, h5, h6⟩⟩ := h
  · omega
  · obtain ⟨c', rfl⟩ : ∃ c', c = c' + 1 := ⟨c - 1, by omega⟩
    exact ⟨g, off, c', by rw [hv, hp], h2, h3, h5, h6⟩

theorem run_append_zero {P : Program} (w : World) (t tx ty e : TypeId) (i : TypeInfo) (ht : P.underlying t = some (.slice e)) (hi : P.info? e = some i)
    (p : Option Addr) (x : Value) (news : List Value) (hs : Src P i.size tx x 0 news w) :
    (Builtin.append_ #[t, tx] ty #[.slice p 0 0, x]).run P w = .ok (.slice p 0 0) w := by
  have hn : news = [] := List.eq_nil_of_length_eq_zero (by simpa using hs.newsLen)
  subst hn
  cases p
  · rcases hs.kind with ⟨e', hk⟩ | hk <;> simp [Builtin.append_, run_underlying ht, run_underlying hk, sizeOf, typeInfo, hi, hs.len, hs.cells]
  · rcases hs.kind with ⟨e', hk⟩ | hk <;> simp [Builtin.append_, run_underlying ht, run_underlying hk, sizeOf, typeInfo, hi, hs.len, hs.cells, storeCells]

theorem size_setCells6 (b : Nat) : ∀ (vs : List Value) (o : Nat) (w : World), (w.setCells b o vs).heap.size = w.heap.size
  | [], _, _ => rfl
  | v :: vs, o, w => by
    rw [World.setCells, size_setCells6 b vs]
    simp [World.setCell]
theorem tape_setCells6 (b : Nat) : ∀ (vs : List Value) (o : Nat) (w : World), (w.setCells b o vs).tape = w.tape
  | [], _, _ => rfl
  | v :: vs, o, w => by
    rw [World.setCells, tape_setCells6 b vs]
    rfl
theorem os_setCells6 (b : Nat) : ∀ (vs : List Value) (o : Nat) (w : World), (w.setCells b o vs).os = w.os
  | [], _, _ => rfl
  | v :: vs, o, w => by
    rw [World.setCells, os_setCells6 b vs]
    rfl
theorem output_setCells6 (b : Nat) : ∀ (vs : List Value) (o : Nat) (w : World), (w.setCells b o vs).output = w.output
  | [], _, _ => rfl
  | v :: vs, o, w => by
    rw [World.setCells, output_setCells6 b vs]
    rfl
theorem heap_setCells6 (b : Nat) {k : Nat} (hk : k ≠ b) : ∀ (vs : List Value) (o : Nat) (w : World), (w.setCells b o vs).heap[k]? = w.heap[k]?
  | [], _, _ => rfl
  | v :: vs, o, w => by
    rw [World.setCells, heap_setCells6 b hk vs]
    exact Below.heap_setCell _ _ _ _ hk

theorem grown_setCells (w : World) (g o : Nat) (vs : List Value) : w.grownBy (w.setCells g o vs) (some g) :=
  ⟨os_setCells6 _ _ _ _, tape_setCells6 _ _ _ _, output_setCells6 _ _ _ _, by rw [size_setCells6]; exact Nat.le_refl _, fun k _ hk => heap_setCells6 g (fun e => hk (by rw [e])) vs o w⟩

theorem RoomAt.setCells {w : World} {g off n : Nat} (h : RoomAt w g off n) (b o : Nat) (vs : List Value) : RoomAt (w.setCells b o vs) g off n :=
  fun j hj => ⟨World.isSome_setCells b vs o w _ (h j hj).1, by rw [World.frozen?_setCells]; exact (h j hj).2⟩

theorem run_append_rowC {P : Program} (w : World) (t tx ty e : TypeId) (ht : P.underlying t = some (.slice e)) (z : Value) (size bytes : Nat)
    (hinfo : (P.info? e).map (fun i => (i.zero, i.size, i.bytes)) = some (some z, size, bytes)) (hzs : z.cells.size = size)
    (v : Value) (n : Nat) (xs : List Value) (hown : RowC w size v n xs) (x : Value) (m : Nat) (news : List Value) (hs : Src P size tx x m news w)
    (hlen : (n + m) * bytes ≤ 140737488355328) (hmax : n + m ≤ maxLen) :
    ∃ v' w', (Builtin.append_ #[t, tx] ty #[v, x]).run P w = .ok v' w' ∧ RowC w' size v' (n + m) (xs ++ news) ∧ w.grownBy w' (cBlk v) ∧
      (∀ k, cBlk v' = some k → cBlk v = some k ∨ w.heap.size ≤ k) := by
  obtain ⟨i, hi, hz0, hz1, hz2⟩ := info_parts hinfo
  have hnl := hs.newsLen
  rw [← hz1] at hs
  have h63 : n + m ≤ 9223372036854775807 := by unfold maxLen at hmax; omega
  obtain ⟨hxl, p, c, rfl, hnc, hcm, hrow⟩ := hown
  have hcat : (xs ++ news).length = (n + m) * size := by rw [List.length_append, hxl, hnl, Nat.add_mul]
  by_cases hroom : n + m ≤ c
  · rcases hrow with rfl | ⟨g, off, rfl, hR, hC⟩
    · obtain rfl : n = 0 := by omega
      obtain rfl : m = 0 := by omega
      have hnn : news = [] := List.eq_nil_of_length_eq_zero (by simpa using hnl)
      have hxx : xs = [] := List.eq_nil_of_length_eq_zero (by simpa using hxl)
      subst hnn hxx
      exact ⟨_, _, run_append_zero w t tx ty e i ht hi p x _ hs, RowC.nil w size p, ⟨rfl, rfl, rfl, Nat.le_refl _, fun _ _ _ => rfl⟩, fun k hk => .inl hk⟩
    · have hk := Nat.mul_le_mul_right size hroom
      rw [Nat.add_mul] at hk
      have hr := run_append_room_src (P := P) w t tx ty e i ht hi g off n c x m news hs hroom
        (fun j hj => by rw [hz1, Nat.add_assoc]; exact (hR _ (by omega)).1) (fun j hj => by rw [hz1, Nat.add_assoc]; exact (hR _ (by omega)).2)
      rw [hz1] at hr
      by_cases hc0 : c = 0
      · subst hc0
        have hnn : news = [] := List.eq_nil_of_length_eq_zero (by rw [hnl]; have : m = 0 := by omega
                                                                  rw [this, Nat.zero_mul])
        have hxx : xs = [] := List.eq_nil_of_length_eq_zero (by rw [hxl]; have : n = 0 := by omega
                                                                rw [this, Nat.zero_mul])
        subst hnn hxx
        refine ⟨_, _, hr, ⟨hcat, _, _, rfl, hroom, hcm, .inl rfl⟩, ⟨rfl, rfl, rfl, Nat.le_refl _, fun _ _ _ => rfl⟩, fun k hk => by simp [cBlk] at hk⟩
      · obtain ⟨c', rfl⟩ : ∃ c', c = c' + 1 := ⟨c - 1, by omega⟩
        refine ⟨_, _, hr, ⟨hcat, _, _, rfl, hroom, hcm, .inr ⟨g, off, rfl, hR.setCells _ _ _, fun j y hy => ?_⟩⟩, grown_setCells _ _ _ _, fun k hk => .inl hk⟩
        by_cases hj : j < xs.length
        · rw [List.getElem?_append_left hj] at hy
          rw [World.cell?_setCells_out g news (off + n * size) w ⟨g, off + j, none⟩ (fun _ _ => .inl (by show off + j < off + n * size; omega))]
          exact hC j y hy
        · rw [List.getElem?_append_right (by omega)] at hy
          obtain ⟨hlt, hge⟩ := List.getElem?_eq_some_iff.1 hy
          have := World.cell?_setCells_in g news (off + n * size) w (fun q hq => by rw [Nat.add_assoc]; exact (hR _ (by omega)).1) (j - xs.length) hlt
          rw [show off + n * size + (j - xs.length) = off + j by omega] at this
          rw [this, hge]
  · have hold : (Builtin.firstCells i.size n (.slice p n c)).run P w.drew = .ok xs.toArray w.drew := by
      cases p with
      | none =>
        have hn0 : n = 0 := by
          rcases hrow with h | ⟨g, off, hp, _⟩
          · omega
          · cases hp
        subst hn0
        have hxx : xs = [] := List.eq_nil_of_length_eq_zero (by simpa using hxl)
        subst hxx
        exact run_firstCells_none w.drew _ 0 0 c
      | some a =>
        refine run_firstCells_some w.drew i.size n a n c xs (by rw [hz1]; exact hxl) (fun j u hu => ?_)
        rcases hrow with h | ⟨g, off, hp, _, hC⟩
        · have hxx : xs = [] := List.eq_nil_of_length_eq_zero (by rw [hxl]; have : n = 0 := by omega
                                                                  rw [this, Nat.zero_mul])
          subst hxx
          simp at hu
        · injection hp with hp
          subst hp
          rw [Addr.add_lit]
          exact hC j u hu
    have hr := run_append_grow_src (P := P) w t tx ty e i z ht hi hz0 p n c xs hold x m news hs (by omega) (by omega) (growslice_fits (by omega) (by rw [hz2]; exact hlen))
    have hge := grownCap_ge w (n + m) c e
    have hcm' : grownCap w (n + m) c e ≤ maxLen := grownCap_le_maxLen w _ c e hmax
    obtain ⟨C, hC⟩ : ∃ C, C = grownCap w (n + m) c e := ⟨_, rfl⟩
    rw [← hC] at hr hge hcm'
    clear hC
    obtain ⟨C', rfl⟩ : ∃ C', C = C' + 1 := ⟨C - 1, by omega⟩
    refine ⟨_, _, hr, ⟨hcat, _, _, rfl, hge, hcm', .inr ⟨w.heap.size, 0, rfl, fun j hj => ?_, fun j y hy => ?_⟩⟩, ⟨rfl, rfl, rfl, by simp, fun k hk _ => Below.heap_alloc w.drew _ k hk⟩, ?_⟩
    · have e1 := World.cell?_alloc_mark w.drew ((xs ++ news).toArray ++ Builtin.zeroCells z.cells (C' + 1 - (n + m))) e (0, 0) (0 + j)
      have e2 := World.frozen?_alloc_mark w.drew ((xs ++ news).toArray ++ Builtin.zeroCells z.cells (C' + 1 - (n + m))) e 0 0 (0 + j)
      refine ⟨?_, ?_⟩
      · have : w.drew.heap.size = w.heap.size := rfl
        rw [this] at e1
        rw [e1, Nat.zero_add]
        rw [Option.isSome_iff_exists]
        refine ⟨_, Array.getElem?_eq_getElem ?_⟩
        simp only [Array.size_append, List.size_toArray, size_zeroCells, hzs, hcat]
        rw [← Nat.add_mul, show n + m + (C' + 1 - (n + m)) = C' + 1 by omega]
        exact hj
      · have : w.drew.heap.size = w.heap.size := rfl
        rw [this] at e2
        rw [e2]
        simp
    · have e1 := World.cell?_alloc_mark w.drew ((xs ++ news).toArray ++ Builtin.zeroCells z.cells (C' + 1 - (n + m))) e (0, 0) (0 + j)
      have : w.drew.heap.size = w.heap.size := rfl
      rw [this] at e1
      have hlt := (List.getElem?_eq_some_iff.1 hy).1
      rw [e1, Nat.zero_add, Array.getElem?_append_left (by simpa using hlt)]
      simpa using hy
    · intro k hk
      simp [cBlk] at hk
      exact .inr (by omega)

theorem wpList_append_rowC {P : Program} {w : World} {ops : Array Oper} {rest : List Oper} {o : Oper} {a : Act} {Q : Exit → Act → World → Prop} (hgd : o.guard = none) (s x : Operand) (t tx e : TypeId)
    (ho : o.op = .call { callee := .builtin .append, args := #[s, x], argTypes := #[t, tx] })
    (ht : P.underlying t = some (.slice e)) (z : Value) (size bytes : Nat) (hinfo : (P.info? e).map (fun i => (i.zero, i.size, i.bytes)) = some (some z, size, bytes)) (hzs : z.cells.size = size)
    (v : Value) (n : Nat) (xs : List Value) (hv : a.eval s = v) (hown : RowC w size v n xs) (xv : Value) (m : Nat) (news : List Value) (hx : a.eval x = xv) (hs : Src P size tx xv m news w)
    (hlen : (n + m) * bytes ≤ 140737488355328) (hmax : n + m ≤ maxLen)
    (h : ∀ v' w', RowC w' size v' (n + m) (xs ++ news) → w.grownBy w' (cBlk v) → (∀ k, cBlk v' = some k → cBlk v = some k ∨ w.heap.size ≤ k) → wpList P ops Q rest (a.put o.dst v') w') :
    wpList P ops Q (o :: rest) a w := by
  obtain ⟨v', w', hr, h2, h3, h4⟩ := run_append_rowC (P := P) w t tx o.type e ht z size bytes hinfo hzs v n xs hown xv m news hs hlen hmax
  refine wpList_plain hgd fun _ hK => ?_
  unfold Oper.wp execOp
  simp only [ho, resolve, invoke, builtin, Sem.run_bind, Sem.run_pure, Result.andThen_ok, List.map_toArray, List.map_cons, List.map_nil, hv, hx, hr]
  exact hK _ _ (h v' w' h2 h3 h4)

theorem step_append_rowC {P : Program} {w : World} {ops : Array Oper} {o : Oper} {a : Act} {K : Act → World → Prop} {Q : Exit → Act → World → Prop} {E : Prop} (hgd : o.guard = none) (s x : Operand) (t tx e : TypeId)
    (ho : o.op = .call { callee := .builtin .append, args := #[s, x], argTypes := #[t, tx] })
    (ht : P.underlying t = some (.slice e)) (z : Value) (size bytes : Nat) (hinfo : (P.info? e).map (fun i => (i.zero, i.size, i.bytes)) = some (some z, size, bytes)) (hzs : z.cells.size = size)
    (v : Value) (n : Nat) (xs : List Value) (hv : a.eval s = v) (hown : RowC w size v n xs) (xv : Value) (m : Nat) (news : List Value) (hx : a.eval x = xv) (hs : Src P size tx xv m news w)
    (hlen : (n + m) * bytes ≤ 140737488355328) (hmax : n + m ≤ maxLen)
    (h : ∀ v' w', RowC w' size v' (n + m) (xs ++ news) → w.grownBy w' (cBlk v) → (∀ k, cBlk v' = some k → cBlk v = some k ∨ w.heap.size ≤ k) → K (a.put o.dst v') w') :
    if Region.wanted o (yielded ops a.tmps) = true then Oper.wp P o a w K Q else E := by
  have hw : Region.wanted o (yielded ops a.tmps) = true := by simp [Region.wanted, hgd]
  rw [if_pos hw]
  obtain ⟨v', w', hr, h2, h3, h4⟩ := run_append_rowC (P := P) w t tx o.type e ht z size bytes hinfo hzs v n xs hown xv m news hs hlen hmax
  unfold Oper.wp
  simp [execOp, ho, resolve, invoke, builtin, hv, hx, hr, Result.andThen]
  exact h v' w' h2 h3 h4

end Go.Proofs.Ytepbmfjimppgcaa
