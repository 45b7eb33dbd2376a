/-
  Two kinds of maps: from two names to blocks, and sets of names: what stands in them, stores, deletes.
-/
import Derived.Test.YtepbmfjimppgcaaRows
import Derived.Test.YtepbmfjimppgcaaOwn
import Derived.Maps.RangeWalk
import Derived.DeepKeys4
import Derived.ChangeKeysEq
import Derived.BigRegion
import Derived.BigQuiet
import Derived.Deep.RegionHeld
namespace Go.Proofs.Ytepbmfjimppgcaa
open Go.RowKit Go.WideMaps
open Go.ChangeMaps (setBlock heap_setBlock_same)
open Go.MapKept

theorem stKeyed : Maps.Keyed Try.prog 9 := Maps.string_keyed Try.underlying9
theorem typesSome : ∃ m, Try.prog.types.size = m + 2 := ⟨Try.prog.types.size - 2, by
  have : (1 : Nat) < Try.prog.types.size := of_decide_eq_true (by kernel_rfl)
  omega⟩

/-- A name of two. -/
def nk (x y : ByteArray) : Value := .agg #[.string x, .string y]
/-- What it reads as. -/
def nl (x y : ByteArray) : Lit := .string (keyBytes [.string x.data.toList, .string y.data.toList])
/-- A text that may be. -/
def Ok (x : ByteArray) : Prop := x.size ≤ maxLen


theorem stCells : Try.prog.cellsOf 9 = 1 := by kernel_rfl



theorem nk_inj {x y x' y' : ByteArray} (h : nk x y = nk x' y') : x = x' ∧ y = y' := by
  unfold nk at h
  injection h with e
  simp at e
  exact e
theorem nl_key (x y : ByteArray) : WideAt.IsKeyLit (nl x y) := trivial

/-- What a name alone reads as. -/
def sl (x : ByteArray) : Lit := .string x.data.toList
theorem keyOf_sl {x : ByteArray} (hx : Ok x) : keyOf Try.prog 9 (.string x) = some (sl x) := WideMaps.keyOf_string_mk Try.underlying9 hx
theorem sl_inj {x y : ByteArray} (h : sl x = sl y) : x = y := by
  unfold sl at h
  injection h with h
  cases x
  cases y
  simp at h
  rw [h]
theorem sl_key (x : ByteArray) : WideAt.IsKeyLit (sl x) := trivial
theorem sl_same {x y : ByteArray} (h : x ≠ y) : (sl x).sameKey (sl y) = false := Maps.sameKey_ne (fun e => h (sl_inj e))
theorem sl_inv {v : Value} {l : Lit} (h : keyOf Try.prog 9 v = some l) : ∃ x : ByteArray, v = .string x ∧ Ok x ∧ l = sl x := by
  cases v <;> simp [keyOf, Try.underlying9, mapKey] at h
  exact ⟨_, rfl, h.1, h.2.symm⟩

/-! ### sets of names -/
/-- Block b is a set of names, of at most n; g tells which are in it. -/
def Ms (w : World) (b n : Nat) (g : ByteArray → Bool) : Prop :=
  ∃ D : DataW Unit, w.ownsMap Try.prog 9 unitElem b n D ∧ ∀ x, Ok x → Maps.has D (sl x) = g x

theorem zeroUnit (w : World) : (zeroValue 90).run Try.prog w = .ok (.agg #[]) w := by kernel_rfl

section
variable {w w' : World} {b n m : Nat} {g : ByteArray → Bool}
theorem Ms.lt (h : Ms w b n g) : b < w.heap.size := by obtain ⟨D, h, _⟩ := h; exact h.lt
theorem Ms.carry (h : Ms w b n g) (hb : w'.heap[b]? = w.heap[b]?) : Ms w' b n g := by
  obtain ⟨D, ⟨es, clock, h1, h2⟩, h3⟩ := h
  exact ⟨D, ⟨es, clock, hb.trans h1, h2⟩, h3⟩
theorem Ms.mono (h : Ms w b n g) (hn : n ≤ m) : Ms w b m g := by
  obtain ⟨D, h, h3⟩ := h
  exact ⟨D, h.mono hn, h3⟩
theorem Ms.noCell (h : Ms w b n g) (o : Nat) : w.cell? ⟨b, o, none⟩ = none := by
  obtain ⟨D, ⟨es, clock, h1, _⟩, _⟩ := h
  simp [World.cell?, h1]
theorem Ms.ofNew (hb : w.heap[b]? = some (.map #[] 0)) : Ms w b 0 (fun _ => false) :=
  ⟨.map [], ⟨#[], 0, hb, ⟨by simp, stamped_empty 0, by simp⟩, Nat.le_refl _, rfl⟩, fun _ _ => rfl⟩
/-- One more. -/
def setOn (g : ByteArray → Bool) (x : ByteArray) (v : Bool) : ByteArray → Bool := fun y => if y = x then v else g y
end

/-! ### from names to blocks -/
/-- A pointer to a block, as a number. -/
def ptrElem : Value → Option (DataW Unit × List MemPlace)
  | .pointer none => some (.lit (.int .i64 (-1)), [])
  | .pointer (some ⟨b, 0, none⟩) => some (.lit (.int .i64 (b : Int)), [])
  | _ => none
/-- A pointer. -/
def mkP : Option Nat → Value
  | none => .pointer none
  | some b => .pointer (some ⟨b, 0, none⟩)
theorem ptrElem_mk (b : Nat) : ptrElem (.pointer (some ⟨b, 0, none⟩)) = some (.lit (.int .i64 (b : Int)), []) := rfl
theorem ptrElem_inv {v : Value} {y : DataW Unit × List MemPlace} (h : ptrElem v = some y) : ∃ c, v = mkP c ∧ y = (.lit (.int .i64 (match c with | none => -1 | some b => (b : Int))), []) := by
  unfold ptrElem at h
  split at h
  · injection h with h
    exact ⟨none, rfl, h.symm⟩
  · rename_i b
    injection h with h
    exact ⟨some b, rfl, h.symm⟩
  · cases h
theorem ptrElem_at {v : Value} {b : Nat} {ps : List MemPlace} (h : ptrElem v = some (.lit (.int .i64 (b : Int)), ps)) : v = .pointer (some ⟨b, 0, none⟩) := by
  obtain ⟨c, hv, hy⟩ := ptrElem_inv h
  injection hy with hy _
  injection hy with hy
  injection hy with _ hy
  cases c with
  | none => exfalso; simp at hy
  | some c =>
    have : b = c := by
      have hy : (b : Int) = (c : Int) := hy
      omega
    rw [this]
    exact hv



section
variable {w w' : World} {b n m : Nat} {f : ByteArray → ByteArray → Option Nat}
theorem has_of {D : DataW Unit} {x y : ByteArray} {o : Option Nat} (h : ∀ z, D.atKey (nl x y) z = match o with | none => z | some k => .lit (.int .i64 (k : Int))) : Maps.has D (nl x y) = o.isSome := by
  cases o with
  | none => exact Maps.has_false_of_atKey h
  | some k => exact Maps.has_true_of_atKey h
/-- Another block at a name. -/
def setNm {α : Type} (f : ByteArray → ByteArray → α) (x y : ByteArray) (v : α) : ByteArray → ByteArray → α := fun a b => if a = x ∧ b = y then v else f a b
end

theorem turned_size {w w1 : World} {b : Nat} (h : w.mapTurned w1 b) : w1.heap.size = w.heap.size := by
  obtain ⟨es, clock, es', clock', hb, rfl⟩ := h
  simp [setBlock]

end Go.Proofs.Ytepbmfjimppgcaa
