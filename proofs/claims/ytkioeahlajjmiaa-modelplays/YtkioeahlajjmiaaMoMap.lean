/-
  Two kinds of maps: from two names to blocks, and sets of names: what stands in them, stores, deletes.
-/
import Derived.Test.YtkioeahlajjmiaaRows
import Derived.Test.YtkioeahlajjmiaaOwn
import Derived.Maps.RangeWalk
import Derived.DeepKeys4
import Derived.ChangeKeysEq
import Derived.BigRegion
import Derived.BigQuiet
import Derived.Deep.RegionHeld
namespace Go.Proofs.Ytkioeahlajjmiaa
open Go.RowKit Go.WideMaps
open Go.ChangeMaps (setBlock heap_setBlock_same)
open Go.MapKept

theorem nmLaw : KeyLaw Try.prog 78 := deep_law_laid (by kernel_rfl) (m := 9) (by decide) (of_decide_eq_true (by kernel_rfl)) (by kernel_rfl) (by kernel_rfl)
theorem nmKeyed : Maps.Keyed Try.prog 78 := Maps.Keyed.of_law nmLaw
theorem stKeyed : Maps.Keyed Try.prog 9 := Maps.string_keyed Try.underlying9
theorem typesSome : ∃ m, Try.prog.types.size = m + 2 := ⟨Try.prog.types.size - 2, by
  have : (1 : Nat) < Try.prog.types.size := of_decide_eq_true (by kernel_rfl)
  omega⟩

/-- A name of two. -/
def nk (x y : ByteArray) : Value := .agg #[.string x, .string y]
/-- What it reads as. -/
def nl (x y : ByteArray) : Lit := .string (keyBytes [.string x.data.toList, .string y.data.toList])
/-- A text that may be. -/
def Ok (x : ByteArray) : Prop := x.size ≤ maxLen

theorem nmStruct : ∃ f0 f1, Try.prog.underlying 78 = some (.struct #[f0, f1]) ∧ (f0.type, f0.offset) = (9, 0) ∧ (f1.type, f1.offset) = (9, 1) := ⟨_, _, Try.underlying78, by kernel_rfl, by kernel_rfl⟩

theorem nmKeyType : Try.prog.keyType 78 = true := by kernel_rfl
theorem nmCells : Try.prog.cellsOf 78 = 2 := by kernel_rfl
theorem stCells : Try.prog.cellsOf 9 = 1 := by kernel_rfl
theorem nmNames : ∀ f0 f1, Try.prog.underlying 78 = some (.struct #[f0, f1]) → (#[f0, f1] : Array Field).all (·.name != "_") = true := by
  intro f0 f1 h
  rw [Try.underlying78] at h
  injection h with h
  injection h with h
  rw [← h]
  kernel_rfl

set_option maxRecDepth 20000 in
theorem keyOf_nk {x y : ByteArray} (hx : Ok x) (hy : Ok y) : keyOf Try.prog 78 (nk x y) = some (nl x y) := by
  obtain ⟨f0, f1, hu, e0, e1⟩ := nmStruct
  have hn := nmNames f0 f1 hu
  injection e0 with e0 o0
  injection e1 with e1 o1
  obtain ⟨m, hm⟩ := typesSome
  unfold keyOf
  simp only [hu]
  rw [if_pos (by simp [nmKeyType, Value.formed, hu, nk, nmCells]), hm]
  unfold Program.keyLits
  simp only [hu, nk, Value.cells]
  rw [if_pos ⟨by rw [nmCells]; rfl, hn⟩, List.mapM_cons, List.mapM_cons, List.mapM_nil, e0, e1, o0, o1, stCells]
  unfold Ok at hx hy
  simp [Program.keyLits, Try.underlying9, hx, hy, nl]

set_option maxRecDepth 20000 in
/-- What reads as a name is one. -/
theorem nk_inv {v : Value} {l : Lit} (h : keyOf Try.prog 78 v = some l) : ∃ x : ByteArray × ByteArray, v = nk x.1 x.2 ∧ Ok x.1 ∧ Ok x.2 := by
  obtain ⟨f0, f1, hu, e0, e1⟩ := nmStruct
  injection e0 with e0 o0
  injection e1 with e1 o1
  unfold keyOf at h
  simp only [hu] at h
  split at h
  · rename_i hc
    simp only [Bool.and_eq_true] at hc
    have hf := hc.2
    cases v <;> simp [Value.formed, hu] at hf
    rename_i cs
    rw [nmCells] at hf
    obtain ⟨c0, c1, hcs⟩ : ∃ c0 c1, cs = #[c0, c1] := by
      obtain ⟨l⟩ := cs
      match l, hf with
      | [c0, c1], _ => exact ⟨c0, c1, rfl⟩
    subst hcs
    obtain ⟨q, hq⟩ := Option.map_eq_some_iff.1 h
    have hk := hq.1
    obtain ⟨m, hm⟩ := typesSome
    rw [hm] at hk
    unfold Program.keyLits at hk
    simp only [hu, Value.cells] at hk
    split at hk
    · rw [List.mapM_cons, List.mapM_cons, List.mapM_nil, e0, e1, o0, o1, stCells] at hk
      simp at hk
      obtain ⟨y0, h0, h1⟩ := Option.bind_eq_some_iff.1 hk
      obtain ⟨z, hz, _⟩ := Option.map_eq_some_iff.1 h1
      obtain ⟨z1, hz1, _⟩ := Option.bind_eq_some_iff.1 hz
      obtain ⟨y1, hy1, _⟩ := Option.bind_eq_some_iff.1 hz1
      unfold Program.keyLits at h0 hy1
      simp only [Try.underlying9] at h0 hy1
      cases c0 <;> simp at h0
      cases c1 <;> simp at hy1
      exact ⟨(_, _), rfl, h0.1, hy1.1⟩
    · cases hk
  · cases h

theorem nk_inj {x y x' y' : ByteArray} (h : nk x y = nk x' y') : x = x' ∧ y = y' := by
  unfold nk at h
  injection h with e
  simp at e
  exact e
theorem nl_inj {x y x' y' : ByteArray} (hx : Ok x) (hy : Ok y) (hx' : Ok x') (hy' : Ok y') (h : nl x y = nl x' y') : x = x' ∧ y = y' :=
  nk_inj (nmKeyed.inj (keyOf_nk hx hy) (by rw [h]; exact keyOf_nk hx' hy'))
theorem nl_key (x y : ByteArray) : WideAt.IsKeyLit (nl x y) := trivial
theorem nl_same {x y x' y' : ByteArray} (hx : Ok x) (hy : Ok y) (hx' : Ok x') (hy' : Ok y') (h : ¬ (x = x' ∧ y = y')) : (nl x y).sameKey (nl x' y') = false := Maps.sameKey_ne (fun e => h (nl_inj hx hy hx' hy' e))

/-- What a name alone reads as. -/
def sl (x : ByteArray) : Lit := .string x.data.toList
theorem keyOf_sl {x : ByteArray} (hx : Ok x) : keyOf Try.prog 9 (.string x) = some (sl x) := WideMaps.keyOf_string_mk Try.underlying9 hx
theorem sl_inj {x y : ByteArray} (h : sl x = sl y) : x = y := by
  unfold sl at h
  injection h with h
  cases x
  cases y
  simp at h
  rw [h]
theorem sl_key (x : ByteArray) : WideAt.IsKeyLit (sl x) := trivial
theorem sl_same {x y : ByteArray} (h : x ≠ y) : (sl x).sameKey (sl y) = false := Maps.sameKey_ne (fun e => h (sl_inj e))
theorem sl_inv {v : Value} {l : Lit} (h : keyOf Try.prog 9 v = some l) : ∃ x : ByteArray, v = .string x ∧ Ok x ∧ l = sl x := by
  cases v <;> simp [keyOf, Try.underlying9, mapKey] at h
  exact ⟨_, rfl, h.1, h.2.symm⟩

/-! ### sets of names -/
/-- Block b is a set of names, of at most n; g tells which are in it. -/
def Ms (w : World) (b n : Nat) (g : ByteArray → Bool) : Prop :=
  ∃ D : DataW Unit, w.ownsMap Try.prog 9 unitElem b n D ∧ ∀ x, Ok x → Maps.has D (sl x) = g x

theorem zeroUnit (w : World) : (zeroValue 74).run Try.prog w = .ok (.agg #[]) w := by kernel_rfl

section
variable {w w' : World} {b n m : Nat} {g : ByteArray → Bool}
theorem Ms.lt (h : Ms w b n g) : b < w.heap.size := by obtain ⟨D, h, _⟩ := h; exact h.lt
theorem Ms.carry (h : Ms w b n g) (hb : w'.heap[b]? = w.heap[b]?) : Ms w' b n g := by
  obtain ⟨D, ⟨es, clock, h1, h2⟩, h3⟩ := h
  exact ⟨D, ⟨es, clock, hb.trans h1, h2⟩, h3⟩
theorem Ms.mono (h : Ms w b n g) (hn : n ≤ m) : Ms w b m g := by
  obtain ⟨D, h, h3⟩ := h
  exact ⟨D, h.mono hn, h3⟩
theorem Ms.noCell (h : Ms w b n g) (o : Nat) : w.cell? ⟨b, o, none⟩ = none := by
  obtain ⟨D, ⟨es, clock, h1, _⟩, _⟩ := h
  simp [World.cell?, h1]
theorem Ms.ofNew (hb : w.heap[b]? = some (.map #[] 0)) : Ms w b 0 (fun _ => false) :=
  ⟨.map [], ⟨#[], 0, hb, ⟨by simp, stamped_empty 0, by simp⟩, Nat.le_refl _, rfl⟩, fun _ _ => rfl⟩
set_option maxRecDepth 20000 in
theorem Ms.look (h : Ms w b n g) {x : ByteArray} (hx : Ok x) :
    (Instr.lookup 61 (.map (some b)) (.string x) true).run Try.prog w = .ok (.tuple #[.agg #[], .bool (g x)]) w := by
  obtain ⟨D, h, h3⟩ := h
  obtain ⟨v, ps, h1, h2⟩ := h.look_ok stKeyed Try.underlying61 (zeroUnit w) unitElem_mk (keyOf_sl hx)
  obtain ⟨rfl, _⟩ := unitElem_inv h2
  rw [h3 x hx] at h1
  exact h1
/-- One more. -/
def setOn (g : ByteArray → Bool) (x : ByteArray) (v : Bool) : ByteArray → Bool := fun y => if y = x then v else g y
set_option maxRecDepth 20000 in
theorem Ms.put (h : Ms w b n g) (hn : n < maxLen) {x : ByteArray} (hx : Ok x) :
    ∃ w', (Instr.mapUpdate 61 (.map (some b)) (.string x) (.agg #[])).run Try.prog w = .ok () w' ∧ w.mapTurned w' b ∧ Ms w' b (n + 1) (setOn g x true) := by
  obtain ⟨D, h, h3⟩ := h
  obtain ⟨w', hr, ho, ht⟩ := h.store stKeyed Try.underlying61 hn (keyOf_sl hx) unitElem_mk
  refine ⟨w', hr, ht, _, ho, fun y hy => ?_⟩
  unfold setOn
  split
  · rename_i e
    rw [e]
    exact Maps.has_put_same h.isMap (sl_key x) _
  · rename_i e
    rw [Maps.has_put_other (fun q => e (sl_inj q)), h3 y hy]
set_option maxRecDepth 20000 in
theorem Ms.del (h : Ms w b n g) {x : ByteArray} (hx : Ok x) (ty : TypeId) :
    ∃ w', (Builtin.delete_ #[61, 9] ty #[.map (some b), .string x]).run Try.prog w = .ok (.tuple #[]) w' ∧ w.mapTurned w' b ∧ Ms w' b n (setOn g x false) := by
  obtain ⟨D, h, h3⟩ := h
  obtain ⟨w', hr, ho, ht⟩ := h.drop stKeyed Try.underlying61 (keyOf_sl hx) ty
  refine ⟨w', hr, ht, _, ho, fun y hy => ?_⟩
  unfold setOn
  split
  · rename_i e
    rw [e]
    exact Maps.has_del_same
  · rename_i e
    rw [Maps.has_del_other (fun q => e (sl_inj q)), h3 y hy]
end

/-! ### from names to blocks -/
/-- A pointer to a block, as a number. -/
def ptrElem : Value → Option (DataW Unit × List MemPlace)
  | .pointer none => some (.lit (.int .i64 (-1)), [])
  | .pointer (some ⟨b, 0, none⟩) => some (.lit (.int .i64 (b : Int)), [])
  | _ => none
/-- A pointer. -/
def mkP : Option Nat → Value
  | none => .pointer none
  | some b => .pointer (some ⟨b, 0, none⟩)
theorem ptrElem_mk (b : Nat) : ptrElem (.pointer (some ⟨b, 0, none⟩)) = some (.lit (.int .i64 (b : Int)), []) := rfl
theorem ptrElem_inv {v : Value} {y : DataW Unit × List MemPlace} (h : ptrElem v = some y) : ∃ c, v = mkP c ∧ y = (.lit (.int .i64 (match c with | none => -1 | some b => (b : Int))), []) := by
  unfold ptrElem at h
  split at h
  · injection h with h
    exact ⟨none, rfl, h.symm⟩
  · rename_i b
    injection h with h
    exact ⟨some b, rfl, h.symm⟩
  · cases h
theorem ptrElem_at {v : Value} {b : Nat} {ps : List MemPlace} (h : ptrElem v = some (.lit (.int .i64 (b : Int)), ps)) : v = .pointer (some ⟨b, 0, none⟩) := by
  obtain ⟨c, hv, hy⟩ := ptrElem_inv h
  injection hy with hy _
  injection hy with hy
  injection hy with _ hy
  cases c with
  | none => exfalso; simp at hy
  | some c =>
    have : b = c := by
      have hy : (b : Int) = (c : Int) := hy
      omega
    rw [this]
    exact hv

/-- Block b is a map from names to blocks, of at most n; f tells them. -/
def Mc (w : World) (b n : Nat) (f : ByteArray → ByteArray → Option Nat) : Prop :=
  ∃ D : DataW Unit, w.ownsMap Try.prog 78 ptrElem b n D ∧ ∀ x y, Ok x → Ok y → ∀ z, D.atKey (nl x y) z = match f x y with | none => z | some k => .lit (.int .i64 (k : Int))

theorem zeroPtr (w : World) : (zeroValue 67).run Try.prog w = .ok (.pointer none) w := by kernel_rfl

section
variable {w w' : World} {b n m : Nat} {f : ByteArray → ByteArray → Option Nat}
theorem Mc.lt (h : Mc w b n f) : b < w.heap.size := by obtain ⟨D, h, _⟩ := h; exact h.lt
theorem Mc.carry (h : Mc w b n f) (hb : w'.heap[b]? = w.heap[b]?) : Mc w' b n f := by
  obtain ⟨D, ⟨es, clock, h1, h2⟩, h3⟩ := h
  exact ⟨D, ⟨es, clock, hb.trans h1, h2⟩, h3⟩
theorem Mc.mono (h : Mc w b n f) (hn : n ≤ m) : Mc w b m f := by
  obtain ⟨D, h, h3⟩ := h
  exact ⟨D, h.mono hn, h3⟩
theorem Mc.noCell (h : Mc w b n f) (o : Nat) : w.cell? ⟨b, o, none⟩ = none := by
  obtain ⟨D, ⟨es, clock, h1, _⟩, _⟩ := h
  simp [World.cell?, h1]
theorem Mc.ofNew (hb : w.heap[b]? = some (.map #[] 0)) : Mc w b 0 (fun _ _ => none) :=
  ⟨.map [], ⟨#[], 0, hb, ⟨by simp, stamped_empty 0, by simp⟩, Nat.le_refl _, rfl⟩, fun _ _ _ _ _ => rfl⟩
theorem has_of {D : DataW Unit} {x y : ByteArray} {o : Option Nat} (h : ∀ z, D.atKey (nl x y) z = match o with | none => z | some k => .lit (.int .i64 (k : Int))) : Maps.has D (nl x y) = o.isSome := by
  cases o with
  | none => exact Maps.has_false_of_atKey h
  | some k => exact Maps.has_true_of_atKey h
set_option maxRecDepth 20000 in
theorem Mc.look (h : Mc w b n f) {x y : ByteArray} (hx : Ok x) (hy : Ok y) :
    (Instr.lookup 60 (.map (some b)) (.agg #[.string x, .string y]) true).run Try.prog w = .ok (.tuple #[mkP (f x y), .bool (f x y).isSome]) w := by
  obtain ⟨D, h, h3⟩ := h
  obtain ⟨v, ps, h1, h2⟩ := h.look_ok nmKeyed Try.underlying60 (zeroPtr w) (zd := .lit (.int .i64 (-1))) (zp := []) rfl (keyOf_nk hx hy)
  rw [has_of (h3 x y hx hy)] at h1
  rw [h3 x y hx hy] at h2
  have hv : v = mkP (f x y) := by
    cases hf : f x y with
    | none =>
      rw [hf] at h2
      obtain ⟨c, hv, hz⟩ := ptrElem_inv h2
      injection hz with hz _
      injection hz with hz
      injection hz with _ hz
      cases c with
      | none => exact hv
      | some c => exfalso; simp at hz
    | some k =>
      rw [hf] at h2
      exact ptrElem_at h2
  rw [hv] at h1
  exact h1
/-- Another block at a name. -/
def setNm {α : Type} (f : ByteArray → ByteArray → α) (x y : ByteArray) (v : α) : ByteArray → ByteArray → α := fun a b => if a = x ∧ b = y then v else f a b
set_option maxRecDepth 20000 in
theorem Mc.put (h : Mc w b n f) (hn : n < maxLen) {x y : ByteArray} (hx : Ok x) (hy : Ok y) (k : Nat) :
    ∃ w', (Instr.mapUpdate 60 (.map (some b)) (.agg #[.string x, .string y]) (.pointer (some ⟨k, 0, none⟩))).run Try.prog w = .ok () w' ∧ w.mapTurned w' b ∧ Mc w' b (n + 1) (setNm f x y (some k)) := by
  obtain ⟨D, h, h3⟩ := h
  obtain ⟨w', hr, ho, ht⟩ := h.store nmKeyed Try.underlying60 hn (keyOf_nk hx hy) (ptrElem_mk k)
  refine ⟨w', hr, ht, _, ho, fun p q hp hq z => ?_⟩
  unfold setNm
  by_cases e : p = x ∧ q = y
  · rw [if_pos e, e.1, e.2]
    exact Maps.atKey_put_same h.isMap (nl_key _ _) _ _
  · rw [if_neg e, Maps.atKey_put_other (fun e1 => e (nl_inj hp hq hx hy e1))]
    exact h3 p q hp hq z
set_option maxRecDepth 20000 in
theorem Mc.del (h : Mc w b n f) {x y : ByteArray} (hx : Ok x) (hy : Ok y) (ty : TypeId) :
    ∃ w', (Builtin.delete_ #[60, 78] ty #[.map (some b), .agg #[.string x, .string y]]).run Try.prog w = .ok (.tuple #[]) w' ∧ w.mapTurned w' b ∧ Mc w' b n (setNm f x y none) := by
  obtain ⟨D, h, h3⟩ := h
  obtain ⟨w', hr, ho, ht⟩ := h.drop nmKeyed Try.underlying60 (keyOf_nk hx hy) ty
  refine ⟨w', hr, ht, _, ho, fun p q hp hq z => ?_⟩
  unfold setNm
  by_cases e : p = x ∧ q = y
  · rw [if_pos e, e.1, e.2]
    exact Maps.atKey_del_same _
  · rw [if_neg e, Maps.atKey_del_other (fun e1 => e (nl_inj hp hq hx hy e1))]
    exact h3 p q hp hq z
end

theorem turned_size {w w1 : World} {b : Nat} (h : w.mapTurned w1 b) : w1.heap.size = w.heap.size := by
  obtain ⟨es, clock, es', clock', hb, rfl⟩ := h
  simp [setBlock]

end Go.Proofs.Ytkioeahlajjmiaa
