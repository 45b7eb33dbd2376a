/-
  A map from pairs of numbers to numbers: what stands at a key, 'm[k]++' in either order of its parts.
-/
import Derived.Test.YtpopanfefpehnaaRows
import Derived.Test.YtpopanfefpehnaaOwn
import Derived.Maps.RangeWalk
import Derived.WideKeyPair
import Derived.WideKeyEntry
import Derived.BigRegion
import Derived.BigQuiet
import Derived.Deep.RegionHeld
namespace Go.Proofs.Ytpopanfefpehnaa
open Go.RowKit Go.WideMaps
open Go.ChangeMaps (setBlock heap_setBlock_same)
open Go.MapKept

theorem arrKey : ArrKey Try.prog 128 3 2 := ⟨Try.underlying128, by kernel_rfl, by kernel_rfl, by kernel_rfl⟩
theorem keyLaw : KeyLaw Try.prog 128 := arrKey.law
theorem keyed : Maps.Keyed Try.prog 128 := Maps.Keyed.of_law keyLaw
theorem typesSome : ∃ m, Try.prog.types.size = m + 1 := ⟨Try.prog.types.size - 1, by
  have : (0 : Nat) < Try.prog.types.size := of_decide_eq_true (by kernel_rfl)
  omega⟩

/-- A way. -/
def ky (a b : Int) : Value := .agg #[.int .i64 a, .int .i64 b]
/-- What it reads as. -/
def kl (a b : Int) : Lit := .string (keyBytes [.int .i64 a, .int .i64 b])
/-- A number of 64 bits. -/
def In64 (a : Int) : Prop := -9223372036854775808 ≤ a ∧ a ≤ 9223372036854775807

theorem wf64 {a : Int} (h : In64 a) : (Lit.int .i64 a).wf = true := WalkArith.wf_i64 h

theorem keyOf_ky {a b : Int} (ha : In64 a) (hb : In64 b) : keyOf Try.prog 128 (ky a b) = some (kl a b) := keyOf_pair arrKey Try.underlying3 typesSome (wf64 ha) (wf64 hb)

theorem kl_inj {a b c d : Int} (ha : In64 a) (hb : In64 b) (hc : In64 c) (hd : In64 d) (h : kl a b = kl c d) : a = c ∧ b = d := by
  have := keyed.inj (keyOf_ky ha hb) (by rw [h]; exact keyOf_ky hc hd)
  unfold ky at this
  injection this with e
  simp at e
  exact e

theorem kl_key (a b : Int) : WideAt.IsKeyLit (kl a b) := trivial

theorem zeroInt (w : World) : (zeroValue 3).run Try.prog w = .ok (.int .i64 0) w := by kernel_rfl

/-- Block b is a map of ways to numbers, of at most n entries; 'f a b' stands at the way from a to b. -/
def Mp (w : World) (b n : Nat) (f : Int → Int → Int) : Prop :=
  ∃ D : DataW Unit, w.ownsMap Try.prog 128 (plainElem Try.prog 3) b n D ∧ ∀ x y, In64 x → In64 y → D.atKey (kl x y) (.lit (.int .i64 0)) = .lit (.int .i64 (f x y))

theorem Mp.lt {w : World} {b n : Nat} {f : Int → Int → Int} (h : Mp w b n f) : b < w.heap.size := by obtain ⟨D, h, _⟩ := h; exact h.lt
theorem Mp.carry {w w' : World} {b n : Nat} {f : Int → Int → Int} (h : Mp w b n f) (hb : w'.heap[b]? = w.heap[b]?) : Mp w' b n f := by
  obtain ⟨D, ⟨es, clock, h1, h2⟩, h3⟩ := h
  exact ⟨D, ⟨es, clock, hb.trans h1, h2⟩, h3⟩
theorem Mp.mono {w : World} {b n m : Nat} {f : Int → Int → Int} (h : Mp w b n f) (hn : n ≤ m) : Mp w b m f := by
  obtain ⟨D, h, h3⟩ := h
  exact ⟨D, h.mono hn, h3⟩
theorem Mp.noCell {w : World} {b n : Nat} {f : Int → Int → Int} (h : Mp w b n f) (o : Nat) : w.cell? ⟨b, o, none⟩ = none := by
  obtain ⟨D, ⟨es, clock, h1, _⟩, _⟩ := h
  simp [World.cell?, h1]

theorem Mp.made (w : World) : Mp (w.alloc (.map #[] 0)) w.heap.size 0 (fun _ _ => 0) := ⟨.map [], World.ownsMap_made w _ _ _, fun _ _ _ _ => rfl⟩

set_option maxRecDepth 20000 in
/-- m[k]. -/
theorem Mp.look {w : World} {b n : Nat} {f : Int → Int → Int} (h : Mp w b n f) {x y : Int} (hx : In64 x) (hy : In64 y) :
    (Instr.lookup 72 (.map (some b)) (.agg #[.int .i64 x, .int .i64 y]) false).run Try.prog w = .ok (.int .i64 (f x y)) w := by
  obtain ⟨D, h, h3⟩ := h
  obtain ⟨c, h1, h2, _⟩ := h.lookup_int keyed Try.underlying72 Try.underlying3 (zeroInt w) (keyOf_ky hx hy)
  rw [h3 x y hx hy] at h2
  injection h2 with e
  injection e with _ e
  rw [e]
  exact h1

/-- The map with another number at one way. -/
def setW (f : Int → Int → Int) (x y v : Int) : Int → Int → Int := fun a b => if a = x ∧ b = y then v else f a b

set_option maxRecDepth 20000 in
theorem Mp.stored {w w' : World} {b n m : Nat} {f : Int → Int → Int} {D : DataW Unit} (hD : w.ownsMap Try.prog 128 (plainElem Try.prog 3) b n D) (h3 : ∀ x y, In64 x → In64 y → D.atKey (kl x y) (.lit (.int .i64 0)) = .lit (.int .i64 (f x y)))
    {x y v : Int} (hx : In64 x) (hy : In64 y) (h : w'.ownsMap Try.prog 128 (plainElem Try.prog 3) b m (D.put (kl x y) (.lit (.int .i64 v)))) : Mp w' b m (setW f x y v) := by
  refine ⟨_, h, fun a c ha hc => ?_⟩
  unfold setW
  split
  · rename_i e
    rw [e.1, e.2]
    exact Maps.atKey_put_same hD.isMap (kl_key _ _) _ _
  · rename_i e
    rw [Maps.atKey_put_other (fun e1 => e (kl_inj ha hc hx hy e1))]
    exact h3 a c ha hc

set_option maxRecDepth 20000 in
/-- 'm[k] += ..': the entry is made ready, then stored. -/
theorem Mp.entry {w : World} {b n : Nat} {f : Int → Int → Int} (h : Mp w b n f) (hn : n < maxLen) {x y : Int} (hx : In64 x) (hy : In64 y) :
    ∃ v0 st w1, (Instr.mapEntry 72 (.map (some b)) (.agg #[.int .i64 x, .int .i64 y])).run Try.prog w = .ok (.tuple #[v0, .int .i64 st]) w1 ∧ w.mapTurned w1 b ∧ Mp w1 b (n + 1) f ∧
      ∀ (w2 : World) (v : Int), w2.heap[b]? = w1.heap[b]? → In64 v → ∃ w3, (Instr.entryStore 72 (.map (some b)) (.int .i64 st) (.int .i64 v)).run Try.prog w2 = .ok () w3 ∧ w2.mapTurned w3 b ∧ Mp w3 b (n + 1) (setW f x y v) := by
  obtain ⟨D, h, h3⟩ := h
  have hw0 : (Lit.int .i64 0).wf = true := by decide
  obtain ⟨es, clock, hb, F, hs, hD⟩ := id h
  obtain ⟨v0, st, es1, clock1, hrun, hv, hst⟩ := WideElems.entry_then_store keyLaw Try.underlying72 (fun u => zeroInt u) hb F (keyOf_ky hx hy)
  have hb1 : (setBlock w b (.map es1 clock1)).heap[b]? = some (.map es1 clock1) := heap_setBlock_same hb _
  refine ⟨v0, (st : Int), setBlock w b (.map es1 clock1), hrun, ⟨es, clock, es1, clock1, hb, rfl⟩, ?_, ?_⟩
  · rcases keyLaw.find w (keyOf_ky hx hy) es.toList F.keys with ⟨h1, h2⟩ | ⟨j, e0, h1, h2, h5⟩
    · have hup : (Instr.mapUpdate 72 (.map (some b)) (ky x y) (.int .i64 0)).run Try.prog w = .ok () (setBlock w b (.map (es.push ⟨ky x y, .int .i64 0, clock⟩) (clock + 1))) := by
        simp [Instr.mapUpdate, run_underlying Try.underlying72, MapKept.run_getObj_map hb, keyLaw.check w false (keyOf_ky hx hy), h1, MapKept.run_setObj_map _ hb, Result.andThen, setBlock]
      have hen : (Instr.mapEntry 72 (.map (some b)) (ky x y)).run Try.prog w = .ok (.tuple #[.int .i64 0, goInt clock]) (setBlock w b (.map (es.push ⟨ky x y, .int .i64 0, clock⟩) (clock + 1))) := by
        simp [Instr.mapEntry, run_underlying Try.underlying72, MapKept.run_getObj_map hb, keyLaw.check w false (keyOf_ky hx hy), h1, MapKept.run_setObj_map _ hb, Result.andThen, setBlock]
      have hrun' : (Instr.mapEntry 72 (.map (some b)) (ky x y)).run Try.prog w = _ := hrun
      rw [hen] at hrun'
      injection hrun' with _ hw
      rw [← hw]
      obtain ⟨w', hr', ho', _⟩ := h.store keyed Try.underlying72 hn (keyOf_ky hx hy) (plainElem_int (H := Unit) Try.underlying3 hw0)
      rw [hup] at hr'
      injection hr' with _ hw'
      rw [← hw'] at ho'
      have hz : f x y = 0 := by
        have hl := Mp.look ⟨D, h, h3⟩ hx hy
        have hl0 : (Instr.lookup 72 (.map (some b)) (ky x y) false).run Try.prog w = .ok (.int .i64 0) w := by
          simp [Instr.lookup, run_underlying Try.underlying72, MapKept.run_getObj_map hb, keyLaw.check w _ (keyOf_ky hx hy), h1, Result.andThen]
        have hl' : (Instr.lookup 72 (.map (some b)) (ky x y) false).run Try.prog w = _ := hl
        rw [hl0] at hl'
        injection hl' with e _
        injection e with _ e
        exact e.symm
      have := Mp.stored h h3 hx hy ho'
      have e : setW f x y 0 = f := by
        funext a c
        unfold setW
        split
        · rename_i e; rw [e.1, e.2, hz]
        · rfl
      rw [e] at this
      exact this
    · have hj : es[j]? = some e0 := by simpa using h2
      have hsame : es.modify j (fun e => { e with key := ky x y }) = es := by
        apply Array.ext'
        rw [Array.toList_modify, ChangeMaps.modify_eq_set _ _ _ _ h2]
        have : ({ e0 with key := ky x y } : MapEntry) = e0 := by rw [← h5]
        rw [this]
        exact WideElems.set_self _ _ _ h2
      have hen : (Instr.mapEntry 72 (.map (some b)) (ky x y)).run Try.prog w = .ok (.tuple #[e0.val, goInt e0.born]) (setBlock w b (.map es clock)) := by
        simp [Instr.mapEntry, run_underlying Try.underlying72, MapKept.run_getObj_map hb, keyLaw.check w false (keyOf_ky hx hy), h1, hj, h5, keyLaw.stays w (keyOf_ky hx hy), hsame, MapKept.run_setObj_map _ hb, Result.andThen, setBlock]
      have hrun' : (Instr.mapEntry 72 (.map (some b)) (ky x y)).run Try.prog w = _ := hrun
      rw [hen] at hrun'
      injection hrun' with _ hw
      rw [← hw]
      exact Mp.mono (Mp.carry ⟨D, h, h3⟩ ((heap_setBlock_same hb _).trans hb.symm)) (by omega)
  · intro w2 v hw2 hv64
    rw [hb1] at hw2
    obtain ⟨es', clock', r1, r2⟩ := hst w2 (.int .i64 v) hw2
    obtain ⟨w', hr', ho', _⟩ := h.store keyed Try.underlying72 hn (keyOf_ky hx hy) (plainElem_int (H := Unit) Try.underlying3 (wf64 hv64))
    have r2' : (Instr.mapUpdate 72 (.map (some b)) (ky x y) (.int .i64 v)).run Try.prog w = _ := r2
    rw [r2'] at hr'
    injection hr' with _ hw'
    rw [← hw'] at ho'
    refine ⟨_, r1, ⟨es1, clock1, es', clock', hw2, rfl⟩, ?_⟩
    exact Mp.carry (Mp.stored h h3 hx hy ho') ((heap_setBlock_same hw2 _).trans (heap_setBlock_same hb _).symm)

set_option maxRecDepth 20000 in
/-- delete(m, k), where nothing but 0 stands there. -/
theorem Mp.del {w : World} {b n : Nat} {f : Int → Int → Int} (h : Mp w b n f) {x y : Int} (hx : In64 x) (hy : In64 y) (hz : f x y = 0) (ty : TypeId) :
    ∃ w1, (Builtin.delete_ #[72, 128] ty #[.map (some b), .agg #[.int .i64 x, .int .i64 y]]).run Try.prog w = .ok (.tuple #[]) w1 ∧ w.mapTurned w1 b ∧ Mp w1 b n f := by
  obtain ⟨D, h, h3⟩ := h
  obtain ⟨w', hr, ho, ht⟩ := h.drop keyed Try.underlying72 (keyOf_ky hx hy) ty
  refine ⟨w', hr, ht, _, ho, fun a c ha hc => ?_⟩
  by_cases e : a = x ∧ c = y
  · rw [e.1, e.2, Maps.atKey_del_same, hz]
  · rw [Maps.atKey_del_other (fun e1 => e (kl_inj ha hc hx hy e1))]
    exact h3 a c ha hc

theorem Mp.turned {w w1 : World} {b : Nat} (h : w.mapTurned w1 b) : w.grownBy w1 (some b) := h.grown
theorem turned_size {w w1 : World} {b : Nat} (h : w.mapTurned w1 b) : w1.heap.size = w.heap.size := by
  obtain ⟨es, clock, es', clock', hb, rfl⟩ := h
  simp [setBlock]

end Go.Proofs.Ytpopanfefpehnaa
