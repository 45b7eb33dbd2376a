/-
  What bytes begin with tells what they may be: the plain part of CommandKinds.
-/
import Derived.Test.YtpolokajojfaiaaCmFromW
import Derived.Test.YtpolokajojfaiaaCmFromM
import Derived.ProofKit
import Derived.OpenShut
import Derived.ShutString
import Derived.SizedLaws
namespace Go.Proofs.Ytpolokajojfaiaa.commandKinds
open Go.ChangeShapes Go.WideShapes Go.ChangeAt Go.RowKit
open Go.ChangeMaps (open_string shut_string)

theorem bigBelow {u X Y : World} (h : Below u.heap.size u X) (h2 : Below X.heap.size X Y) : Below u.heap.size u Y := h.trans ⟨h2.os, h2.tape, h2.output, h2.size, fun k hk => h2.block k (Nat.lt_of_lt_of_le hk h.size)⟩

/-- Two variables that were made last, each written. -/
theorem two_new (w : World) (a b cs : Array Value) (ta tb : TypeId) :
    ((w.alloc (.cells a ta)).alloc (.cells b tb)).heap[w.heap.size]? = some (.cells a ta (0, 0)) ∧ (((w.alloc (.cells a ta)).alloc (.cells b tb)).setRow w.heap.size cs).heap[w.heap.size + 1]? = some (.cells b tb (0, 0)) ∧
      ∀ ds : Array Value, Below w.heap.size w ((((w.alloc (.cells a ta)).alloc (.cells b tb)).setRow w.heap.size cs).setRow (w.heap.size + 1) ds) := by
  refine ⟨?_, ?_, fun ds => ?_⟩
  · rw [(alloc_below _ _).block _ (by simp)]; exact heap_alloc_new _ _
  · rw [setRow_other _ _ _ _ (by omega)]
    have := heap_alloc_new (w.alloc (.cells a ta)) (.cells b tb)
    simpa using this
  · exact below_setRow (below_setRow ((alloc_below w _).alloc (by simp) _) (Nat.le_refl _)) (by omega)

/-- What bytes begin with tells what they may be. -/
theorem takeX_head {m : UInt8} {D : List UInt8 → Option (List (Cm.K × Cm.V) × List UInt8)} {l : List UInt8} {vs : List (Cm.K × Cm.V)} (h : takeX m D l = some vs) : ∃ r, l = m :: r := by
  cases l with
  | nil => cases h
  | cons b r =>
    simp only [takeX] at h
    split at h
    · rename_i hb
      exact ⟨r, by rw [hb]⟩
    · cases h
theorem takeX_no {m n : UInt8} {D D2 : List UInt8 → Option (List (Cm.K × Cm.V) × List UInt8)} {l : List UInt8} {vs : List (Cm.K × Cm.V)} (h : takeX m D l = some vs) (hn : m ≠ n) : takeX n D2 l = none := by
  obtain ⟨r, rfl⟩ := takeX_head h
  simp only [takeX, if_neg hn]

/-- A struct and its error. -/
def One (n : Nat) (E : Int) (e : Ending) : Prop := ∃ cs : Array Value, cs.size = n ∧ cs.all (·.oneCell') = true ∧ e = .returned (.tuple #[.agg cs, .int .i64 E])
def Two (m n : Nat) (E : Int) (e : Ending) : Prop := ∃ cs ds : Array Value, cs.size = m ∧ cs.all (·.oneCell') = true ∧ ds.size = n ∧ ds.all (·.oneCell') = true ∧ e = .returned (.tuple #[.agg cs, .agg ds, .int .i64 E])
def err (x : Option (List (Cm.K × Cm.V))) : Int := match x with
  | some _ => 0
  | none => 140

theorem one_cmd {s : ByteArray} {e : Ending} (h : FromO s e) : One 20 (err (takeX 67 (Cm.dec ksCmd) s.data.toList)) e := by
  unfold FromO at h
  split at h
  · rename_i vs hq
    obtain ⟨x, -, he⟩ := h
    rw [hq]
    exact ⟨x.cells.toArray, rfl, x.one, he⟩
  · rename_i hq
    rw [hq]
    exact ⟨zCmd.cells.toArray, rfl, zCmd.one, h⟩
theorem one_msg {N : Nat} {s : ByteArray} {e : Ending} {w : World} (h : MsgO N s e w) : One 11 (err (takeX 77 dMsg s.data.toList)) e := by
  unfold MsgO at h
  split at h
  · rename_i vs hq
    obtain ⟨x, -, he, -⟩ := h
    rw [hq]
    exact ⟨x.cells.toArray, rfl, x.one, he⟩
  · rename_i hq
    rw [hq]
    exact ⟨zMsg.cells.toArray, rfl, zMsg.one, h⟩
theorem two_ask {s : ByteArray} {e : Ending} (h : AskO s e) : Two 2 9 (err (takeX 81 (Cm.dec ksAsk) s.data.toList)) e := by
  unfold AskO at h
  split at h
  · rename_i vs hq
    obtain ⟨i, x, -, he⟩ := h
    rw [hq]
    exact ⟨i.cells.toArray, x.cells.toArray, rfl, i.one, rfl, x.one, he⟩
  · rename_i hq
    rw [hq]
    exact ⟨zId.cells.toArray, zOp.cells.toArray, rfl, zId.one, rfl, zOp.one, h⟩
theorem two_ans {N : Nat} {s : ByteArray} {e : Ending} {w : World} (h : AnsO N s e w) : Two 2 3 (err (takeX 65 dAns s.data.toList)) e := by
  unfold AnsO at h
  split at h
  · rename_i vs hq
    obtain ⟨i, x, -, he, -⟩ := h
    rw [hq]
    exact ⟨i.cells.toArray, x.cells.toArray, rfl, i.one, rfl, x.one, he⟩
  · rename_i hq
    rw [hq]
    exact ⟨zId.cells.toArray, zRep.cells.toArray, rfl, zId.one, rfl, zRep.one, h⟩

end Go.Proofs.Ytpolokajojfaiaa.commandKinds
