/-
  A row of bytes that lies in a block: read, written, turned into a text; over any program.
-/
import Derived.WalkKit
import Derived.WalkSpells
import Derived.WalkLawsBesides
import Derived.Laws.IdiomStrings
import Derived.Deep.WholeRow
import Derived.Test.YtpfnkjfbhcffiaaOwn
namespace Go.Proofs.Ytpfnkjfbhcffiaa
open Go.RowKit

/-- The bytes l lie in block g, from its head on; they may be written. -/
def Lies (W : World) (g : Nat) (l : List UInt8) : Prop :=
  g < W.heap.size ∧ ∀ j (h : j < l.length), W.cell? ⟨g, j, none⟩ = some (.int .u8 (l[j].toNat : Int)) ∧ W.frozen? ⟨g, j, none⟩ = false

theorem Lies.drew {W : World} {g : Nat} {l : List UInt8} (h : Lies W g l) : Lies W.drew g l := ⟨h.1, fun j hj => ⟨by simpa using (h.2 j hj).1, by simpa using (h.2 j hj).2⟩⟩

theorem Lies.below {W W' : World} {base g : Nat} {l : List UInt8} (h : Lies W g l) (hb : Below base W W') (hg : g < base) : Lies W' g l :=
  ⟨Nat.lt_of_lt_of_le h.1 hb.size, fun j hj => ⟨by rw [hb.cell (p := ⟨g, j, none⟩) hg]; exact (h.2 j hj).1, by rw [hb.frozen (p := ⟨g, j, none⟩) hg]; exact (h.2 j hj).2⟩⟩

theorem Lies.alloc {W : World} {g : Nat} {l : List UInt8} (h : Lies W g l) (o : Obj) : Lies (W.alloc o) g l :=
  h.below ((Below.refl W.heap.size W).alloc (Nat.le_refl _) o) h.1

theorem Lies.set {W : World} {g : Nat} {l : List UInt8} (h : Lies W g l) (k : Nat) (b : UInt8) : Lies (W.setCell ⟨g, k, none⟩ (.int .u8 (b.toNat : Int))) g (l.set k b) := by
  refine ⟨by simpa [World.setCell] using h.1, fun j hj => ?_⟩
  rw [List.length_set] at hj
  obtain ⟨h1, h2⟩ := h.2 j hj
  refine ⟨?_, by simpa using h2⟩
  by_cases e : k = j
  · subst e
    rw [World.cell?_setCell_same _ _ _ h1]
    simp
  · rw [World.cell?_setCell_other _ _ _ _ (by intro q; injection q; omega), h1]
    simp [e]

theorem Lies.conv {P : Program} {W : World} {g : Nat} {l : List UInt8} (h : Lies W g l) (n cap : Nat) (hn : n = l.length) (src dst u8 : TypeId) (hs : P.underlying src = some (.slice u8)) (he : P.underlying u8 = some (.int .u8)) (hd : P.underlying dst = some .string) :
    (convert src dst (.slice (some ⟨g, 0, none⟩) n cap)).run P W = .ok (.string ⟨l.toArray⟩) W := by
  subst hn
  refine run_convert_bytes_back W src dst u8 ⟨g, 0, none⟩ cap l hs he hd ?_
  intro j hj
  rw [addr_add0]
  exact (h.2 j hj).1

/-- What '[]byte(s)' leaves. -/
theorem lies_bytes {P : Program} (w : World) (s : ByteArray) (src dst u8 : TypeId) (hs : P.underlying src = some .string) (hd : P.underlying dst = some (.slice u8)) (he : P.underlying u8 = some (.int .u8)) :
    ∃ (cap : Nat) (w' : World), (convert src dst (.string s)).run P w = .ok (.slice (some ⟨w.heap.size, 0, none⟩) s.size cap) w' ∧ Lies w' w.heap.size s.data.toList ∧ Below w.heap.size w w' := by
  refine ⟨_, _, run_bytes_of_string w src dst u8 s hs hd he, ?_, ?_⟩
  · refine ⟨by simp, fun j hj => ?_⟩
    have hj' : j < s.data.size := by simpa using hj
    constructor
    · rw [show w.heap.size = w.drew.heap.size from rfl, World.cell?_alloc_mark, bytesRow_at _ _ _ hj']
      simp
    · rw [show w.heap.size = w.drew.heap.size from rfl, World.frozen?_alloc_mark]
      have : j < (bytesRow s (grownCap w s.size 0 u8)).size := by rw [bytesRow, Array.size_append, Array.size_map]; omega
      have h2 : ¬ ((bytesRow s (grownCap w s.size 0 u8)).size ≤ j) := by omega
      simp [h2]
  · exact ((Below.refl _ w).drew).alloc (by simp) _

theorem madeCells_u8 (n : Nat) : madeCells (Value.int .u8 0).cells (n * 1) = ((List.replicate n (0 : UInt8)).map fun b => Value.int .u8 (b.toNat : Int)).toArray := by
  have e : (Value.int .u8 0).cells = #[Value.int .u8 0] := rfl
  rw [e, ← Array.toList_inj, toList_madeCells_one]
  simp

theorem lies_new (w : World) (l : List UInt8) (t : TypeId) : Lies (w.alloc (.cells (l.map fun b => Value.int .u8 (b.toNat : Int)).toArray t)) w.heap.size l := by
  refine ⟨by simp, fun j hj => ?_⟩
  constructor
  · rw [cell_of_row _ _ j _ t (0, 0) (heap_alloc_last w _)]
    simp [hj]
  · rw [World.frozen?_alloc_mark]
    simp

end Go.Proofs.Ytpfnkjfbhcffiaa
