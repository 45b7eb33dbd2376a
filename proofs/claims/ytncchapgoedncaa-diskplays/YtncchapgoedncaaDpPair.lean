/-
  Both disks, side by side, and what 'does' keeps while it runs.
-/
import Derived.Test.YtncchapgoedncaaDpBoth
import Derived.Deep.RegionHeld
namespace Go.Proofs.Ytncchapgoedncaa
open Go.RowKit

/-- The program's disk in block b, and the document's: the same files. -/
structure Pr (w W : World) (b room : Nat) (A : Nat → List UInt8) (S : Nat → Nat) (g1 g2 c1 c2 : Nat) (own : Nat → Prop) : Prop where
  dk : Dk W b room A S own
  rf : Rf W (rv room g1 g2 c1 c2) room (tx A) S g1 g2 c1 c2
  o : ¬ own g1 ∧ ¬ own g2 ∧ g1 ≠ b ∧ g2 ≠ b
  old : ∀ k, own k → w.heap.size ≤ k
  bge : w.heap.size ≤ b
  bel : Below w.heap.size w W
theorem Pr.tight {w W : World} {b room g1 g2 c1 c2 : Nat} {A : Nat → List UInt8} {S : Nat → Nat} {own : Nat → Prop} (h : Pr w W b room A S g1 g2 c1 c2 own) : Pr w W b room A S g1 g2 c1 c2 (fun k => own k ∧ k < W.heap.size) :=
  ⟨h.dk.tighter, h.rf, ⟨fun e => h.o.1 e.1, fun e => h.o.2.1 e.1, h.o.2.2⟩, fun k e => h.old k e.1, h.bge, h.bel⟩

theorem Pr.after {w W w5 w6 : World} {b room g1 g2 c1 c2 x1 x2 d1 d2 : Nat} {A A' : Nat → List UInt8} {S S' : Nat → Nat} {own : Nat → Prop} (h : Pr w W b room A S g1 g2 c1 c2 own) (ht : ∀ k, own k → k < W.heap.size) (hb : Below W.heap.size W w5)
    (hr : Rf w5 (rv room x1 x2 d1 d2) room (tx A') S' x1 x2 d1 d2) (h1 : x1 = g1 ∨ W.heap.size ≤ x1) (h2 : x2 = g2 ∨ W.heap.size ≤ x2) (hd : Dk w6 b room A' S' (since own w5)) (hk : Kept b own w5 w6) :
    Pr w w6 b room A' S' x1 x2 d1 d2 (since own w5) := by
  have hlt := h.dk.lt
  have hs := hb.size
  have hs0 := h.bel.size
  obtain ⟨q1, q2, q3, q4⟩ := h.o
  have n1 : ¬ own x1 ∧ x1 ≠ b := by
    rcases h1 with e | e
    · rw [e]; exact ⟨q1, q3⟩
    · exact ⟨fun o => by have := ht x1 o; omega, by omega⟩
  have n2 : ¬ own x2 ∧ x2 ≠ b := by
    rcases h2 with e | e
    · rw [e]; exact ⟨q2, q4⟩
    · exact ⟨fun o => by have := ht x2 o; omega, by omega⟩
  refine ⟨hd, hr.carry hk.size (hk.block x1 hr.l1 n1.2 n1.1) (hk.block x2 hr.l2 n2.2 n2.1), ⟨?_, ?_, n1.2, n2.2⟩, ?_, h.bge, ?_⟩
  · rintro (o | o)
    · exact n1.1 o
    · have := hr.l1; omega
  · rintro (o | o)
    · exact n2.1 o
    · have := hr.l2; omega
  · rintro k (o | o)
    · exact h.old k o
    · omega
  · exact h.bel.trans ((hb.mono hs0).trans (hk.below h.bge h.old (by omega)))

theorem Pr.below {w W W' : World} {b room g1 g2 c1 c2 : Nat} {A : Nat → List UInt8} {S : Nat → Nat} {own : Nat → Prop} (h : Pr w W b room A S g1 g2 c1 c2 own) (hb : Below W.heap.size W W') : Pr w W' b room A S g1 g2 c1 c2 own :=
  ⟨h.dk.below hb, h.rf.below hb, h.o, h.old, h.bge, h.bel.trans (hb.mono h.bel.size)⟩

theorem Pr.set3 {w W : World} {b room g1 g2 c1 c2 p : Nat} {A : Nat → List UInt8} {S : Nat → Nat} {own : Nat → Prop} (h : Pr w W b room A S g1 g2 c1 c2 own) (hp : w.heap.size ≤ p) (hb : p ≠ b) (ho : ¬ own p) (h1 : g1 ≠ p) (h2 : g2 ≠ p) (x y z : Value) : Pr w (set3 W p x y z) b room A S g1 g2 c1 c2 own :=
  ⟨((h.dk.setCell ⟨p, 0, none⟩ x hb ho).setCell ⟨p, 1, none⟩ y hb ho).setCell ⟨p, 2, none⟩ z hb ho, h.rf.set3 x y z h1 h2, h.o, h.old, h.bge, set3_below h.bel hp x y z⟩

theorem newer {x g n m : Nat} (h : x = g ∨ m ≤ x) (hnm : n ≤ m) : x = g ∨ n ≤ x := by omega

/-- Both disks behind a call, whatever files they have; what was there and is not the disk's own is as it was. -/
def PrE (w W w' : World) (b room g1 g2 : Nat) (own : Nat → Prop) (v : Value) : Prop := ∃ A S x1 x2 d1 d2 own', v = rv room x1 x2 d1 d2 ∧ Pr w w' b room A S x1 x2 d1 d2 own' ∧ Kept b own W w' ∧ (∀ k, k < W.heap.size → own' k → own k) ∧ (x1 = g1 ∨ W.heap.size ≤ x1) ∧ (x2 = g2 ∨ W.heap.size ≤ x2)

theorem Kept.set3 {b p : Nat} {own : Nat → Prop} {a w : World} (h : Kept b own a w) (hp : a.heap.size ≤ p) (x y z : Value) : Kept b own a (set3 w p x y z) :=
  ((h.setCell ⟨p, 0, none⟩ (.inr (.inr hp)) x).setCell ⟨p, 1, none⟩ (.inr (.inr hp)) y).setCell ⟨p, 2, none⟩ (.inr (.inr hp)) z

theorem pre_after {w W w5 w6 : World} {b room g1 g2 c1 c2 x1 x2 d1 d2 p : Nat} {A A' : Nat → List UInt8} {S S' : Nat → Nat} {own own' : Nat → Prop} (h : Pr w W b room A S g1 g2 c1 c2 own') (ho : ∀ k, own' k → own k) (ht : ∀ k, own' k → k < W.heap.size) (hb : Below W.heap.size W w5)
    (hr : Rf w5 (rv room x1 x2 d1 d2) room (tx A') S' x1 x2 d1 d2) (h1 : x1 = g1 ∨ W.heap.size ≤ x1) (h2 : x2 = g2 ∨ W.heap.size ≤ x2) (hd : Dk w6 b room A' S' (since own' w5)) (hk : Kept b own' w5 w6)
    (hp : W.heap.size ≤ p) (hp5 : p < w5.heap.size) (n1 : x1 ≠ p) (n2 : x2 ≠ p) (x y z : Value) : PrE w W (set3 w6 p x y z) b room g1 g2 own (rv room x1 x2 d1 d2) := by
  have hpr := h.after ht hb hr h1 h2 hd hk
  have hlt := h.dk.lt
  have hs0 := h.bel.size
  have hs5 := hb.size
  refine ⟨A', S', x1, x2, d1, d2, _, rfl, hpr.set3 (by omega) (by omega) (fun o => by rcases o with o | o; have := ht _ o; omega; omega) n1 n2 x y z, ?_, ?_, h1, h2⟩
  · exact ((Kept.ofBelow hb).trans hk (fun k _ o => ho k o)).set3 hp x y z
  · rintro k hk' (o | o)
    · exact ho k o
    · omega

/-- A call's cells, and where they lie: the document's disk, the call, the result. -/
abbrev opCells (kind file a2 b2 : Int) (text : ByteArray) (kv : Value) : Array Value := #[.int .i64 kind, .int .i64 file, .int .i64 a2, .int .i64 b2, .string text, kv]
structure Dz (W X : World) (be room g1 g2 c1 c2 : Nat) (ops : Array Value) : Prop where
  at_ : be = W.heap.size
  bel : Below W.heap.size W X
  lt : be + 2 < X.heap.size
  q : X.heap[be]? = some (.cells #[.int .i64 (room : Int), .slice (some ⟨g1, 0, none⟩) 256 c1, .slice (some ⟨g2, 0, none⟩) 256 c2] 30 (0, 0))
  op : X.heap[be + 1]? = some (.cells ops 35 (0, 0))
  rs : X.heap[be + 2]? = some (.cells #[.int .i64 0, .slice none 0 0, .slice none 0 0] 30 (0, 0))

theorem dz_start (W : World) (room g1 g2 c1 c2 : Nat) (ops : Array Value) : Dz W (((W.alloc (.cells #[.int .i64 (room : Int), .slice (some ⟨g1, 0, none⟩) 256 c1, .slice (some ⟨g2, 0, none⟩) 256 c2] 30)).alloc (.cells ops 35)).alloc (.cells #[.int .i64 0, .slice none 0 0, .slice none 0 0] 30)) W.heap.size room g1 g2 c1 c2 ops := by
  refine ⟨rfl, (((Below.refl _ W).alloc (Nat.le_refl _) _).alloc (by simp) _).alloc (by simp; omega) _, by simp, ?_, ?_, ?_⟩
  · rw [Below.heap_alloc _ _ _ (by simp; omega), Below.heap_alloc _ _ _ (by simp)]; exact heap_alloc_new _ _
  · rw [Below.heap_alloc _ _ _ (by simp)]
    have := heap_alloc_new (W.alloc (.cells #[.int .i64 (room : Int), .slice (some ⟨g1, 0, none⟩) 256 c1, .slice (some ⟨g2, 0, none⟩) 256 c2] 30)) (.cells ops 35)
    simpa using this
  · have := heap_alloc_new ((W.alloc (.cells #[.int .i64 (room : Int), .slice (some ⟨g1, 0, none⟩) 256 c1, .slice (some ⟨g2, 0, none⟩) 256 c2] 30)).alloc (.cells ops 35)) (.cells #[.int .i64 0, .slice none 0 0, .slice none 0 0] 30)
    simpa using this

theorem Dz.below {W X X' : World} {be room g1 g2 c1 c2 : Nat} {ops : Array Value} (h : Dz W X be room g1 g2 c1 c2 ops) (hb : Below X.heap.size X X') : Dz W X' be room g1 g2 c1 c2 ops := by
  have hl := h.lt
  exact ⟨h.at_, h.bel.trans (hb.mono h.bel.size), Nat.lt_of_lt_of_le hl hb.size, by rw [hb.block _ (by omega)]; exact h.q, by rw [hb.block _ (by omega)]; exact h.op, by rw [hb.block _ (by omega)]; exact h.rs⟩

theorem cells3 {X : World} {p : Nat} {x y z : Value} {t : TypeId} (h : X.heap[p]? = some (.cells #[x, y, z] t (0, 0))) :
    X.cell? ⟨p, 0, none⟩ = some x ∧ X.cell? ⟨p, 1, none⟩ = some y ∧ X.cell? ⟨p, 2, none⟩ = some z ∧ X.frozen? ⟨p, 0, none⟩ = false ∧ X.frozen? ⟨p, 1, none⟩ = false ∧ X.frozen? ⟨p, 2, none⟩ = false := by
  refine ⟨?_, ?_, ?_, ?_, ?_, ?_⟩ <;> simp [World.cell?, World.frozen?, h]
theorem cells6 {X : World} {p : Nat} {x0 x1 x2 x3 x4 x5 : Value} {t : TypeId} (h : X.heap[p]? = some (.cells #[x0, x1, x2, x3, x4, x5] t (0, 0))) :
    X.cell? ⟨p, 0, none⟩ = some x0 ∧ X.cell? ⟨p, 1, none⟩ = some x1 ∧ X.cell? ⟨p, 2, none⟩ = some x2 ∧ X.cell? ⟨p, 3, none⟩ = some x3 ∧ X.cell? ⟨p, 4, none⟩ = some x4 ∧ X.cell? ⟨p, 5, none⟩ = some x5 := by
  refine ⟨?_, ?_, ?_, ?_, ?_, ?_⟩ <;> simp [World.cell?, h]

/-- Besides these the next disk, in a block of its own. -/
structure Dn (W X : World) (be et room g1 g2 c1 c2 x1 x2 d1 d2 : Nat) (ops : Array Value) : Prop where
  dz : Dz W X be room g1 g2 c1 c2 ops
  lo : be + 3 ≤ et
  hi : et < X.heap.size
  nx : X.heap[et]? = some (.cells #[.int .i64 (room : Int), .slice (some ⟨x1, 0, none⟩) 256 d1, .slice (some ⟨x2, 0, none⟩) 256 d2] 30 (0, 0))

theorem dn_start {W X : World} {be room g1 g2 c1 c2 : Nat} {ops : Array Value} (h : Dz W X be room g1 g2 c1 c2 ops) (x1 x2 d1 d2 : Nat) :
    Dn W (X.alloc (.cells #[.int .i64 (room : Int), .slice (some ⟨x1, 0, none⟩) 256 d1, .slice (some ⟨x2, 0, none⟩) 256 d2] 30)) be X.heap.size room g1 g2 c1 c2 x1 x2 d1 d2 ops := by
  have hl := h.lt
  exact ⟨h.below ((Below.refl _ X).alloc (Nat.le_refl _) _), by omega, by simp, heap_alloc_new _ _⟩

theorem Dn.below {W X X' : World} {be et room g1 g2 c1 c2 x1 x2 d1 d2 : Nat} {ops : Array Value} (h : Dn W X be et room g1 g2 c1 c2 x1 x2 d1 d2 ops) (hb : Below X.heap.size X X') : Dn W X' be et room g1 g2 c1 c2 x1 x2 d1 d2 ops :=
  ⟨h.dz.below hb, h.lo, Nat.lt_of_lt_of_le h.hi hb.size, by rw [hb.block _ h.hi]; exact h.nx⟩

/-- The program's disk was called. (What it keeps as its own lies below be.) -/
theorem Dz.kept {W X X' : World} {be room g1 g2 c1 c2 b : Nat} {ops : Array Value} {own : Nat → Prop} (h : Dz W X be room g1 g2 c1 c2 ops) (hk : Kept b own X X') (hb : b < be) (ho : ∀ k, own k → k < be) :
    X'.heap[be]? = X.heap[be]? ∧ X'.heap[be + 1]? = X.heap[be + 1]? ∧ X'.heap[be + 2]? = X.heap[be + 2]? ∧ be + 2 < X'.heap.size := by
  have hl := h.lt
  have hs := hk.size
  exact ⟨hk.block _ (by omega) (by omega) (fun o => by have := ho _ o; omega), hk.block _ (by omega) (by omega) (fun o => by have := ho _ o; omega), hk.block _ (by omega) (by omega) (fun o => by have := ho _ o; omega), by omega⟩

theorem pre_same {w W X : World} {b room g1 g2 c1 c2 be : Nat} {A : Nat → List UInt8} {S : Nat → Nat} {own own' : Nat → Prop} {ops : Array Value} (h : Pr w W b room A S g1 g2 c1 c2 own') (ho : ∀ k, own' k → own k) (ht : ∀ k, own' k → k < W.heap.size) (hz : Dz W X be room g1 g2 c1 c2 ops) (x y z : Value) :
    PrE w W (set3 X (be + 2) x y z) b room g1 g2 own (rv room g1 g2 c1 c2) := by
  have e := hz.at_
  have hlt := h.dk.lt
  have hs0 := h.bel.size
  have l1 := h.rf.l1
  have l2 := h.rf.l2
  exact ⟨A, S, g1, g2, c1, c2, own', rfl, (h.below hz.bel).set3 (by omega) (by omega) (fun o => by have := ht _ o; omega) (by omega) (by omega) x y z, (Kept.ofBelow hz.bel).set3 (by omega) x y z, fun k _ o => ho k o, .inl rfl, .inl rfl⟩

end Go.Proofs.Ytncchapgoedncaa
