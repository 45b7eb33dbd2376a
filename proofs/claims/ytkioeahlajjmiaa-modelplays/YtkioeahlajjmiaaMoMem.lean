/-
  A model in memory: its block, its map of channels, those, who is off; who holds which block; what of the world stays as it was.
-/
import Derived.Test.YtkioeahlajjmiaaMoRow
import Derived.Test.YtkioeahlajjmiaaMoMap
namespace Go.Proofs.Ytkioeahlajjmiaa
open Go.RowKit

/-- What nobody of these holds is as it was. -/
structure KeptW (who : Nat → Nat) (w w' : World) : Prop where
  os : w'.os = w.os
  tape : w'.tape = w.tape
  output : w'.output = w.output
  size : w.heap.size ≤ w'.heap.size
  block : ∀ k, k < w.heap.size → who k = 0 → w'.heap[k]? = w.heap[k]?

theorem KeptW.refl (who : Nat → Nat) (w : World) : KeptW who w w := ⟨rfl, rfl, rfl, Nat.le_refl _, fun _ _ _ => rfl⟩
theorem KeptW.ofBelow {who : Nat → Nat} {w w' : World} (h : Below w.heap.size w w') : KeptW who w w' := ⟨h.os, h.tape, h.output, h.size, fun k hk _ => h.block k hk⟩
theorem KeptW.trans {who who' : Nat → Nat} {a w w' : World} (h : KeptW who a w) (k : KeptW who' w w') (ho : ∀ k, k < a.heap.size → who k = 0 → who' k = 0) : KeptW who a w' :=
  ⟨k.os.trans h.os, k.tape.trans h.tape, k.output.trans h.output, Nat.le_trans h.size k.size, fun i hi hn => (k.block i (Nat.lt_of_lt_of_le hi h.size) (ho i hi hn)).trans (h.block i hi hn)⟩
theorem KeptW.grown {who : Nat → Nat} {a w w' : World} {row : Option Nat} (h : KeptW who a w) (hg : w.grownBy w' row) (hr : ∀ k, row = some k → k < a.heap.size → who k ≠ 0) : KeptW who a w' :=
  ⟨hg.os.trans h.os, hg.tape.trans h.tape, hg.output.trans h.output, Nat.le_trans h.size hg.size, fun k hk hn => by
    rw [hg.block k (Nat.lt_of_lt_of_le hk h.size) (fun e => hr k e.symm hk hn)]
    exact h.block k hk hn⟩
theorem KeptW.setCell {who : Nat → Nat} {a w : World} (h : KeptW who a w) (p : Addr) (hp : p.block < a.heap.size → who p.block ≠ 0) (u : Value) : KeptW who a (w.setCell p u) :=
  ⟨h.os, h.tape, h.output, by simpa [World.setCell] using h.size, fun k hk hn => by
    rw [Below.heap_setCell _ _ _ _ (by rintro rfl; exact hp hk hn)]
    exact h.block k hk hn⟩

/-- Block k holds a channel: its members' map is block bm, its posts' slice v. -/
structure ChV (w : World) (k : Nat) (c : Mo.Ch) (n bm : Nat) (v : Value) : Prop where
  c0 : w.cell? ⟨k, 0, none⟩ = some (.map (some bm))
  c1 : w.cell? ⟨k, 1, none⟩ = some v
  fz : ∀ j, w.frozen? ⟨k, j, none⟩ = false
  mem : Ms w bm n c.mem
  row : RowC w 2 v c.posts.length (poCells c.posts)
  few : c.posts.length ≤ 1024

theorem ChV.carry {w w' : World} {k : Nat} {c : Mo.Ch} {n bm : Nat} {v : Value} (h : ChV w k c n bm v) (hk : w'.heap[k]? = w.heap[k]?) (hm : w'.heap[bm]? = w.heap[bm]?) (hv : ∀ g, cBlk v = some g → w'.heap[g]? = w.heap[g]?) : ChV w' k c n bm v :=
  ⟨(World.cell?_of_block (a := ⟨k, 0, none⟩) hk).trans h.c0, (World.cell?_of_block (a := ⟨k, 1, none⟩) hk).trans h.c1, fun j => (World.frozen?_of_block (a := ⟨k, j, none⟩) hk).trans (h.fz j), h.mem.carry hm, h.row.carry hv, h.few⟩
theorem ChV.mono {w : World} {k : Nat} {c : Mo.Ch} {n m bm : Nat} {v : Value} (h : ChV w k c n bm v) (hn : n ≤ m) : ChV w k c m bm v := ⟨h.c0, h.c1, h.fz, h.mem.mono hn, h.row, h.few⟩

/-- The channel in block k, with what it holds. -/
def ChW (w : World) (who : Nat → Nat) (k : Nat) (c : Mo.Ch) (n : Nat) : Prop := ∃ bm v, ChV w k c n bm v ∧ who k = 4 ∧ who bm = 10 + 2 * k ∧ ∀ g, cBlk v = some g → who g = 11 + 2 * k

/-- Block B holds a model: its maps are the blocks bc and bo; f tells each channel's block, cs what is in it; n calls were made of it at most. -/
structure MdV (w : World) (B : Nat) (s : Mo.St) (who : Nat → Nat) (n bc bo : Nat) (f : ByteArray → ByteArray → Option Nat) (cs : Nat → Mo.Ch) : Prop where
  c0 : w.cell? ⟨B, 0, none⟩ = some (.map (some bc))
  c1 : w.cell? ⟨B, 1, none⟩ = some (.map (some bo))
  chs : Mc w bc n f
  off : Ms w bo n s.off
  ch : ∀ x y, s.ch x y = (f x y).map cs
  one : ∀ x y k, f x y = some k → ChW w who k (cs k) n
  inj : ∀ x y x' y' k, f x y = some k → f x' y' = some k → x = x' ∧ y = y'
  dom : ∀ x y k, f x y = some k → Ok x ∧ Ok y
  wB : who B = 1
  wc : who bc = 2
  wo : who bo = 3
  here : ∀ k, who k ≠ 0 → k < w.heap.size

/-- Block B holds a model. -/
def Md (w : World) (B : Nat) (s : Mo.St) (who : Nat → Nat) (n : Nat) : Prop := ∃ bc bo f cs, MdV w B s who n bc bo f cs

theorem ChW.carry {w w' : World} {who : Nat → Nat} {k : Nat} {c : Mo.Ch} {n : Nat} (h : ChW w who k c n) (hb : ∀ i, who i = 4 ∨ 10 ≤ who i → w'.heap[i]? = w.heap[i]?) : ChW w' who k c n := by
  obtain ⟨bm, v, h1, h2, h3, h4⟩ := h
  exact ⟨bm, v, h1.carry (hb k (.inl h2)) (hb bm (.inr (by omega))) (fun g hg => hb g (.inr (by have := h4 g hg; omega))), h2, h3, h4⟩

theorem MdV.carry {w w' : World} {B : Nat} {s : Mo.St} {who : Nat → Nat} {n bc bo : Nat} {f : ByteArray → ByteArray → Option Nat} {cs : Nat → Mo.Ch} (h : MdV w B s who n bc bo f cs) (hs : w.heap.size ≤ w'.heap.size) (hb : ∀ i, who i ≠ 0 → w'.heap[i]? = w.heap[i]?) : MdV w' B s who n bc bo f cs := by
  have hB := hb B (by rw [h.wB]; decide)
  exact ⟨(World.cell?_of_block (a := ⟨B, 0, none⟩) hB).trans h.c0, (World.cell?_of_block (a := ⟨B, 1, none⟩) hB).trans h.c1, h.chs.carry (hb bc (by rw [h.wc]; decide)), h.off.carry (hb bo (by rw [h.wo]; decide)), h.ch, fun x y k hk => (h.one x y k hk).carry (fun i hi => hb i (by omega)), h.inj, h.dom, h.wB, h.wc, h.wo, fun k hk => Nat.lt_of_lt_of_le (h.here k hk) hs⟩
theorem MdV.below {w w' : World} {B : Nat} {s : Mo.St} {who : Nat → Nat} {n bc bo : Nat} {f : ByteArray → ByteArray → Option Nat} {cs : Nat → Mo.Ch} (h : MdV w B s who n bc bo f cs) (hb : Below w.heap.size w w') : MdV w' B s who n bc bo f cs :=
  h.carry hb.size (fun i hi => hb.block i (h.here i hi))
theorem MdV.mono {w : World} {B : Nat} {s : Mo.St} {who : Nat → Nat} {n m bc bo : Nat} {f : ByteArray → ByteArray → Option Nat} {cs : Nat → Mo.Ch} (h : MdV w B s who n bc bo f cs) (hn : n ≤ m) : MdV w B s who m bc bo f cs :=
  ⟨h.c0, h.c1, h.chs.mono hn, h.off.mono hn, h.ch, fun x y k hk => by
    obtain ⟨bm, v, h1, h2⟩ := h.one x y k hk
    exact ⟨bm, v, h1.mono hn, h2⟩, h.inj, h.dom, h.wB, h.wc, h.wo, h.here⟩
theorem Md.below {w w' : World} {B : Nat} {s : Mo.St} {who : Nat → Nat} {n : Nat} (h : Md w B s who n) (hb : Below w.heap.size w w') : Md w' B s who n := by
  obtain ⟨bc, bo, f, cs, h⟩ := h
  exact ⟨bc, bo, f, cs, h.below hb⟩
theorem Md.carry {w w' : World} {B : Nat} {s : Mo.St} {who : Nat → Nat} {n : Nat} (h : Md w B s who n) (hs : w.heap.size ≤ w'.heap.size) (hb : ∀ i, who i ≠ 0 → w'.heap[i]? = w.heap[i]?) : Md w' B s who n := by
  obtain ⟨bc, bo, f, cs, h⟩ := h
  exact ⟨bc, bo, f, cs, h.carry hs hb⟩
theorem Md.mono {w : World} {B : Nat} {s : Mo.St} {who : Nat → Nat} {n m : Nat} (h : Md w B s who n) (hn : n ≤ m) : Md w B s who m := by
  obtain ⟨bc, bo, f, cs, h⟩ := h
  exact ⟨bc, bo, f, cs, h.mono hn⟩
theorem Md.here {w : World} {B : Nat} {s : Mo.St} {who : Nat → Nat} {n : Nat} (h : Md w B s who n) : ∀ k, who k ≠ 0 → k < w.heap.size := by
  obtain ⟨bc, bo, f, cs, h⟩ := h
  exact h.here
theorem Md.wB {w : World} {B : Nat} {s : Mo.St} {who : Nat → Nat} {n : Nat} (h : Md w B s who n) : who B = 1 := by
  obtain ⟨bc, bo, f, cs, h⟩ := h
  exact h.wB

/-- What a call of a model leaves: it may hold what was made since. -/
def AftM (who : Nat → Nat) (w w' : World) (B : Nat) (s : Mo.St) (n : Nat) (who' : Nat → Nat) : Prop := Md w' B s who' n ∧ (∀ k, k < w.heap.size → who k = 0 → who' k = 0) ∧ KeptW who w w'

theorem AftM.same {who : Nat → Nat} {w w' : World} {B : Nat} {s : Mo.St} {n : Nat} (h : Md w B s who n) (hb : Below w.heap.size w w') : AftM who w w' B s n who := ⟨h.below hb, fun _ _ e => e, KeptW.ofBelow hb⟩
theorem AftM.more {who who' : Nat → Nat} {w w' : World} {B : Nat} {s : Mo.St} {n m : Nat} (h : AftM who w w' B s n who') (hm : n ≤ m) : AftM who w w' B s m who' := ⟨h.1.mono hm, h.2⟩
/-- Behind worlds that only grew. -/
theorem AftM.from {who who' : Nat → Nat} {w u w' : World} {B : Nat} {s : Mo.St} {n : Nat} (hb : Below w.heap.size w u) (h : AftM who u w' B s n who') : AftM who w w' B s n who' :=
  ⟨h.1, fun k hk e => h.2.1 k (Nat.lt_of_lt_of_le hk hb.size) e, (KeptW.ofBelow hb).trans h.2.2 (fun _ _ e => e)⟩
/-- Behind it, worlds that only grew. -/
theorem AftM.on {who who' : Nat → Nat} {w u w' : World} {B : Nat} {s : Mo.St} {n : Nat} (h : AftM who w u B s n who') (hb : Below u.heap.size u w') : AftM who w w' B s n who' :=
  ⟨h.1.below hb, h.2.1, h.2.2.trans (KeptW.ofBelow (who := who) hb) (fun _ _ e => e)⟩

end Go.Proofs.Ytkioeahlajjmiaa
