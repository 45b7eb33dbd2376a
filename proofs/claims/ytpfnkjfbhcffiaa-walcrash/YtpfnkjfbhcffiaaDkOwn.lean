/-
  A disk in memory: its block, its files' rows; what of the world stays as it was while it is used.
-/
import Derived.Test.YtpfnkjfbhcffiaaDkRow
namespace Go.Proofs.Ytpfnkjfbhcffiaa
open Go.RowKit

/-- What is neither block b nor owned is as it was. -/
structure Kept (b : Nat) (own : Nat → Prop) (w w' : World) : Prop where
  os : w'.os = w.os
  tape : w'.tape = w.tape
  output : w'.output = w.output
  size : w.heap.size ≤ w'.heap.size
  block : ∀ k, k < w.heap.size → k ≠ b → ¬ own k → w'.heap[k]? = w.heap[k]?

/-- What was owned, and what was made since. -/
def since (own : Nat → Prop) (w : World) : Nat → Prop := fun k => own k ∨ w.heap.size ≤ k

theorem Kept.refl (b : Nat) (own : Nat → Prop) (w : World) : Kept b own w w := ⟨rfl, rfl, rfl, Nat.le_refl _, fun _ _ _ _ => rfl⟩

theorem Kept.trans {b : Nat} {own own' : Nat → Prop} {a w w' : World} (h : Kept b own a w) (k : Kept b own' w w') (ho : ∀ k, k < a.heap.size → own' k → own k) : Kept b own a w' :=
  ⟨k.os.trans h.os, k.tape.trans h.tape, k.output.trans h.output, Nat.le_trans h.size k.size, fun i hi hb hn => (k.block i (Nat.lt_of_lt_of_le hi h.size) hb (fun e => hn (ho i hi e))).trans (h.block i hi hb hn)⟩

theorem Kept.drew {b : Nat} {own : Nat → Prop} {a w : World} (h : Kept b own a w) : Kept b own a w.drew := ⟨h.os, h.tape, h.output, h.size, h.block⟩

theorem Kept.setCell {b : Nat} {own : Nat → Prop} {a w : World} (h : Kept b own a w) (p : Addr) (hp : p.block = b ∨ own p.block ∨ a.heap.size ≤ p.block) (u : Value) : Kept b own a (w.setCell p u) :=
  ⟨h.os, h.tape, h.output, by simpa [World.setCell] using h.size, fun k hk hb hn => by
    rw [Below.heap_setCell _ _ _ _ (by rintro rfl; rcases hp with e | e | e; exact hb e; exact hn e; omega)]
    exact h.block k hk hb hn⟩

theorem Kept.alloc {b : Nat} {own : Nat → Prop} {a w : World} (h : Kept b own a w) (o : Obj) : Kept b own a (w.alloc o) :=
  ⟨h.os, h.tape, h.output, by have := h.size; simp; omega, fun k hk hb hn => by
    rw [Below.heap_alloc _ _ _ (Nat.lt_of_lt_of_le hk h.size)]
    exact h.block k hk hb hn⟩

theorem Kept.grown {b : Nat} {own : Nat → Prop} {a w w' : World} {row : Option Nat} (h : Kept b own a w) (hg : w.grownBy w' row) (hr : ∀ k, row = some k → k = b ∨ own k ∨ a.heap.size ≤ k) : Kept b own a w' :=
  ⟨hg.os.trans h.os, hg.tape.trans h.tape, hg.output.trans h.output, Nat.le_trans h.size hg.size, fun k hk hb hn => by
    rw [hg.block k (Nat.lt_of_lt_of_le hk h.size) (fun e => by rcases hr k e.symm with q | q | q; exact hb q; exact hn q; omega)]
    exact h.block k hk hb hn⟩

theorem Kept.below {b B : Nat} {own : Nat → Prop} {w w' : World} (h : Kept b own w w') (hb : B ≤ b) (ho : ∀ k, own k → B ≤ k) (hB : B ≤ w.heap.size) : Below B w w' :=
  ⟨h.os, h.tape, h.output, h.size, fun k hk => h.block k (by omega) (by omega) (fun e => by have := ho k e; omega)⟩

theorem Kept.ofBelow {b : Nat} {own : Nat → Prop} {w w' : World} (h : Below w.heap.size w w') : Kept b own w w' := ⟨h.os, h.tape, h.output, h.size, fun k hk _ _ => h.block k hk⟩

/-- f, but x at i. -/
def upd {α : Type} (f : Nat → α) (i : Nat) (x : α) : Nat → α := fun j => if j = i then x else f j
theorem upd_same {α : Type} (f : Nat → α) (i : Nat) (x : α) : upd f i x i = x := by simp [upd]
theorem upd_other {α : Type} (f : Nat → α) {i j : Nat} (x : α) (h : j ≠ i) : upd f i x j = f j := by simp [upd, h]
theorem upd_self {α : Type} (f : Nat → α) (i : Nat) : upd f i (f i) = f := by funext j; unfold upd; split <;> simp_all

/-- How many bytes the first n files have. -/
def totTo (A : Nat → List UInt8) : Nat → Nat
  | 0 => 0
  | n + 1 => totTo A n + (A n).length
def tot (A : Nat → List UInt8) : Nat := totTo A 256
theorem totTo_out (A : Nat → List UInt8) (i : Nat) (l : List UInt8) : ∀ n, n ≤ i → totTo (upd A i l) n = totTo A n
  | 0, _ => rfl
  | n + 1, h => by rw [totTo, totTo, totTo_out A i l n (by omega), upd_other A l (by omega)]
theorem totTo_upd (A : Nat → List UInt8) (i : Nat) (l : List UInt8) : ∀ n, i < n → totTo (upd A i l) n + (A i).length = totTo A n + l.length
  | 0, h => by omega
  | n + 1, h => by
    rw [totTo, totTo]
    by_cases e : i = n
    · subst e
      rw [totTo_out A i l i (Nat.le_refl _), upd_same]
      omega
    · have := totTo_upd A i l n (by omega)
      rw [upd_other A l (by omega : n ≠ i)]
      omega
theorem tot_upd (A : Nat → List UInt8) {i : Nat} (h : i < 256) (l : List UInt8) : tot (upd A i l) + (A i).length = tot A + l.length := totTo_upd A i l 256 h
theorem le_totTo (A : Nat → List UInt8) (i : Nat) : ∀ n, i < n → (A i).length ≤ totTo A n
  | 0, h => by omega
  | n + 1, h => by
    rw [totTo]
    by_cases e : i = n
    · subst e; omega
    · have := le_totTo A i n (by omega); omega
theorem le_tot (A : Nat → List UInt8) {i : Nat} (h : i < 256) : (A i).length ≤ tot A := le_totTo A i 256 h

/-- Block b holds a disk of so much room: file i has the bytes A i, S i of them sure; its rows are owned. -/
structure DkV (w : World) (b room : Nat) (A : Nat → List UInt8) (S : Nat → Nat) (own : Nat → Prop) (V : Nat → Value) : Prop where
  lt : b < w.heap.size
  roomC : w.cell? ⟨b, 0, none⟩ = some (.int .i64 (room : Int))
  used : w.cell? ⟨b, 1, none⟩ = some (.int .i64 (tot A : Int))
  froz : ∀ o, o < 514 → w.frozen? ⟨b, o, none⟩ = false
  bytes : ∀ i, i < 256 → w.cell? ⟨b, 2 + i * 2, none⟩ = some (V i)
  sure : ∀ i, i < 256 → w.cell? ⟨b, 2 + i * 2 + 1, none⟩ = some (.int .i64 (S i : Int))
  row : ∀ i, i < 256 → OwnB w (b + 1) 5 (V i) (A i)
  apart : ∀ i j, i < 256 → j < 256 → i ≠ j → ∀ k, (V i).ownBlock = some k → (V j).ownBlock = some k → False
  mine : ∀ i, i < 256 → ∀ k, (V i).ownBlock = some k → own k
  leSure : ∀ i, i < 256 → S i ≤ (A i).length
  fits : tot A ≤ room
  big : 1 ≤ room ∧ room ≤ 16777216

def Dk (w : World) (b room : Nat) (A : Nat → List UInt8) (S : Nat → Nat) (own : Nat → Prop) : Prop := ∃ V, DkV w b room A S own V

theorem OwnB.carry {w w' : World} {base : Nat} {u8 : TypeId} {v : Value} {l : List UInt8} (h : OwnB w base u8 v l) (hk : ∀ k, v.ownBlock = some k → w'.heap[k]? = w.heap[k]?) : OwnB w' base u8 v l := by
  obtain ⟨h1, h2 | ⟨g, cap, cur, hv, hg, hh, r⟩⟩ := h
  · exact ⟨h1, .inl h2⟩
  · exact ⟨h1, .inr ⟨g, cap, cur, hv, hg, by rw [hk g (by rw [hv]; rfl)]; exact hh, r⟩⟩
theorem OwnB.block {w : World} {base : Nat} {u8 : TypeId} {v : Value} {l : List UInt8} (h : OwnB w base u8 v l) {k : Nat} (hk : v.ownBlock = some k) : base ≤ k ∧ k < w.heap.size := World.ownsRow.lt h k hk

/-- File i has been turned: its row lies in v' now; of block b the cells of file i and the number of all bytes. -/
theorem DkV.put {w w1 w' : World} {b room : Nat} {A : Nat → List UInt8} {S : Nat → Nat} {own : Nat → Prop} {V : Nat → Value} (h : DkV w b room A S own V) {i : Nat} (hi : i < 256)
    {v' : Value} {l' : List UInt8} {s' : Nat} (hg : w.grownBy w1 (V i).ownBlock) (hrow : OwnB w1 (b + 1) 5 v' l')
    (hown : ∀ k, v'.ownBlock = some k → (V i).ownBlock = some k ∨ w.heap.size ≤ k) (hg' : w1.grownBy w' (some b))
    (hs : s' ≤ l'.length) (hfit : tot (upd A i l') ≤ room)
    (hc : ∀ o, o < 514 → w'.cell? ⟨b, o, none⟩ = if o = 1 then some (.int .i64 (tot (upd A i l') : Int)) else if o = 2 + i * 2 then some v' else if o = 2 + i * 2 + 1 then some (.int .i64 (s' : Int)) else w.cell? ⟨b, o, none⟩)
    (hf : ∀ o, o < 514 → w'.frozen? ⟨b, o, none⟩ = false) :
    DkV w' b room (upd A i l') (upd S i s') (since own w) (upd V i v') := by
  have hbl := h.lt
  have hlt : ∀ j, j < 256 → ∀ k, (V j).ownBlock = some k → b < k ∧ k < w.heap.size := fun j hj k hk => by have := (h.row j hj).block hk; omega
  refine ⟨?_, ?_, ?_, hf, ?_, ?_, ?_, ?_, ?_, ?_, hfit, h.big⟩
  · have := hg.size; have := hg'.size; omega
  · rw [hc 0 (by omega), if_neg (by omega), if_neg (by omega), if_neg (by omega)]; exact h.roomC
  · rw [hc 1 (by omega), if_pos rfl]
  · intro j hj
    rw [hc _ (by omega), if_neg (by omega)]
    by_cases e : j = i
    · subst e; rw [if_pos rfl, upd_same]
    · rw [if_neg (by omega), if_neg (by omega), upd_other V v' e]; exact h.bytes j hj
  · intro j hj
    rw [hc _ (by omega), if_neg (by omega), if_neg (by omega)]
    by_cases e : j = i
    · subst e; rw [if_pos rfl, upd_same]
    · rw [if_neg (by omega), upd_other S s' e]; exact h.sure j hj
  · intro j hj
    by_cases e : j = i
    · subst e
      rw [upd_same, upd_same]
      refine hrow.carry fun k hk => hg'.block k (hrow.block hk).2 ?_
      have := (hrow.block hk).1
      intro q; injection q; omega
    · rw [upd_other A l' e, upd_other V v' e]
      refine (h.row j hj).carry fun k hk => ?_
      have hk2 := hlt j hj k hk
      rw [hg'.block k (Nat.lt_of_lt_of_le hk2.2 hg.size) (by intro q; injection q; omega)]
      exact hg.block k hk2.2 (fun q => h.apart j i hj hi e k hk q.symm)
  · have hx : ∀ j, j < 256 → j ≠ i → ∀ k, (V j).ownBlock = some k → v'.ownBlock = some k → False := by
      intro j hj e k hk hk'
      rcases hown k hk' with q | q
      · exact h.apart j i hj hi e k hk q
      · have := hlt j hj k hk; omega
    intro j j' hj hj' e k hk hk'
    by_cases e1 : j = i
    · subst e1
      rw [upd_same] at hk
      rw [upd_other V v' (fun q => e q.symm)] at hk'
      exact hx j' hj' (fun q => e q.symm) k hk' hk
    · rw [upd_other V v' e1] at hk
      by_cases e2 : j' = i
      · subst e2
        rw [upd_same] at hk'
        exact hx j hj e1 k hk hk'
      · rw [upd_other V v' e2] at hk'
        exact h.apart j j' hj hj' e k hk hk'
  · intro j hj k hk
    by_cases e : j = i
    · subst e
      rw [upd_same] at hk
      rcases hown k hk with q | q
      · exact .inl (h.mine j hj k q)
      · exact .inr q
    · rw [upd_other V v' e] at hk
      exact .inl (h.mine j hj k hk)
  · intro j hj
    by_cases e : j = i
    · subst e; rw [upd_same, upd_same]; exact hs
    · rw [upd_other A l' e, upd_other S s' e]; exact h.leSure j hj

/-- A world in which the disk's own blocks are as they were. -/
theorem DkV.carry {w w' : World} {b room : Nat} {A : Nat → List UInt8} {S : Nat → Nat} {own : Nat → Prop} {V : Nat → Value} (h : DkV w b room A S own V)
    (hs : w.heap.size ≤ w'.heap.size) (hb : w'.heap[b]? = w.heap[b]?) (ho : ∀ k, k < w.heap.size → own k → w'.heap[k]? = w.heap[k]?) : DkV w' b room A S own V := by
  have hc : ∀ o, w'.cell? ⟨b, o, none⟩ = w.cell? ⟨b, o, none⟩ := fun o => World.cell?_of_block (a := ⟨b, o, none⟩) hb
  have hf : ∀ o, w'.frozen? ⟨b, o, none⟩ = w.frozen? ⟨b, o, none⟩ := fun o => World.frozen?_of_block (a := ⟨b, o, none⟩) hb
  refine ⟨Nat.lt_of_lt_of_le h.lt hs, by rw [hc]; exact h.roomC, by rw [hc]; exact h.used, fun o q => by rw [hf]; exact h.froz o q, fun i q => by rw [hc]; exact h.bytes i q, fun i q => by rw [hc]; exact h.sure i q, ?_, h.apart, h.mine, h.leSure, h.fits, h.big⟩
  intro i hi
  refine (h.row i hi).carry fun k hk => ho k ((h.row i hi).block hk).2 (h.mine i hi k hk)

theorem Dk.carry {w w' : World} {b room : Nat} {A : Nat → List UInt8} {S : Nat → Nat} {own : Nat → Prop} (h : Dk w b room A S own)
    (hs : w.heap.size ≤ w'.heap.size) (hb : w'.heap[b]? = w.heap[b]?) (ho : ∀ k, k < w.heap.size → own k → w'.heap[k]? = w.heap[k]?) : Dk w' b room A S own := by
  obtain ⟨V, h⟩ := h
  exact ⟨V, h.carry hs hb ho⟩

theorem Dk.lt {w : World} {b room : Nat} {A : Nat → List UInt8} {S : Nat → Nat} {own : Nat → Prop} (h : Dk w b room A S own) : b < w.heap.size := by
  obtain ⟨V, h⟩ := h
  exact h.lt
theorem Dk.below {w w' : World} {b room : Nat} {A : Nat → List UInt8} {S : Nat → Nat} {own : Nat → Prop} (h : Dk w b room A S own) (hb : Below w.heap.size w w') : Dk w' b room A S own :=
  h.carry hb.size (hb.block b h.lt) (fun k hk _ => hb.block k hk)
theorem Dk.alloc {w : World} {b room : Nat} {A : Nat → List UInt8} {S : Nat → Nat} {own : Nat → Prop} (h : Dk w b room A S own) (o : Obj) : Dk (w.alloc o) b room A S own :=
  h.below ((Below.refl _ _).alloc (Nat.le_refl _) o)
theorem Dk.drew {w : World} {b room : Nat} {A : Nat → List UInt8} {S : Nat → Nat} {own : Nat → Prop} (h : Dk w b room A S own) : Dk w.drew b room A S own :=
  h.below (Below.refl _ _).drew
theorem Dk.setCell {w : World} {b room : Nat} {A : Nat → List UInt8} {S : Nat → Nat} {own : Nat → Prop} (h : Dk w b room A S own) (p : Addr) (u : Value) (hb : p.block ≠ b) (ho : ¬ own p.block) : Dk (w.setCell p u) b room A S own :=
  h.carry (by simp [World.setCell]) (Below.heap_setCell _ _ _ _ (fun e => hb e.symm)) (fun _ _ hk => Below.heap_setCell _ _ _ _ (fun e => ho (e ▸ hk)))
theorem Dk.wider {w : World} {b room : Nat} {A : Nat → List UInt8} {S : Nat → Nat} {own own' : Nat → Prop} (h : Dk w b room A S own) (ho : ∀ k, k < w.heap.size → own k → own' k) : Dk w b room A S own' := by
  obtain ⟨V, h⟩ := h
  exact ⟨V, ⟨h.lt, h.roomC, h.used, h.froz, h.bytes, h.sure, h.row, h.apart, fun i hi k hk => ho k ((h.row i hi).block hk).2 (h.mine i hi k hk), h.leSure, h.fits, h.big⟩⟩

theorem cell_set {w : World} {b o p : Nat} (v : Value) {u : Value} (h : w.cell? ⟨b, o, none⟩ = some u) : (w.setCell ⟨b, o, none⟩ v).cell? ⟨b, p, none⟩ = if p = o then some v else w.cell? ⟨b, p, none⟩ := by
  by_cases e : p = o
  · subst e; rw [if_pos rfl]; exact World.cell?_setCell_same _ _ _ h
  · rw [if_neg e]; exact World.cell?_setCell_other _ _ _ _ (by intro q; injection q; omega)
theorem cell_some {w : World} {b o p : Nat} {v x : Value} (h : w.cell? ⟨b, o, none⟩ = some v) (u : Value) (hx : w.cell? ⟨b, p, none⟩ = some x) : ∃ y, (w.setCell ⟨b, o, none⟩ u).cell? ⟨b, p, none⟩ = some y := by
  rw [cell_set u h]
  split
  · exact ⟨_, rfl⟩
  · exact ⟨_, hx⟩
theorem grown_set (w : World) (b o : Nat) (v : Value) : w.grownBy (w.setCell ⟨b, o, none⟩ v) (some b) :=
  ⟨rfl, rfl, rfl, by simp [World.setCell], fun k _ hk => Below.heap_setCell _ _ _ _ (fun e => hk (by rw [e]))⟩
theorem grown_trans {w w1 w2 : World} {row : Option Nat} (h : w.grownBy w1 row) (k : w1.grownBy w2 row) : w.grownBy w2 row :=
  ⟨k.os.trans h.os, k.tape.trans h.tape, k.output.trans h.output, Nat.le_trans h.size k.size, fun i hi hn => (k.block i (Nat.lt_of_lt_of_le hi h.size) hn).trans (h.block i hi hn)⟩
theorem grown_refl (w : World) (row : Option Nat) : w.grownBy w row := ⟨rfl, rfl, rfl, Nat.le_refl _, fun _ _ _ => rfl⟩
theorem grown_drew {w w1 : World} {row : Option Nat} (h : w.drew.grownBy w1 row) : w.grownBy w1 row := ⟨h.os, h.tape, h.output, h.size, h.block⟩
theorem grown_drew' {w w1 : World} {row : Option Nat} (h : w.grownBy w1 row) : w.grownBy w1.drew row := ⟨h.os, h.tape, h.output, h.size, h.block⟩

/-- What a file's turning leaves of the rest. -/
theorem DkV.keeps {w w1 w' : World} {b room : Nat} {A : Nat → List UInt8} {S : Nat → Nat} {own : Nat → Prop} {V : Nat → Value} (h : DkV w b room A S own V) {i : Nat} (hi : i < 256)
    (hg : w.grownBy w1 (V i).ownBlock) (hg' : w1.grownBy w' (some b)) : Kept b own w w' :=
  ((Kept.refl b own w).grown hg (fun k hk => .inr (.inl (h.mine i hi k hk)))).grown hg' (fun k hk => .inl (by injection hk with e; exact e.symm))

end Go.Proofs.Ytpfnkjfbhcffiaa
