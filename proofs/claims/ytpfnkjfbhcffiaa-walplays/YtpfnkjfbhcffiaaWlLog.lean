/-
  A log in memory: its block, the map of kinds, its groups, its disk; what of the world stays as it was while it is used.
-/
import Derived.Test.YtpfnkjfbhcffiaaWlDo2
import Derived.Test.YtpfnkjfbhcffiaaWlBase
import Derived.Test.YtpfnkjfbhcffiaaWlKind
namespace Go.Proofs.Ytpfnkjfbhcffiaa
open Go.RowKit

/-- What is not owned is as it was. -/
structure KeptS (own : Nat → Prop) (w w' : World) : Prop where
  os : w'.os = w.os
  tape : w'.tape = w.tape
  output : w'.output = w.output
  size : w.heap.size ≤ w'.heap.size
  block : ∀ k, k < w.heap.size → ¬ own k → w'.heap[k]? = w.heap[k]?

theorem KeptS.refl (own : Nat → Prop) (w : World) : KeptS own w w := ⟨rfl, rfl, rfl, Nat.le_refl _, fun _ _ _ => rfl⟩
theorem KeptS.trans {own own' : Nat → Prop} {a w w' : World} (h : KeptS own a w) (k : KeptS own' w w') (ho : ∀ k, k < a.heap.size → own' k → own k) : KeptS own a w' :=
  ⟨k.os.trans h.os, k.tape.trans h.tape, k.output.trans h.output, Nat.le_trans h.size k.size, fun i hi hn => (k.block i (Nat.lt_of_lt_of_le hi h.size) (fun e => hn (ho i hi e))).trans (h.block i hi hn)⟩
theorem KeptS.ofBelow {own : Nat → Prop} {w w' : World} (h : Below w.heap.size w w') : KeptS own w w' := ⟨h.os, h.tape, h.output, h.size, fun k hk _ => h.block k hk⟩
theorem KeptS.ofKept {own dk : Nat → Prop} {b : Nat} {w w' : World} (h : Kept b dk w w') (hb : own b) (hd : ∀ k, dk k → own k) : KeptS own w w' :=
  ⟨h.os, h.tape, h.output, h.size, fun k hk hn => h.block k hk (fun e => hn (e ▸ hb)) (fun e => hn (hd k e))⟩
theorem KeptS.drewN {own : Nat → Prop} {w w' : World} (h : KeptS own w w') (n : Nat) : KeptS own w (w'.drewN n) := ⟨h.os, h.tape, h.output, h.size, h.block⟩
theorem KeptS.drew {own : Nat → Prop} {w w' : World} (h : KeptS own w w') : KeptS own w w'.drew := ⟨h.os, h.tape, h.output, h.size, h.block⟩
theorem KeptS.below {own : Nat → Prop} {B : Nat} {w w' : World} (h : KeptS own w w') (ho : ∀ k, own k → B ≤ k) (hB : B ≤ w.heap.size) : Below B w w' :=
  ⟨h.os, h.tape, h.output, h.size, fun k hk => h.block k (by omega) (fun e => by have := ho k e; omega)⟩
theorem KeptS.setCell {own : Nat → Prop} {a w : World} (h : KeptS own a w) (p : Addr) (hp : own p.block) (u : Value) : KeptS own a (w.setCell p u) :=
  ⟨h.os, h.tape, h.output, by rw [size_set]; exact h.size, fun k hk hn => by
    rw [Below.heap_setCell _ _ _ _ (by rintro rfl; exact hn hp)]
    exact h.block k hk hn⟩

theorem KeptS.mono' {own own' : Nat → Prop} {w w' : World} (h : KeptS own w w') (ho : ∀ k, own k → own' k) : KeptS own' w w' := ⟨h.os, h.tape, h.output, h.size, fun k hk hn => h.block k hk (fun e => hn (ho k e))⟩

/-- What was owned, and what was made since. -/
def sinceS (own : Nat → Prop) (w w' : World) : Nat → Prop := fun k => own k ∨ (w.heap.size ≤ k ∧ k < w'.heap.size)

/-- The state of a log, as plain mathematics: its files' bytes, how many are sure; what is saved of each group; how many segments; which turn. -/
structure St where
  A : Nat → List UInt8
  S : Nat → Nat
  gs : Nat → W.Sv
  n : Nat
  turn : Nat

/-- Where a log lies: its block, its disk's, the map's; its limit; the disk's room. -/
structure Pl where
  L : Nat
  b : Nat
  K : Nat
  limit : Nat
  room : Nat

theorem Dk.tighter' {w : World} {b room : Nat} {A : Nat → List UInt8} {S : Nat → Nat} {own : Nat → Prop} (h : Dk w b room A S own) : Dk w b room A S (fun k => own k ∧ k < w.heap.size) := by
  obtain ⟨V, h⟩ := h
  exact ⟨V, ⟨h.lt, h.roomC, h.used, h.froz, h.bytes, h.sure, h.row, h.apart, fun i hi k hk => ⟨h.mine i hi k hk, ((h.row i hi).block hk).2⟩, h.leSure, h.fits, h.big⟩⟩

structure LgV (w : World) (p : Pl) (s : St) (own dk : Nat → Prop) (E : Nat → Value) : Prop where
  lt : p.L < w.heap.size
  c0 : w.cell? ⟨p.L, 0, none⟩ = some (.pointer (some ⟨p.b, 0, none⟩))
  c1 : w.cell? ⟨p.L, 1, none⟩ = some (.int .i64 (p.limit : Int))
  c2 : w.cell? ⟨p.L, 2, none⟩ = some (.map (some p.K))
  kmap : w.heap[p.K]? = some kindMap
  sv : ∀ i, i < 9 → SvC w p.L (3 + i * 6) (s.gs i) (E i)
  cn : w.cell? ⟨p.L, 57, none⟩ = some (.int .i64 (s.n : Int))
  ct : w.cell? ⟨p.L, 58, none⟩ = some (.int .i64 (s.turn : Int))
  fn : w.frozen? ⟨p.L, 57, none⟩ = false
  ft : w.frozen? ⟨p.L, 58, none⟩ = false
  ent : ∀ i, i < 9 → EntV w (E i) (s.gs i).ents
  blk : ∀ i, i < 9 → ∀ k, rowBlk (E i) = some k → own k ∧ k ≠ p.L ∧ k ≠ p.b ∧ k ≠ p.K ∧ ¬ dk k
  apart : ∀ i j, i < 9 → j < 9 → i ≠ j → ∀ k, rowBlk (E i) = some k → rowBlk (E j) = some k → False
  disk : Dk w p.b p.room s.A s.S dk
  oL : own p.L
  ob : own p.b
  oK : own p.K
  od : ∀ k, dk k → own k
  dL : ¬ dk p.L
  dK : ¬ dk p.K
  Lb : p.L ≠ p.b
  LK : p.L ≠ p.K
  Kb : p.K ≠ p.b
  here : ∀ k, own k → k < w.heap.size
  ok : ∀ i, W.Ok (s.gs i)
  nn : s.n ≤ 200
  tt : s.turn ≤ 1
  lim : 1 ≤ p.limit ∧ p.limit ≤ 16777216

def Lg (w : World) (p : Pl) (s : St) (own : Nat → Prop) : Prop := ∃ dk E, LgV w p s own dk E

theorem LgV.carry {w w' : World} {p : Pl} {s : St} {own dk : Nat → Prop} {E : Nat → Value} (h : LgV w p s own dk E) (hs : w.heap.size ≤ w'.heap.size) (ho : ∀ k, own k → w'.heap[k]? = w.heap[k]?) : LgV w' p s own dk E := by
  have hL := ho p.L h.oL
  have hc : ∀ o, w'.cell? ⟨p.L, o, none⟩ = w.cell? ⟨p.L, o, none⟩ := fun o => World.cell?_of_block (a := ⟨p.L, o, none⟩) hL
  have hf : ∀ o, w'.frozen? ⟨p.L, o, none⟩ = w.frozen? ⟨p.L, o, none⟩ := fun o => World.frozen?_of_block (a := ⟨p.L, o, none⟩) hL
  exact ⟨Nat.lt_of_lt_of_le h.lt hs, by rw [hc]; exact h.c0, by rw [hc]; exact h.c1, by rw [hc]; exact h.c2, by rw [ho _ h.oK]; exact h.kmap, fun i hi => (h.sv i hi).carry hL, by rw [hc]; exact h.cn, by rw [hc]; exact h.ct, by rw [hf]; exact h.fn, by rw [hf]; exact h.ft,
    fun i hi => RowV.carry (h.ent i hi) (fun k hk => ho k (h.blk i hi k hk).1), h.blk, h.apart, h.disk.carry hs (ho _ h.ob) (fun k _ hk => ho k (h.od k hk)), h.oL, h.ob, h.oK, h.od, h.dL, h.dK, h.Lb, h.LK, h.Kb, fun k hk => Nat.lt_of_lt_of_le (h.here k hk) hs, h.ok, h.nn, h.tt, h.lim⟩

theorem Lg.carry {w w' : World} {p : Pl} {s : St} {own : Nat → Prop} (h : Lg w p s own) (hs : w.heap.size ≤ w'.heap.size) (ho : ∀ k, own k → w'.heap[k]? = w.heap[k]?) : Lg w' p s own := by
  obtain ⟨dk, E, h⟩ := h
  exact ⟨dk, E, h.carry hs ho⟩
theorem Lg.here {w : World} {p : Pl} {s : St} {own : Nat → Prop} (h : Lg w p s own) : ∀ k, own k → k < w.heap.size := by
  obtain ⟨dk, E, h⟩ := h
  exact h.here
theorem Lg.below {w w' : World} {p : Pl} {s : St} {own : Nat → Prop} (h : Lg w p s own) (hb : Below w.heap.size w w') : Lg w' p s own := h.carry hb.size (fun k hk => hb.block k (h.here k hk))
theorem Lg.old {w w' : World} {p : Pl} {s : St} {own : Nat → Prop} (h : Lg w p s own) (hs : w.heap.size ≤ w'.heap.size) (ho : Old w w') : Lg w' p s own := h.carry hs (fun k hk => ho k (h.here k hk))
theorem LgV.below {w w' : World} {p : Pl} {s : St} {own dk : Nat → Prop} {E : Nat → Value} (h : LgV w p s own dk E) (hb : Below w.heap.size w w') : LgV w' p s own dk E := h.carry hb.size (fun k hk => hb.block k (h.here k hk))

/-- A wider claim. -/
theorem Lg.wider {w : World} {p : Pl} {s : St} {own own' : Nat → Prop} (h : Lg w p s own) (ho : ∀ k, own k → own' k) (hh : ∀ k, own' k → k < w.heap.size) : Lg w p s own' := by
  obtain ⟨dk, E, h⟩ := h
  exact ⟨dk, E, h.lt, h.c0, h.c1, h.c2, h.kmap, h.sv, h.cn, h.ct, h.fn, h.ft, h.ent, fun i hi k hk => ⟨ho k (h.blk i hi k hk).1, (h.blk i hi k hk).2⟩, h.apart, h.disk, ho _ h.oL, ho _ h.ob, ho _ h.oK, fun k hk => ho k (h.od k hk), h.dL, h.dK, h.Lb, h.LK, h.Kb, hh, h.ok, h.nn, h.tt, h.lim⟩

/-- The disk has turned. -/
theorem LgV.disked {w w' : World} {p : Pl} {s : St} {own dk : Nat → Prop} {E : Nat → Value} (h : LgV w p s own dk E) {A' : Nat → List UInt8} {S' : Nat → Nat} (hd : Dk w' p.b p.room A' S' (since dk w)) (hk : Kept p.b dk w w') :
    LgV w' p { s with A := A', S := S' } (sinceS own w w') (fun k => since dk w k ∧ k < w'.heap.size) E ∧ KeptS own w w' := by
  have hK : KeptS own w w' := KeptS.ofKept hk h.ob h.od
  have hnd : ∀ k, k < w.heap.size → ¬ dk k → ¬ since dk w k := fun k hk hn e => by rcases e with e | e; exact hn e; omega
  have hL : w'.heap[p.L]? = w.heap[p.L]? := hk.block _ h.lt h.Lb h.dL
  have hKm : w'.heap[p.K]? = w.heap[p.K]? := hk.block _ (h.here _ h.oK) h.Kb h.dK
  have hc : ∀ o, w'.cell? ⟨p.L, o, none⟩ = w.cell? ⟨p.L, o, none⟩ := fun o => World.cell?_of_block (a := ⟨p.L, o, none⟩) hL
  have hf : ∀ o, w'.frozen? ⟨p.L, o, none⟩ = w.frozen? ⟨p.L, o, none⟩ := fun o => World.frozen?_of_block (a := ⟨p.L, o, none⟩) hL
  refine ⟨⟨Nat.lt_of_lt_of_le h.lt hk.size, by rw [hc]; exact h.c0, by rw [hc]; exact h.c1, by rw [hc]; exact h.c2, by rw [hKm]; exact h.kmap, fun i hi => (h.sv i hi).carry hL, by rw [hc]; exact h.cn, by rw [hc]; exact h.ct, by rw [hf]; exact h.fn, by rw [hf]; exact h.ft,
    fun i hi => RowV.carry (h.ent i hi) (fun k q => hk.block k (RowV.lt (h.ent i hi) q) (h.blk i hi k q).2.2.1 (h.blk i hi k q).2.2.2.2), ?_, h.apart, hd.tighter', .inl h.oL, .inl h.ob, .inl h.oK, ?_, fun e => hnd _ h.lt h.dL e.1, fun e => hnd _ (h.here _ h.oK) h.dK e.1, h.Lb, h.LK, h.Kb, ?_, h.ok, h.nn, h.tt, h.lim⟩, hK⟩
  · intro i hi k q
    have := h.blk i hi k q
    exact ⟨.inl this.1, this.2.1, this.2.2.1, this.2.2.2.1, fun e => hnd k (RowV.lt (h.ent i hi) q) this.2.2.2.2 e.1⟩
  · intro k q
    rcases q.1 with e | e
    · exact .inl (h.od k e)
    · exact .inr ⟨e, q.2⟩
  · intro k q
    rcases q with e | e
    · exact Nat.lt_of_lt_of_le (h.here k e) hk.size
    · exact e.2

end Go.Proofs.Ytpfnkjfbhcffiaa
