/-
  A map beside the document's map: the document's variable is written over; a map of bytes takes the map's place.
-/
import Derived.Test.YtmdnegjpdedcnabSlPl
import Derived.Test.YtmdnegjpdedcnabSlCut
namespace Go.Proofs.Ytmdnegjpdedcnab
open Go.RowKit

theorem Pl.over {w X Y : World} {B bq : Nat} {s s2 : Sl.St} {vo ve vo' ve' : Value} (h : Pb w B bq bq s2 s vo ve X) (hr : Rm Y vo' ve' s2) (hb : Below X.heap.size X Y) (ho : ∀ q, aBlk vo' = some q → aBlk vo = some q ∨ X.heap.size ≤ q) (he : ∀ q, aBlk ve' = some q → aBlk ve = some q ∨ X.heap.size ≤ q) : Pl w B bq s2 vo' ve' (fin2 Y bq vo' ve') := by
  have hY := h.below hb
  have hB := h.sn.sm.lt
  have hq := h.qlt
  obtain ⟨e0, e1⟩ := fin2_cells hY.c0 hY.c1 vo' ve'
  have hs : Y.heap.size ≤ (fin2 Y bq vo' ve').heap.size := by unfold fin2; rw [size_set6, size_set6]; exact Nat.le_refl _
  have so : ∀ q, aBlk vo' = some q → q ≠ B ∧ q ≠ bq := fun q hq' => by
    rcases ho q hq' with e | e
    · exact h.so q e
    · omega
  have se : ∀ q, aBlk ve' = some q → q ≠ B ∧ q ≠ bq := fun q hq' => by
    rcases he q hq' with e | e
    · exact h.se q e
    · omega
  refine ⟨⟨hY.sn.sm.carry hs (fin2_other (fun e => h.qne e.symm) _ _), fin2_below hY.sn.old h.qnew _ _, hY.sn.new⟩, h.qnew, h.qne, ⟨_, e0⟩, ⟨_, e1⟩, fun j => by unfold fin2; rw [World.frozen?_setCell, World.frozen?_setCell]; exact hY.qf j, h.qne, Nat.lt_of_lt_of_le hY.qlt hs, e0, e1, ?_, so, se⟩
  exact hr.carry hs (fun q hq => fin2_other (so q hq).2 _ _) (fun q hq => fin2_other (se q hq).2 _ _)

theorem rGive_over {w X : World} {B bq : Nat} {s : Sl.St} {vo ve : Value} {x y : Int} (h : Pb w B bq bq (Sl.give s x y) s vo ve X) (hk : Sl.Ok s) : Calls Try.prog 11 #[.agg #[vo, ve], .int .i64 x, .int .i64 y] X.drew fun e Y => ∃ a1 b1 d1 a2 b2 d2, e = .returned (.tuple #[.agg #[.slice (some ⟨a1, b1, none⟩) 16 d1, .slice (some ⟨a2, b2, none⟩) 16 d2], .int .i64 (Sl.giveE s x y : Int)]) ∧ Below X.heap.size X Y ∧ Y.cell? ⟨bq, 0, none⟩ = some vo ∧ Y.cell? ⟨bq, 1, none⟩ = some ve ∧ Y.frozen? ⟨bq, 0, none⟩ = false ∧ Y.frozen? ⟨bq, 1, none⟩ = false ∧
    Hid (Pl w B bq (Sl.give s x y) (.slice (some ⟨a1, b1, none⟩) 16 d1) (.slice (some ⟨a2, b2, none⟩) 16 d2) ((Y.setCell ⟨bq, 0, none⟩ (.slice (some ⟨a1, b1, none⟩) 16 d1)).setCell ⟨bq, 1, none⟩ (.slice (some ⟨a2, b2, none⟩) 16 d2))) := by
  have hd := h.below (below_drew X)
  refine (rGiveS_c hd.rm hk x y).mono ?_
  rintro e Y ⟨vo', ve', rfl, h1, h2, h3, h4⟩
  obtain ⟨a1, b1, d1, a2, b2, d2, e1, e2⟩ := h1.shapes
  have hp := Pl.over hd h1 h2 h3 h4
  have hY := hd.below h2
  unfold fin2 at hp
  rw [e1, e2] at hp ⊢
  exact ⟨a1, b1, d1, a2, b2, d2, rfl, (below_drew X).trans h2, hY.c0, hY.c1, hY.qf 0, hY.qf 1, hp⟩

theorem Sm.same {w : World} {B : Nat} {s s' : Sl.St} (h : Sm w B s') (he : ∀ i, i < 16 → s'.O i = s.O i ∧ s'.E i = s.E i) (hk : Sl.Ok s) : Sm w B s :=
  ⟨h.lt, fun i hi => by rw [← (he i hi).1]; exact h.o i hi, fun i hi => by rw [← (he i hi).2]; exact h.e i hi, h.f, hk⟩

/-- Another map of the same state takes the map's place. -/
theorem Pl.other {w X Y : World} {B B2 bq : Nat} {s : Sl.St} {vo ve : Value} (h : Pl w B bq s vo ve X) (hb : Below X.heap.size X Y) (hs : Sm Y B2 s) (h2 : X.heap.size ≤ B2) : Pl w B2 bq s vo ve Y := by
  have hY := Pb.below h hb
  have hq := Pb.qlt h
  have hW := h.sn.old.size
  refine ⟨⟨hs, hY.sn.old, by omega⟩, hY.qnew, by omega, hY.q0, hY.q1, hY.qf, by omega, hY.nlt, hY.c0, hY.c1, hY.rm, fun q hq' => ⟨?_, (hY.so q hq').2⟩, fun q hq' => ⟨?_, (hY.se q hq').2⟩⟩
  · have := h.rm.o.lt hq'; omega
  · have := h.rm.e.lt hq'; omega

/-- Bytes, and back. -/
theorem From_back {w X : World} {B bq : Nat} {s : Sl.St} {vo ve : Value} (h : Pl w B bq s vo ve X) : Calls Try.prog 13 #[.string ⟨(Sl.bytesTo s 16).toArray⟩] X fun e Y => ∃ B2, e = .returned (.tuple #[.pointer (some ⟨B2, 0, none⟩), .int .i64 0]) ∧ Pl w B2 bq s vo ve Y := by
  have hk := h.sn.sm.ok
  obtain ⟨s', hf, he⟩ := Sl.frm_bytes hk
  have hl := bytesTo_len hk 16 (by omega)
  refine (FromS_c ⟨(Sl.bytesTo s 16).toArray⟩ (by show (Sl.bytesTo s 16).toArray.size ≤ _; rw [List.size_toArray]; omega) X).mono ?_
  rintro e Y ⟨hb, hm⟩
  have hf' : Sl.frm (⟨(Sl.bytesTo s 16).toArray⟩ : ByteArray).data.toList = some s' := hf
  rw [hf'] at hm
  obtain ⟨B2, rfl, hn⟩ := hm
  exact ⟨B2, rfl, h.other hb (hn.sm.same he hk) hn.new⟩

end Go.Proofs.Ytmdnegjpdedcnab
