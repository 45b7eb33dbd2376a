/-
  The document's Put and PutAsk.
-/
import Derived.Test.YtgkcchbignakcaaCmRw
namespace Go.Proofs.Ytgkcchbignakcaa
open Go.RowKit

set_option maxHeartbeats 4000000 in
set_option maxRecDepth 100000 in
theorem rPut_c (x : CmdD) (w : World) : Calls Try.prog 13 #[.agg x.cells.toArray] w fun e w' => e = putO ⟨#[67]⟩ (Cm.enc x.pss.flatten) ∧ Below w.heap.size w w' := by
  obtain ⟨u, hu⟩ : ∃ u, u = w.alloc (.cells x.cells.toArray 28) := ⟨_, rfl⟩
  have hus : u.heap.size = w.heap.size + 1 := by rw [hu]; simp
  have hbu : Below w.heap.size w u := by rw [hu]; exact alloc_below w _
  have hbox : u.heap[w.heap.size]? = some (.cells x.cells.toArray 28 (0, 0)) := by rw [hu]; exact heap_alloc_new _ _
  have hR : Rw u (w.heap.size + 1 + 1) 1 0 (some [67]) ((u.alloc (.cells #[.int .u8 67] 5)).alloc (.cells #[.slice (some ⟨w.heap.size + 1, 0, none⟩) 1 1, .bool false] 65)) := by
    have := Rw.fresh u 67
    rw [hus] at this
    exact this
  have hcell : ∀ (X : World), Below u.heap.size u X → ∀ (j : Nat) (v : Value), x.cells[j]? = some v → X.cell? ⟨w.heap.size, j, none⟩ = some v := fun X hX j v hj => by
    rw [hX.cell (p := ⟨w.heap.size, j, none⟩) (by show w.heap.size < _; omega), Lib.cell_of_heap hbox]
    simpa using hj
  have HF : Hid (∀ X, Below u.heap.size u X → X.cell? ⟨w.heap.size, 0, none⟩ = some (.int .i64 x.kind) ∧ X.cell? ⟨w.heap.size, 1, none⟩ = some (.int .i64 x.id.session) ∧ X.cell? ⟨w.heap.size, 2, none⟩ = some (.int .i64 x.id.seq) ∧ X.cell? ⟨w.heap.size, 12, none⟩ = some (.int .i64 x.tx) ∧ X.cell? ⟨w.heap.size, 13, none⟩ = some (.int .i64 x.plan) ∧ X.cell? ⟨w.heap.size, 14, none⟩ = some (.int .i64 x.slot) ∧ X.cell? ⟨w.heap.size, 15, none⟩ = some (.int .i64 x.epoch) ∧ X.cell? ⟨w.heap.size, 16, none⟩ = some (.int .i64 x.group) ∧ X.cell? ⟨w.heap.size, 17, none⟩ = some (.bool x.ok) ∧ X.cell? ⟨w.heap.size, 18, none⟩ = some (.int .i64 x.err) ∧ X.cell? ⟨w.heap.size, 19, none⟩ = some (.string x.data)) := fun X hX => ⟨hcell X hX 0 _ rfl, hcell X hX 1 _ rfl, hcell X hX 2 _ rfl, hcell X hX 12 _ rfl, hcell X hX 13 _ rfl, hcell X hX 14 _ rfl, hcell X hX 15 _ rfl, hcell X hX 16 _ rfl, hcell X hX 17 _ rfl, hcell X hX 18 _ rfl, hcell X hX 19 _ rfl⟩
  have HG : Hid (∀ X, Below u.heap.size u X → X.rangeAt w.heap.size 3 x.op.cells) := fun X hX j v hj => hcell X hX (3 + j) v (by
    match j, hj with
    | 0, hj => exact hj
    | 1, hj => exact hj
    | 2, hj => exact hj
    | 3, hj => exact hj
    | 4, hj => exact hj
    | 5, hj => exact hj
    | 6, hj => exact hj
    | 7, hj => exact hj
    | 8, hj => exact hj)
  have HE : Hid (∀ X, Below u.heap.size u X → Below w.heap.size w X) := fun X hX => hbu.trans ⟨hX.os, hX.tape, hX.output, hX.size, fun j hj => hX.block j (by omega)⟩
  have hi9 : (Try.prog.info? 25).map (·.size) = some x.op.cells.length := by
    have h0 : (Try.prog.info? 25).map (·.size) = some 9 := by kernel_rfl
    exact h0
  have hcs : x.cells.toArray = #[.int .i64 x.kind, .int .i64 x.id.session, .int .i64 x.id.seq, .int .i64 x.op.kind, .string x.op.space, .string x.op.channel, .string x.op.user, .string x.op.text, .string x.op.toSpace, .string x.op.to, .int .i64 x.op.frm, .int .i64 x.op.most, .int .i64 x.tx, .int .i64 x.plan, .int .i64 x.slot, .int .i64 x.epoch, .int .i64 x.group, .bool x.ok, .int .i64 x.err, .string x.data] := rfl
  have hq : ∀ Y, Y = cat (some [67]) (Cm.enc x.pss.flatten) → Ending.returned (.tuple #[.string (endS Y), .int .i64 (putE Y)]) = putO ⟨#[67]⟩ (Cm.enc x.pss.flatten) := fun Y h => put_end 67 h
  have HQ := hidden hq
  rw [hcs] at hu ⊢
  subst hu
  generalize putO ⟨#[67]⟩ (Cm.enc x.pss.flatten) = q at *
  clear hus hbu hbox hcell hcs hq
  go_enter Try.func13, Try.ntmps13
  go_wp2_with (first
    | (go_at_call 31; refine (hR.num _ (by decide)).mono ?_; rintro e X ⟨rfl, h9⟩; clear hR; have hR := h9; clear h9; (try clear c0 c1 c2 c12 c13 c14 c15 c16 c17 c18 c19); obtain ⟨c0, c1, c2, c12, c13, c14, c15, c16, c17, c18, c19⟩ := HF.out _ hR.below)
    | (go_at_call 32; refine (hR.truth _ (by decide)).mono ?_; rintro e X ⟨rfl, h9⟩; clear hR; have hR := h9; clear h9; (try clear c0 c1 c2 c12 c13 c14 c15 c16 c17 c18 c19); obtain ⟨c0, c1, c2, c12, c13, c14, c15, c16, c17, c18, c19⟩ := HF.out _ hR.below)
    | (go_at_call 33; refine (hR.op x.op (by decide)).mono ?_; rintro e X ⟨rfl, h9⟩; clear hR; have hR := h9; clear h9; (try clear c0 c1 c2 c12 c13 c14 c15 c16 c17 c18 c19); obtain ⟨c0, c1, c2, c12, c13, c14, c15, c16, c17, c18, c19⟩ := HF.out _ hR.below)
    | (go_at_call 34; refine (hR.text _ (by decide)).mono ?_; rintro e X ⟨rfl, h9⟩; clear hR; have hR := h9; clear h9; (try clear c0 c1 c2 c12 c13 c14 c15 c16 c17 c18 c19); obtain ⟨c0, c1, c2, c12, c13, c14, c15, c16, c17, c18, c19⟩ := HF.out _ hR.below)
    | (refine wpList_load_mid rfl 25 _ rfl w.heap.size 3 rfl x.op.cells _ (HG.out _ hR.below) Try.underlying25 rfl hi9 ?_)
    | (go_at_call 35; refine hR.ends.mono ?_; rintro e X ⟨rfl, h9⟩; subst h9))
  go_ret2
  exact ⟨HQ.out _ (catF_some x.pss.flatten [67]), HE.out _ hR.below⟩

set_option maxHeartbeats 4000000 in
set_option maxRecDepth 100000 in
theorem rPutAsk_c (i : IdD) (x : OpD) (w : World) : Calls Try.prog 16 #[.agg i.cells.toArray, .agg x.cells.toArray] w fun e w' => e = putO ⟨#[81]⟩ (Cm.enc (i.pss.flatten ++ x.pss.flatten)) ∧ Below w.heap.size w w' := by
  obtain ⟨u, hu⟩ : ∃ u, u = (w.alloc (.cells i.cells.toArray 23)).alloc (.cells x.cells.toArray 25) := ⟨_, rfl⟩
  have hus : u.heap.size = w.heap.size + 1 + 1 := by rw [hu]; simp
  have hbu : Below w.heap.size w u := by rw [hu]; exact (alloc_below w _).alloc (by simp) _
  have hbox : u.heap[w.heap.size]? = some (.cells i.cells.toArray 23 (0, 0)) := by rw [hu, Below.heap_alloc _ _ _ (by simp)]; exact heap_alloc_new _ _
  have hbox2 : u.heap[w.heap.size + 1]? = some (.cells x.cells.toArray 25 (0, 0)) := by
    rw [hu]
    have := heap_alloc_new (w.alloc (.cells i.cells.toArray 23)) (.cells x.cells.toArray 25)
    simpa using this
  have hR : Rw u (w.heap.size + 1 + 1 + 1) 1 0 (some [81]) ((u.alloc (.cells #[.int .u8 81] 5)).alloc (.cells #[.slice (some ⟨w.heap.size + 1 + 1, 0, none⟩) 1 1, .bool false] 65)) := by
    have := Rw.fresh u 81
    rw [hus] at this
    exact this
  have hcell : ∀ (X : World), Below u.heap.size u X → ∀ (j : Nat) (v : Value), i.cells[j]? = some v → X.cell? ⟨w.heap.size, j, none⟩ = some v := fun X hX j v hj => by
    rw [hX.cell (p := ⟨w.heap.size, j, none⟩) (by show w.heap.size < _; omega), Lib.cell_of_heap hbox]
    simpa using hj
  have HF : Hid (∀ X, Below u.heap.size u X → X.cell? ⟨w.heap.size, 0, none⟩ = some (.int .i64 i.session) ∧ X.cell? ⟨w.heap.size, 1, none⟩ = some (.int .i64 i.seq)) := fun X hX => ⟨hcell X hX 0 _ rfl, hcell X hX 1 _ rfl⟩
  have HG : Hid (∀ X, Below u.heap.size u X → X.rangeAt (w.heap.size + 1) 0 x.cells) := fun X hX j v hj => by
    rw [hX.cell (p := ⟨w.heap.size + 1, 0 + j, none⟩) (by show w.heap.size + 1 < _; omega), Lib.cell_of_heap hbox2, Nat.zero_add]
    simpa using hj
  have HE : Hid (∀ X, Below u.heap.size u X → Below w.heap.size w X) := fun X hX => hbu.trans ⟨hX.os, hX.tape, hX.output, hX.size, fun j hj => hX.block j (by omega)⟩
  have hi9 : (Try.prog.info? 25).map (·.size) = some x.cells.length := by
    have h0 : (Try.prog.info? 25).map (·.size) = some 9 := by kernel_rfl
    exact h0
  have hcs : i.cells.toArray = #[.int .i64 i.session, .int .i64 i.seq] := rfl
  have HQ : Hid (∀ Y, Y = cat (some [81]) (Cm.enc (i.pss.flatten ++ x.pss.flatten)) → Ending.returned (.tuple #[.string (endS Y), .int .i64 (putE Y)]) = putO ⟨#[81]⟩ (Cm.enc (i.pss.flatten ++ x.pss.flatten))) := fun Y h => put_end 81 h
  rw [hcs] at hu ⊢
  have hcx : x.cells.toArray = #[.int .i64 x.kind, .string x.space, .string x.channel, .string x.user, .string x.text, .string x.toSpace, .string x.to, .int .i64 x.frm, .int .i64 x.most] := rfl
  rw [hcx] at hu ⊢
  subst hu
  generalize putO ⟨#[81]⟩ (Cm.enc (i.pss.flatten ++ x.pss.flatten)) = q at *
  clear hus hbu hbox hbox2 hcell hcs hcx
  go_enter Try.func16, Try.ntmps16
  go_wp2_with (first
    | (go_at_call 31; refine (hR.num _ (by decide)).mono ?_; rintro e X ⟨rfl, h9⟩; clear hR; have hR := h9; clear h9; (try clear c0 c1); obtain ⟨c0, c1⟩ := HF.out _ hR.below)
    | (go_at_call 33; refine (hR.op x (by decide)).mono ?_; rintro e X ⟨rfl, h9⟩; clear hR; have hR := h9; clear h9; (try clear c0 c1); obtain ⟨c0, c1⟩ := HF.out _ hR.below)
    | (refine wpList_load_mid rfl 25 _ rfl (w.heap.size + 1) 0 rfl x.cells _ (HG.out _ hR.below) Try.underlying25 rfl hi9 ?_)
    | (go_at_call 35; refine hR.ends.mono ?_; rintro e X ⟨rfl, h9⟩; subst h9))
  go_ret2
  refine ⟨HQ.out _ ?_, HE.out _ hR.below⟩
  rw [← catF_some, catF_app]
  rfl

end Go.Proofs.Ytgkcchbignakcaa
