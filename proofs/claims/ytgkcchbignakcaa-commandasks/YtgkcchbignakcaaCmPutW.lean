/-
  PutAnswer.
-/
import Derived.Test.YtgkcchbignakcaaCmEls
namespace Go.Proofs.Ytgkcchbignakcaa
open Go.RowKit

set_option maxHeartbeats 2000000 in
set_option maxRecDepth 100000 in
theorem PutAnswer_c (i : IdD) (x : RepD) (c : Nat) (hi : i.Ok) (hk : x.Ok) (w : World) (he : PostsIn w x.p x.posts) : Calls Try.prog 17 #[.agg i.cells.toArray, .agg (x.cellsC c).toArray] w fun e w' => e = putO ⟨#[65]⟩ (Cm.enc (i.pss.flatten ++ x.pss.flatten)) ∧ Below w.heap.size w w' := by
  obtain ⟨u0, hu0⟩ : ∃ u0, u0 = w.alloc (.cells i.cells.toArray 23) := ⟨_, rfl⟩
  have hati : At u0 w.heap.size 0 i.cells := At.of_block (t := 23) (by rw [hu0]; exact heap_alloc_new _ _)
  have hus0 : u0.heap.size = w.heap.size + 1 := by rw [hu0]; simp
  obtain ⟨u, hu⟩ : ∃ u, u = u0.alloc (.cells (x.cellsC c).toArray 39) := ⟨_, rfl⟩
  have hati2 : At u w.heap.size 0 i.cells := by rw [hu]; exact hati.alloc_old _
  have hat : At u (w.heap.size + 1) 0 (x.cellsC c) := At.of_block (t := 39) (by rw [hu, ← hus0]; exact heap_alloc_new _ _)
  have hus : u.heap.size = w.heap.size + 2 := by rw [hu]; simp [hus0]
  obtain ⟨v, hv⟩ : ∃ v, v = u.alloc (.cells #[(Fd.sub .id w.heap.size 0).val, (Fd.sub .reply (w.heap.size + 1) 0).val] 20) := ⟨_, rfl⟩
  have hat2 : At v (w.heap.size + 1) 0 (x.cellsC c) := by rw [hv]; exact hat.alloc_old _
  have hati3 : At v w.heap.size 0 i.cells := by rw [hv]; exact hati2.alloc_old _
  have hE : Elems v (w.heap.size + 2) [.sub .id w.heap.size 0, .sub .reply (w.heap.size + 1) 0] := by rw [hv, ← hus]; exact heap_alloc_new _ _
  have hsm : Cm.small [i.pss.flatten, x.pss.flatten].flatten := by
    simp only [List.flatten_cons, List.flatten_nil, List.append_nil]
    exact small_app i.small x.small
  have hb : Below w.heap.size w v := by rw [hv, hu, hu0]; exact ((alloc_below w _).alloc (by simp) _).alloc (by simp; omega) _
  have hl1 := hk.2.2.2
  have hil : i.pss.flatten.length = 2 := rfl
  have hfl : [i.pss.flatten, x.pss.flatten].flatten = i.pss.flatten ++ x.pss.flatten := by simp
  have hp := put_c ⟨#[65]⟩ rfl (walk_w2 (w0 := v) (fs := [.sub .id w.heap.size 0, .sub .reply (w.heap.size + 1) 0]) (pss := [i.pss.flatten, x.pss.flatten]) ⟨i.walk hati3 hi, x.walk hat2 hk (he.below hb), trivial⟩ hsm (by simp)) hE (by rw [hfl, List.length_append, x.len, hil]; omega)
  rw [hfl, putO_eq] at hp
  rw [putO_eq]
  have HB := hidden hb
  have HP := hidden hp
  rw [hv, hu, hu0] at HP HB
  clear hat hat2 hati hati2 hati3 hE hp hb hv hus hus0 hu hu0 hk hi hsm hfl he hl1 hil
  unfold Fd.val St.ty at HP HB
  simp only [List.length_cons, List.length_nil, Nat.zero_add] at HP
  unfold RepD.cellsC IdD.cells at *
  generalize putS ⟨#[65]⟩ (Cm.enc (i.pss.flatten ++ x.pss.flatten)) = S at *
  generalize putE (Cm.enc (i.pss.flatten ++ x.pss.flatten)) = E at *
  generalize x.posts.length = n at *
  go_enter Try.func17, Try.ntmps17
  go_wp2_with (go_at_call 30; refine (HP.out).mono ?_; rintro e w1 ⟨rfl, hb1⟩)
  go_ret2
  exact ⟨rfl, HB.out.trans ⟨hb1.os, hb1.tape, hb1.output, hb1.size, fun k hk => hb1.block k (Nat.lt_of_lt_of_le hk HB.out.size)⟩⟩

end Go.Proofs.Ytgkcchbignakcaa
