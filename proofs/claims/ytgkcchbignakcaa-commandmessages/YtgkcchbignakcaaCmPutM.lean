/-
  PutMessage.
-/
import Derived.Test.YtgkcchbignakcaaCmEls
namespace Go.Proofs.Ytgkcchbignakcaa
open Go.RowKit

set_option maxHeartbeats 2000000 in
set_option maxRecDepth 100000 in
theorem PutM_c (x : MsgD) (c : Nat) (hk : x.Ok) (w : World) (he : EntsIn w x.p x.ents) : Calls Try.prog 22 #[.agg (x.cellsC c).toArray] w fun e w' => e = putO ⟨#[77]⟩ (Cm.enc x.pss.flatten) ∧ Below w.heap.size w w' := by
  obtain ⟨u, hu⟩ : ∃ u, u = w.alloc (.cells (x.cellsC c).toArray 52) := ⟨_, rfl⟩
  have hat : At u w.heap.size 0 (x.cellsC c) := At.of_block (t := 52) (by rw [hu]; exact heap_alloc_new _ _)
  obtain ⟨v, hv⟩ : ∃ v, v = u.alloc (.cells #[(Fd.sub .msg w.heap.size 0).val] 20) := ⟨_, rfl⟩
  have hat2 : At v w.heap.size 0 (x.cellsC c) := by rw [hv]; exact hat.alloc_old _
  have hus : u.heap.size = w.heap.size + 1 := by rw [hu]; simp
  have hE : Elems v (w.heap.size + 1) [.sub .msg w.heap.size 0] := by rw [hv, ← hus]; exact heap_alloc_new _ _
  have hb : Below w.heap.size w v := by rw [hv, hu]; exact (alloc_below w _).alloc (by simp) _
  have hl1 := hk.2.2.2.2.2.2.2.2.2.2
  have hp := put_c ⟨#[77]⟩ rfl (walk_sub (x.walk hat2 hk (he.below hb)) x.small) hE (by rw [x.len]; omega)
  rw [putO_eq] at hp
  rw [putO_eq]
  have HB := hidden hb
  have HP := hidden hp
  rw [hv, hu] at HP HB
  clear hat hat2 hE hp hb hv hus hu hk he hl1
  unfold Fd.val St.ty at HP HB
  simp only [List.length_cons, List.length_nil, Nat.zero_add] at HP
  unfold MsgD.cellsC at *
  generalize putS ⟨#[77]⟩ (Cm.enc x.pss.flatten) = S at *
  generalize putE (Cm.enc x.pss.flatten) = E at *
  generalize x.ents.length = n at *
  go_enter Try.func22, Try.ntmps22
  go_wp2_with (go_at_call 30; refine (HP.out).mono ?_; rintro e w1 ⟨rfl, hb1⟩)
  go_ret2
  exact ⟨rfl, HB.out.trans ⟨hb1.os, hb1.tape, hb1.output, hb1.size, fun k hk => hb1.block k (Nat.lt_of_lt_of_le hk HB.out.size)⟩⟩

end Go.Proofs.Ytgkcchbignakcaa
