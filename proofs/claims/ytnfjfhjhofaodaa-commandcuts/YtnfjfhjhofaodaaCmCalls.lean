/-
  Put and PutAsk.
-/
import Derived.Test.YtnfjfhjhofaodaaCmSets
namespace Go.Proofs.Ytnfjfhjhofaodaa
open Go.RowKit

def putS (mark : ByteArray) (x : Option (List UInt8)) : ByteArray := match x with
  | some bs => ⟨(mark.data.toList ++ bs).toArray⟩
  | none => ⟨#[]⟩
def putE (x : Option (List UInt8)) : Int := match x with
  | some _ => 0
  | none => 1
theorem putO_eq (mark : ByteArray) (x : Option (List UInt8)) : putO mark x = .returned (.tuple #[.string (putS mark x), .int .i64 (putE x)]) := by cases x <;> rfl

theorem walk_sub {w : World} {t : St} {b o : Nat} {ps : List (Cm.K × Cm.V)} (h : WalkC w (fields b o t) ps) (hs : Cm.small ps) : WalkC w [.sub t b o] ps := by
  have := walk_w2 (w0 := w) (fs := [.sub t b o]) (pss := [ps]) ⟨h, trivial⟩ (by simpa using hs) (by simp)
  simpa using this

theorem At.alloc_old {w : World} {b o : Nat} {xs : List Value} (h : At w b o xs) (x : Obj) : At (w.alloc x) b o xs := h.below (alloc_below w x)

set_option maxHeartbeats 1000000 in
set_option maxRecDepth 100000 in
theorem Put_c (x : CmdD) (hk : x.Ok) (w : World) : Calls Try.prog 22 #[.agg x.cells.toArray] w fun e w' => e = putO ⟨#[67]⟩ (Cm.enc x.pss.flatten) ∧ Below w.heap.size w w' := by
  obtain ⟨u, hu⟩ : ∃ u, u = w.alloc (.cells x.cells.toArray 55) := ⟨_, rfl⟩
  have hat : At u w.heap.size 0 x.cells := At.of_block (t := 55) (by rw [hu]; exact heap_alloc_new _ _)
  obtain ⟨v, hv⟩ : ∃ v, v = u.alloc (.cells #[(Fd.sub .cmd w.heap.size 0).val] 20) := ⟨_, rfl⟩
  have hat2 : At v w.heap.size 0 x.cells := by rw [hv]; exact hat.alloc_old _
  have hus : u.heap.size = w.heap.size + 1 := by rw [hu]; simp
  have hE : Elems v (w.heap.size + 1) [.sub .cmd w.heap.size 0] := by rw [hv, ← hus]; exact heap_alloc_new _ _
  have hp := put_c ⟨#[67]⟩ rfl (walk_sub (x.walk hat2 hk) x.small) hE (by simp [CmdD.pss, IdD.pss, OpD.pss])
  rw [putO_eq] at hp
  rw [putO_eq]
  have hb : Below w.heap.size w v := by rw [hv, hu]; exact (alloc_below w _).alloc (by simp) _
  have HB := hidden hb
  have HP := hidden hp
  rw [hv, hu] at HP HB
  clear hat hat2 hE hp hb hv hus hu hk
  unfold Fd.val St.ty at HP HB
  simp only [List.length_cons, List.length_nil, Nat.zero_add] at HP
  unfold CmdD.cells at *
  generalize putS ⟨#[67]⟩ (Cm.enc x.pss.flatten) = S at *
  generalize putE (Cm.enc x.pss.flatten) = E at *
  go_enter Try.func22, Try.ntmps22
  go_wp2_with (go_at_call 34; refine (HP.out).mono ?_; rintro e w1 ⟨rfl, hb1⟩)
  go_ret2
  exact ⟨rfl, HB.out.trans ⟨hb1.os, hb1.tape, hb1.output, hb1.size, fun k hk => hb1.block k (Nat.lt_of_lt_of_le hk HB.out.size)⟩⟩

set_option maxHeartbeats 1000000 in
set_option maxRecDepth 100000 in
theorem PutAsk_c (i : IdD) (x : OpD) (hi : i.Ok) (hk : x.Ok) (w : World) : Calls Try.prog 33 #[.agg i.cells.toArray, .agg x.cells.toArray] w fun e w' => e = putO ⟨#[81]⟩ (Cm.enc (i.pss.flatten ++ x.pss.flatten)) ∧ Below w.heap.size w w' := by
  obtain ⟨u0, hu0⟩ : ∃ u0, u0 = w.alloc (.cells i.cells.toArray 27) := ⟨_, rfl⟩
  have hati : At u0 w.heap.size 0 i.cells := At.of_block (t := 27) (by rw [hu0]; exact heap_alloc_new _ _)
  have hus0 : u0.heap.size = w.heap.size + 1 := by rw [hu0]; simp
  obtain ⟨u, hu⟩ : ∃ u, u = u0.alloc (.cells x.cells.toArray 53) := ⟨_, rfl⟩
  have hati2 : At u w.heap.size 0 i.cells := by rw [hu]; exact hati.alloc_old _
  have hat : At u (w.heap.size + 1) 0 x.cells := At.of_block (t := 53) (by rw [hu, ← hus0]; exact heap_alloc_new _ _)
  have hus : u.heap.size = w.heap.size + 2 := by rw [hu]; simp [hus0]
  obtain ⟨v, hv⟩ : ∃ v, v = u.alloc (.cells #[(Fd.sub .id w.heap.size 0).val, (Fd.sub .op (w.heap.size + 1) 0).val] 20) := ⟨_, rfl⟩
  have hat2 : At v (w.heap.size + 1) 0 x.cells := by rw [hv]; exact hat.alloc_old _
  have hati3 : At v w.heap.size 0 i.cells := by rw [hv]; exact hati2.alloc_old _
  have hE : Elems v (w.heap.size + 2) [.sub .id w.heap.size 0, .sub .op (w.heap.size + 1) 0] := by rw [hv, ← hus]; exact heap_alloc_new _ _
  have hsm : Cm.small [i.pss.flatten, x.pss.flatten].flatten := by
    intro p hp
    simp only [List.flatten_cons, List.flatten_nil, List.append_nil, List.mem_append] at hp
    rcases hp with hp | hp
    · exact i.small p hp
    · exact x.small p hp
  have hp := put_c ⟨#[81]⟩ rfl (walk_w2 (w0 := v) (fs := [.sub .id w.heap.size 0, .sub .op (w.heap.size + 1) 0]) (pss := [i.pss.flatten, x.pss.flatten]) ⟨i.walk hati3 hi, x.walk hat2 hk, trivial⟩ hsm (by simp)) hE (by simp [IdD.pss, OpD.pss])
  have hfl : [i.pss.flatten, x.pss.flatten].flatten = i.pss.flatten ++ x.pss.flatten := by simp
  rw [hfl, putO_eq] at hp
  rw [putO_eq]
  have hb : Below w.heap.size w v := by rw [hv, hu, hu0]; exact ((alloc_below w _).alloc (by simp) _).alloc (by simp; omega) _
  have HB := hidden hb
  have HP := hidden hp
  rw [hv, hu, hu0] at HP HB
  clear hat hat2 hati hati2 hati3 hE hp hb hv hus hus0 hu hu0 hk hi hsm hfl
  unfold Fd.val St.ty at HP HB
  simp only [List.length_cons, List.length_nil, Nat.zero_add] at HP
  unfold OpD.cells IdD.cells at *
  generalize putS ⟨#[81]⟩ (Cm.enc (i.pss.flatten ++ x.pss.flatten)) = S at *
  generalize putE (Cm.enc (i.pss.flatten ++ x.pss.flatten)) = E at *
  go_enter Try.func33, Try.ntmps33
  go_wp2_with (go_at_call 34; refine (HP.out).mono ?_; rintro e w1 ⟨rfl, hb1⟩)
  go_ret2
  exact ⟨rfl, HB.out.trans ⟨hb1.os, hb1.tape, hb1.output, hb1.size, fun k hk => hb1.block k (Nat.lt_of_lt_of_le hk HB.out.size)⟩⟩

end Go.Proofs.Ytnfjfhjhofaodaa
