/-
  There and back; what must come.
-/
import Derived.Test.YtnfjfhjhofaodaaCmFrom
import Derived.Test.YtnfjfhjhofaodaaCmCalls
namespace Go.Proofs.Ytnfjfhjhofaodaa
open Go.RowKit


/-- A row that is stored into a variable that was made last. -/
theorem setRow_new (w : World) (zs cs : Array Value) (t : TypeId) : (w.alloc (.cells zs t)).setRow w.heap.size cs = w.alloc (.cells cs t) := by
  have e : ((w.alloc (.cells zs t)).setRow w.heap.size cs).heap = (w.alloc (.cells cs t)).heap := by
    apply Array.ext_getElem?
    intro i
    by_cases hi : i = w.heap.size
    · subst hi
      rw [setRow_heap _ _ zs cs t (0, 0) (heap_alloc_new w _), heap_alloc_new]
    · rw [setRow_other _ _ _ _ hi]
      rcases Nat.lt_or_ge i w.heap.size with x | x
      · rw [Below.heap_alloc _ _ _ x, Below.heap_alloc _ _ _ x]
      · rw [Array.getElem?_eq_none (by simp; omega), Array.getElem?_eq_none (by simp; omega)]
  have e2 : (w.alloc (.cells zs t)).setRow w.heap.size cs = { w.alloc (.cells cs t) with heap := ((w.alloc (.cells zs t)).setRow w.heap.size cs).heap } := rfl
  rw [e2, e]

/-- An operation whose guard stands. -/
theorem wpList_wants {P : Program} {ops : Array Oper} {Q : Exit → Act → World → Prop} {a : Act} {w : World} {rest : List Oper} {o : Oper} (hw : Region.wanted o (yielded ops a.tmps) = true)
    (h : ∀ K : Act → World → Prop, (∀ a w, wpList P ops Q rest a w → K a w) → o.wp P a w K Q) : wpList P ops Q (o :: rest) a w :=
  wpList_step fun K hK => by rw [if_pos hw]; exact h K hK

theorem CmdD.inj {x y : CmdD} (h : x.pss.flatten = y.pss.flatten) : x = y := by
  obtain ⟨a0, ⟨a1, a2⟩, ⟨a3, a4, a5, a6, a7, a8, a9, a10, a11⟩, a12, a13, a14, a15, a16, a17, a18, a19⟩ := x
  obtain ⟨b0, ⟨b1, b2⟩, ⟨b3, b4, b5, b6, b7, b8, b9, b10, b11⟩, b12, b13, b14, b15, b16, b17, b18, b19⟩ := y
  simp only [CmdD.pss, IdD.pss, OpD.pss, nf, tf, List.flatten_cons, List.flatten_nil, List.append_nil, List.cons_append, List.nil_append, List.cons.injEq, Prod.mk.injEq, Sum.inl.injEq, Sum.inr.injEq, true_and, and_true] at h
  obtain ⟨rfl, rfl, rfl, rfl, rfl, rfl, rfl, rfl, h17, rfl, rfl, rfl, rfl, rfl, rfl, rfl, rfl, rfl, rfl, rfl⟩ := h
  have : a17 = b17 := by cases a17 <;> cases b17 <;> first | rfl | (exfalso; simp at h17)
  rw [this]

theorem CmdD.kinds (x : CmdD) : x.pss.flatten.map (·.1) = ksCmd := rfl

/-- What was put is read back. -/
theorem From_put (x : CmdD) {bs : List UInt8} (h : Cm.enc x.pss.flatten = some bs) (hl : bs.length ≤ 140737488000000) (w : World) : Calls Try.prog 23 #[.string (putS ⟨#[67]⟩ (some bs))] w fun e w' => e = .returned (.tuple #[.agg x.cells.toArray, .int .i64 0]) ∧ Below w.heap.size w w' := by
  have hd : (putS ⟨#[67]⟩ (some bs)).data.toList = 67 :: bs := by unfold putS; simp
  refine (From_c _ ?_ w).mono ?_
  · rw [← Cm.toL_len, hd]; simp; omega
  · rintro e w' ⟨ho, hb⟩
    refine ⟨?_, hb⟩
    unfold FromO at ho
    rw [hd, enc_takeX x.small x.kinds h] at ho
    obtain ⟨y, hy, he⟩ := ho
    rw [he, CmdD.inj hy]

def aId : IdD := ⟨5, 1⟩
def aOp : OpD := ⟨6, ⟨#[119]⟩, ⟨#[]⟩, ⟨#[]⟩, ⟨#[]⟩, ⟨#[]⟩, ⟨#[]⟩, 0, 0⟩
def aCmd : CmdD := ⟨9, zId, zOp, 0, 0, 3, 0, 0, false, 0, ⟨#[]⟩⟩

theorem aAsk_enc : Cm.enc (aId.pss.flatten ++ aOp.pss.flatten) = some [5, 1, 6, 1, 119, 0, 0, 0, 0, 0, 0, 0] := by kernel_rfl
def aBytes : List UInt8 := [9, 0, 0, 0, 0, 3, 0, 0, 0, 0, 0, 0, 0, 0, 0, 0, 0, 0, 0, 0]
theorem aCmd_enc : Cm.enc aCmd.pss.flatten = some aBytes := by kernel_rfl

set_option maxHeartbeats 4000000 in
set_option maxRecDepth 100000 in
theorem awake_c (w : World) : Calls Try.prog 21 #[] w fun e w' => e = .returned (.bool true) ∧ Below w.heap.size w w' := by
  have hA : ∀ W, Calls Try.prog 33 #[.agg aId.cells.toArray, .agg aOp.cells.toArray] W fun e w' => e = .returned (.tuple #[.string ⟨#[81, 5, 1, 6, 1, 119, 0, 0, 0, 0, 0, 0, 0]⟩, .int .i64 0]) ∧ Below W.heap.size W w' := fun W => by
    have := PutAsk_c aId aOp ⟨by decide, by decide⟩ ⟨by decide, by decide, by decide, by decide, by decide, by decide, by decide, by decide, by decide⟩ W
    rw [aAsk_enc, putO_eq] at this
    exact this
  have hB : ∀ W, Calls Try.prog 22 #[.agg aCmd.cells.toArray] W fun e w' => e = .returned (.tuple #[.string (putS ⟨#[67]⟩ (some aBytes)), .int .i64 0]) ∧ Below W.heap.size W w' := fun W => by
    have := Put_c aCmd ⟨by decide, ⟨by decide, by decide⟩, ⟨by decide, by decide, by decide, by decide, by decide, by decide, by decide, by decide, by decide⟩, by decide, by decide, by decide, by decide, by decide, by decide, by decide⟩ W
    rw [aCmd_enc, putO_eq] at this
    exact this
  have hC : ∀ W, Calls Try.prog 23 #[.string (putS ⟨#[67]⟩ (some aBytes))] W fun e w' => e = .returned (.tuple #[.agg aCmd.cells.toArray, .int .i64 0]) ∧ Below W.heap.size W w' := fun W => From_put aCmd aCmd_enc (by decide) W
  have hone := aCmd.one
  have hi : (Try.prog.info? 55).map (·.size) = some aCmd.cells.toArray.size := by
    have h0 : (Try.prog.info? 55).map (·.size) = some 20 := by kernel_rfl
    exact h0
  have heq : ∀ W : World, (binOp .eql 55 (.agg aCmd.cells.toArray) (.agg aCmd.cells.toArray)).run Try.prog W = .ok (.bool true) W := fun W => by kernel_rfl
  simp only [aId, aOp, aCmd, zId, zOp, IdD.cells, OpD.cells, CmdD.cells] at hA hB hC hone hi heq
  generalize putS ⟨#[67]⟩ (some aBytes) = S at *
  have HA := hidden hA
  have HB := hidden hB
  have HC := hidden hC
  clear hA hB hC
  go_enter Try.func21, Try.ntmps21
  go_wp2_with (first
    | (go_at_call 33; refine (HA.out _).mono ?_; rintro e w1 ⟨rfl, hb1⟩)
    | (go_at_call 22; refine (HB.out _).mono ?_; rintro e w2 ⟨rfl, hb2⟩)
    | (go_at_call 23; refine (HC.out _).mono ?_; rintro e w3 ⟨rfl, hb3⟩)
    | (refine wpList_store_row rfl 55 (.tmp 5) (.tmp 21) rfl w3.heap.size _ rfl rfl 55 _ (heap_alloc_new w3 _) hi rfl hone ?_; rw [setRow_new])
    | (refine wpList_wants (by rfl) fun K hK => wp_load_row 55 (.tmp 5) rfl w3.heap.size rfl 55 _ (0, 0) _ (heap_alloc_new w3 _) Try.underlying55 rfl hi (hK _ _ ?_)))
  go_ret
  exact ⟨rfl, ((hb1.trans ⟨hb2.os, hb2.tape, hb2.output, hb2.size, fun k hk => hb2.block k (Nat.lt_of_lt_of_le hk hb1.size)⟩).trans ⟨hb3.os, hb3.tape, hb3.output, hb3.size, fun k hk => hb3.block k (Nat.lt_of_lt_of_le hk (Nat.le_trans hb1.size hb2.size))⟩).alloc (Nat.le_trans hb1.size (Nat.le_trans hb2.size hb3.size)) _⟩

end Go.Proofs.Ytnfjfhjhofaodaa
