/-
  An argument that is an op: what a walk wants of it.
-/
import Derived.Test.YtmdnegjpdedcnaaSlArgs
import Derived.Test.YtmdnegjpdedcnaaSlChk
namespace Go.Proofs.Ytmdnegjpdedcnaa
open Go.ChangeShapes Go.WideShapes Go.ChangeAt Go.RowKit Go.Deep

section
variable {H : Type} {enc : TypeId × Value → H} {w : World} {base : Nat} {sp : Nat → Bool} {held : Bool}

/-- An op's cells. -/
def op9Cells (o : Mo.Op) : List Value := [.int .i64 o.kind, .string o.space, .string o.channel, .string o.user, .string o.text, .string o.toSpace, .string o.to, .int .i64 o.frm, .int .i64 o.most]
def Op9In (o : Mo.Op) : Prop := OpOk o ∧ In64 o.kind ∧ In64 o.frm ∧ In64 o.most

theorem op9_struct : ∃ f0 f1 f2 f3 f4 f5 f6 f7 f8 : Field, Try.prog.underlying 23 = some (.struct #[f0, f1, f2, f3, f4, f5, f6, f7, f8]) ∧ (f0.type, f0.offset) = (3, 0) ∧ (f1.type, f1.offset) = (9, 1) ∧ (f2.type, f2.offset) = (9, 2) ∧ (f3.type, f3.offset) = (9, 3) ∧ (f4.type, f4.offset) = (9, 4) ∧ (f5.type, f5.offset) = (9, 5) ∧ (f6.type, f6.offset) = (9, 6) ∧ (f7.type, f7.offset) = (3, 7) ∧ (f8.type, f8.offset) = (3, 8) :=
  ⟨_, _, _, _, _, _, _, _, _, Try.underlying23, rfl, rfl, rfl, rfl, rfl, rfl, rfl, rfl, rfl⟩

set_option maxHeartbeats 800000 in
set_option maxRecDepth 20000 in
theorem op9_of {fuel : Nat} {cs : List Value} {x : DataW H × List MemPlace} (hl : cs.length = 9) (h : DataW.trod enc Try.prog w base sp held fuel 23 cs = some x) : ∃ r, cs = op9Cells r ∧ Op9In r := by
  have hc1 : Try.prog.cellsOf 3 = 1 := by kernel_rfl
  have hc2 : Try.prog.cellsOf 9 = 1 := by kernel_rfl
  obtain ⟨f0, f1, f2, f3, f4, f5, f6, f7, f8, hst, e0, e1, e2, e3, e4, e5, e6, e7, e8⟩ := op9_struct
  injection e0 with e0 e0'
  injection e1 with e1 e1'
  injection e2 with e2 e2'
  injection e3 with e3 e3'
  injection e4 with e4 e4'
  injection e5 with e5 e5'
  injection e6 with e6 e6'
  injection e7 with e7 e7'
  injection e8 with e8 e8'
  obtain ⟨xs, n', _, _, _, hxl, hfs⟩ := DataW.trod_struct hst h
  match cs, hl with
  | [v0, v1, v2, v3, v4, v5, v6, v7, v8], _ =>
    match xs, hxl with
    | [y0, y1, y2, y3, y4, y5, y6, y7, y8], _ =>
      have t0 := hfs 0 f0 rfl
      rw [e0, e0', hc1] at t0
      have t1 := hfs 1 f1 rfl
      rw [e1, e1', hc2] at t1
      have t2 := hfs 2 f2 rfl
      rw [e2, e2', hc2] at t2
      have t3 := hfs 3 f3 rfl
      rw [e3, e3', hc2] at t3
      have t4 := hfs 4 f4 rfl
      rw [e4, e4', hc2] at t4
      have t5 := hfs 5 f5 rfl
      rw [e5, e5', hc2] at t5
      have t6 := hfs 6 f6 rfl
      rw [e6, e6', hc2] at t6
      have t7 := hfs 7 f7 rfl
      rw [e7, e7', hc1] at t7
      have t8 := hfs 8 f8 rfl
      rw [e8, e8', hc1] at t8
      obtain ⟨n0, q0, _, w0⟩ := DataW.trod_int Try.underlying3 t0
      obtain ⟨n1, q1, _, w1⟩ := DataW.trod_string Try.underlying9 t1
      obtain ⟨n2, q2, _, w2⟩ := DataW.trod_string Try.underlying9 t2
      obtain ⟨n3, q3, _, w3⟩ := DataW.trod_string Try.underlying9 t3
      obtain ⟨n4, q4, _, w4⟩ := DataW.trod_string Try.underlying9 t4
      obtain ⟨n5, q5, _, w5⟩ := DataW.trod_string Try.underlying9 t5
      obtain ⟨n6, q6, _, w6⟩ := DataW.trod_string Try.underlying9 t6
      obtain ⟨n7, q7, _, w7⟩ := DataW.trod_int Try.underlying3 t7
      obtain ⟨n8, q8, _, w8⟩ := DataW.trod_int Try.underlying3 t8
      simp at q0 q1 q2 q3 q4 q5 q6 q7 q8
      subst q0 q1 q2 q3 q4 q5 q6 q7 q8
      exact ⟨⟨n0, n1, n2, n3, n4, n5, n6, n7, n8⟩, rfl, ⟨w1, w2, w3, w4, w5, w6⟩, wf6 w0, wf6 w7, wf6 w8⟩

set_option maxRecDepth 20000 in
theorem open_op9 {r : Reach} {b0 : Nat} {v : Value} {d : DataW H} {p : List MemPlace} (hv : Value.okWide Try.prog w r b0 23 v) (h : DataW.Trod enc Try.prog w base sp held 23 v d p) :
    ∃ o : Mo.Op, v = .agg #[.int .i64 o.kind, .string o.space, .string o.channel, .string o.user, .string o.text, .string o.toSpace, .string o.to, .int .i64 o.frm, .int .i64 o.most] ∧ Op9In o := by
  simp only [Value.okWide, Try.underlying23] at hv
  obtain ⟨cs, rfl, hs, _⟩ := hv
  rw [show Try.prog.cellsOf 23 = 9 by kernel_rfl] at hs
  obtain ⟨fuel, hf⟩ := h
  have hf' : DataW.trod enc Try.prog w base sp held fuel 23 cs.toList = some (d, p) := by simpa [Value.cells] using hf
  obtain ⟨o, ho, hin⟩ := op9_of (by simpa using hs) hf'
  refine ⟨o, ?_, hin⟩
  have : cs = (op9Cells o).toArray := by rw [← ho]
  rw [this]
  rfl
--@IFT{[]api.Op}

end
end Go.Proofs.Ytmdnegjpdedcnaa
