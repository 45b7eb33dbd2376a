/-
  Arguments: ids, ops, commands.
-/
import Derived.ProofKit
import Derived.OpenShut
import Derived.ShutString
import Derived.SizedLaws
import Derived.Deep.Strs
import Derived.Test.YtnfjfhjhofaodaaCmSets
namespace Go.Proofs.Ytnfjfhjhofaodaa
open Go.ChangeShapes Go.WideShapes Go.ChangeAt Go.RowKit Go.Deep

theorem fit_of {n : Int} (h : (Lit.int .i64 n).wf = true) : fit n := by
  have : -9223372036854775808 ≤ n ∧ n ≤ 9223372036854775807 := by simpa [Lit.wf, IntKind.min, IntKind.max, IntKind.signed, IntKind.bits] using h
  unfold fit
  omega
theorem fits_of {s : ByteArray} (h : s.size ≤ maxLen) : fits s := by unfold maxLen at h; unfold fits; omega

section
variable {H : Type} {enc : TypeId × Value → H} {w : World} {base : Nat} {sp : Nat → Bool} {held : Bool}

theorem id12_struct : ∃ f0 f1 : Field, Try.prog.underlying 27 = some (.struct #[f0, f1]) ∧ (f0.type, f0.offset) = (3, 0) ∧ (f1.type, f1.offset) = (3, 1) :=
  ⟨_, _, Try.underlying27, rfl, rfl⟩

set_option maxHeartbeats 800000 in
set_option maxRecDepth 20000 in
theorem id12_of {fuel : Nat} {cs : List Value} {x : DataW H × List MemPlace} (hl : cs.length = 2) (h : DataW.trod enc Try.prog w base sp held fuel 27 cs = some x) : ∃ r : IdD, cs = r.cells ∧ r.Ok := by
  have hc0 : Try.prog.cellsOf 3 = 1 := by kernel_rfl
  obtain ⟨f0, f1, hst, e0, e1⟩ := id12_struct
  injection e0 with e0 e0'
  injection e1 with e1 e1'
  obtain ⟨xs, n', _, _, _, hxl, hfs⟩ := DataW.trod_struct hst h
  match cs, hl with
  | [v0, v1], _ =>
    match xs, hxl with
    | [y0, y1], _ =>
      have t0 := hfs 0 f0 rfl
      rw [e0, e0', hc0] at t0
      have t1 := hfs 1 f1 rfl
      rw [e1, e1', hc0] at t1
      obtain ⟨n0, q0, _, w0⟩ := DataW.trod_int Try.underlying3 t0
      obtain ⟨n1, q1, _, w1⟩ := DataW.trod_int Try.underlying3 t1
      simp at q0
      simp at q1
      subst q0
      subst q1
      exact ⟨⟨n0, n1⟩, rfl, fit_of w0, fit_of w1⟩

theorem op12_struct : ∃ f0 f1 f2 f3 f4 f5 f6 f7 f8 : Field, Try.prog.underlying 53 = some (.struct #[f0, f1, f2, f3, f4, f5, f6, f7, f8]) ∧ (f0.type, f0.offset) = (3, 0) ∧ (f1.type, f1.offset) = (9, 1) ∧ (f2.type, f2.offset) = (9, 2) ∧ (f3.type, f3.offset) = (9, 3) ∧ (f4.type, f4.offset) = (9, 4) ∧ (f5.type, f5.offset) = (9, 5) ∧ (f6.type, f6.offset) = (9, 6) ∧ (f7.type, f7.offset) = (3, 7) ∧ (f8.type, f8.offset) = (3, 8) :=
  ⟨_, _, _, _, _, _, _, _, _, Try.underlying53, rfl, rfl, rfl, rfl, rfl, rfl, rfl, rfl, rfl⟩

set_option maxHeartbeats 800000 in
set_option maxRecDepth 20000 in
theorem op12_of {fuel : Nat} {cs : List Value} {x : DataW H × List MemPlace} (hl : cs.length = 9) (h : DataW.trod enc Try.prog w base sp held fuel 53 cs = some x) : ∃ r : OpD, cs = r.cells ∧ r.Ok := by
  have hc0 : Try.prog.cellsOf 3 = 1 := by kernel_rfl
  have hc1 : Try.prog.cellsOf 9 = 1 := by kernel_rfl
  obtain ⟨f0, f1, f2, f3, f4, f5, f6, f7, f8, hst, e0, e1, e2, e3, e4, e5, e6, e7, e8⟩ := op12_struct
  injection e0 with e0 e0'
  injection e1 with e1 e1'
  injection e2 with e2 e2'
  injection e3 with e3 e3'
  injection e4 with e4 e4'
  injection e5 with e5 e5'
  injection e6 with e6 e6'
  injection e7 with e7 e7'
  injection e8 with e8 e8'
  obtain ⟨xs, n', _, _, _, hxl, hfs⟩ := DataW.trod_struct hst h
  match cs, hl with
  | [v0, v1, v2, v3, v4, v5, v6, v7, v8], _ =>
    match xs, hxl with
    | [y0, y1, y2, y3, y4, y5, y6, y7, y8], _ =>
      have t0 := hfs 0 f0 rfl
      rw [e0, e0', hc0] at t0
      have t1 := hfs 1 f1 rfl
      rw [e1, e1', hc1] at t1
      have t2 := hfs 2 f2 rfl
      rw [e2, e2', hc1] at t2
      have t3 := hfs 3 f3 rfl
      rw [e3, e3', hc1] at t3
      have t4 := hfs 4 f4 rfl
      rw [e4, e4', hc1] at t4
      have t5 := hfs 5 f5 rfl
      rw [e5, e5', hc1] at t5
      have t6 := hfs 6 f6 rfl
      rw [e6, e6', hc1] at t6
      have t7 := hfs 7 f7 rfl
      rw [e7, e7', hc0] at t7
      have t8 := hfs 8 f8 rfl
      rw [e8, e8', hc0] at t8
      obtain ⟨n0, q0, _, w0⟩ := DataW.trod_int Try.underlying3 t0
      obtain ⟨n1, q1, _, w1⟩ := DataW.trod_string Try.underlying9 t1
      obtain ⟨n2, q2, _, w2⟩ := DataW.trod_string Try.underlying9 t2
      obtain ⟨n3, q3, _, w3⟩ := DataW.trod_string Try.underlying9 t3
      obtain ⟨n4, q4, _, w4⟩ := DataW.trod_string Try.underlying9 t4
      obtain ⟨n5, q5, _, w5⟩ := DataW.trod_string Try.underlying9 t5
      obtain ⟨n6, q6, _, w6⟩ := DataW.trod_string Try.underlying9 t6
      obtain ⟨n7, q7, _, w7⟩ := DataW.trod_int Try.underlying3 t7
      obtain ⟨n8, q8, _, w8⟩ := DataW.trod_int Try.underlying3 t8
      simp at q0
      simp at q1
      simp at q2
      simp at q3
      simp at q4
      simp at q5
      simp at q6
      simp at q7
      simp at q8
      subst q0
      subst q1
      subst q2
      subst q3
      subst q4
      subst q5
      subst q6
      subst q7
      subst q8
      exact ⟨⟨n0, n1, n2, n3, n4, n5, n6, n7, n8⟩, rfl, fit_of w0, fits_of w1, fits_of w2, fits_of w3, fits_of w4, fits_of w5, fits_of w6, fit_of w7, fit_of w8⟩

theorem cmd12_struct : ∃ f0 f1 f2 f3 f4 f5 f6 f7 f8 f9 f10 : Field, Try.prog.underlying 55 = some (.struct #[f0, f1, f2, f3, f4, f5, f6, f7, f8, f9, f10]) ∧ (f0.type, f0.offset) = (3, 0) ∧ (f1.type, f1.offset) = (27, 1) ∧ (f2.type, f2.offset) = (53, 3) ∧ (f3.type, f3.offset) = (3, 12) ∧ (f4.type, f4.offset) = (3, 13) ∧ (f5.type, f5.offset) = (3, 14) ∧ (f6.type, f6.offset) = (3, 15) ∧ (f7.type, f7.offset) = (3, 16) ∧ (f8.type, f8.offset) = (4, 17) ∧ (f9.type, f9.offset) = (28, 18) ∧ (f10.type, f10.offset) = (9, 19) :=
  ⟨_, _, _, _, _, _, _, _, _, _, _, Try.underlying55, rfl, rfl, rfl, rfl, rfl, rfl, rfl, rfl, rfl, rfl, rfl⟩

set_option maxHeartbeats 800000 in
set_option maxRecDepth 20000 in
theorem cmd12_of {fuel : Nat} {cs : List Value} {x : DataW H × List MemPlace} (hl : cs.length = 20) (h : DataW.trod enc Try.prog w base sp held fuel 55 cs = some x) : ∃ r : CmdD, cs = r.cells ∧ r.Ok := by
  have hc0 : Try.prog.cellsOf 3 = 1 := by kernel_rfl
  have hc1 : Try.prog.cellsOf 27 = 2 := by kernel_rfl
  have hc2 : Try.prog.cellsOf 53 = 9 := by kernel_rfl
  have hc3 : Try.prog.cellsOf 4 = 1 := by kernel_rfl
  have hc4 : Try.prog.cellsOf 28 = 1 := by kernel_rfl
  have hc5 : Try.prog.cellsOf 9 = 1 := by kernel_rfl
  obtain ⟨f0, f1, f2, f3, f4, f5, f6, f7, f8, f9, f10, hst, e0, e1, e2, e3, e4, e5, e6, e7, e8, e9, e10⟩ := cmd12_struct
  injection e0 with e0 e0'
  injection e1 with e1 e1'
  injection e2 with e2 e2'
  injection e3 with e3 e3'
  injection e4 with e4 e4'
  injection e5 with e5 e5'
  injection e6 with e6 e6'
  injection e7 with e7 e7'
  injection e8 with e8 e8'
  injection e9 with e9 e9'
  injection e10 with e10 e10'
  obtain ⟨xs, n', _, _, _, hxl, hfs⟩ := DataW.trod_struct hst h
  match cs, hl with
  | [v0, v1, v2, v3, v4, v5, v6, v7, v8, v9, v10, v11, v12, v13, v14, v15, v16, v17, v18, v19], _ =>
    match xs, hxl with
    | [y0, y1, y2, y3, y4, y5, y6, y7, y8, y9, y10], _ =>
      have t0 := hfs 0 f0 rfl
      rw [e0, e0', hc0] at t0
      have t1 := hfs 1 f1 rfl
      rw [e1, e1', hc1] at t1
      have t2 := hfs 2 f2 rfl
      rw [e2, e2', hc2] at t2
      have t3 := hfs 3 f3 rfl
      rw [e3, e3', hc0] at t3
      have t4 := hfs 4 f4 rfl
      rw [e4, e4', hc0] at t4
      have t5 := hfs 5 f5 rfl
      rw [e5, e5', hc0] at t5
      have t6 := hfs 6 f6 rfl
      rw [e6, e6', hc0] at t6
      have t7 := hfs 7 f7 rfl
      rw [e7, e7', hc0] at t7
      have t8 := hfs 8 f8 rfl
      rw [e8, e8', hc3] at t8
      have t9 := hfs 9 f9 rfl
      rw [e9, e9', hc4] at t9
      have t10 := hfs 10 f10 rfl
      rw [e10, e10', hc5] at t10
      obtain ⟨n0, q0, _, w0⟩ := DataW.trod_int Try.underlying3 t0
      obtain ⟨n1, q1, w1⟩ := id12_of rfl t1
      obtain ⟨n2, q2, w2⟩ := op12_of rfl t2
      obtain ⟨n3, q3, _, w3⟩ := DataW.trod_int Try.underlying3 t3
      obtain ⟨n4, q4, _, w4⟩ := DataW.trod_int Try.underlying3 t4
      obtain ⟨n5, q5, _, w5⟩ := DataW.trod_int Try.underlying3 t5
      obtain ⟨n6, q6, _, w6⟩ := DataW.trod_int Try.underlying3 t6
      obtain ⟨n7, q7, _, w7⟩ := DataW.trod_int Try.underlying3 t7
      obtain ⟨n8, q8, _⟩ := DataW.trod_bool Try.underlying4 t8
      obtain ⟨n9, q9, _, w9⟩ := DataW.trod_int Try.underlying28 t9
      obtain ⟨n10, q10, _, w10⟩ := DataW.trod_string Try.underlying9 t10
      simp at q0
      simp [IdD.cells] at q1
      simp [OpD.cells] at q2
      simp at q3
      simp at q4
      simp at q5
      simp at q6
      simp at q7
      simp at q8
      simp at q9
      simp at q10
      subst q0
      obtain ⟨rfl, rfl⟩ := q1
      obtain ⟨rfl, rfl, rfl, rfl, rfl, rfl, rfl, rfl, rfl⟩ := q2
      subst q3
      subst q4
      subst q5
      subst q6
      subst q7
      subst q8
      subst q9
      subst q10
      exact ⟨⟨n0, n1, n2, n3, n4, n5, n6, n7, n8, n9, n10⟩, rfl, fit_of w0, w1, w2, fit_of w3, fit_of w4, fit_of w5, fit_of w6, fit_of w7, fit_of w9, fits_of w10⟩

set_option maxRecDepth 20000 in
theorem open_id12 {r : Reach} {b0 : Nat} {v : Value} {d : DataW H} {p : List MemPlace} (hv : Value.okWide Try.prog w r b0 27 v) (h : DataW.Trod enc Try.prog w base sp held 27 v d p) :
    ∃ o : IdD, v = .agg o.cells.toArray ∧ o.Ok := by
  simp only [Value.okWide, Try.underlying27] at hv
  obtain ⟨cs, rfl, hs, _⟩ := hv
  rw [show Try.prog.cellsOf 27 = 2 by kernel_rfl] at hs
  obtain ⟨fuel, hf⟩ := h
  have hf' : DataW.trod enc Try.prog w base sp held fuel 27 cs.toList = some (d, p) := by simpa [Value.cells] using hf
  obtain ⟨o, ho, hin⟩ := id12_of (by simpa using hs) hf'
  refine ⟨o, ?_, hin⟩
  have : cs = o.cells.toArray := by rw [← ho]
  rw [this]

set_option maxRecDepth 20000 in
theorem open_op12 {r : Reach} {b0 : Nat} {v : Value} {d : DataW H} {p : List MemPlace} (hv : Value.okWide Try.prog w r b0 53 v) (h : DataW.Trod enc Try.prog w base sp held 53 v d p) :
    ∃ o : OpD, v = .agg o.cells.toArray ∧ o.Ok := by
  simp only [Value.okWide, Try.underlying53] at hv
  obtain ⟨cs, rfl, hs, _⟩ := hv
  rw [show Try.prog.cellsOf 53 = 9 by kernel_rfl] at hs
  obtain ⟨fuel, hf⟩ := h
  have hf' : DataW.trod enc Try.prog w base sp held fuel 53 cs.toList = some (d, p) := by simpa [Value.cells] using hf
  obtain ⟨o, ho, hin⟩ := op12_of (by simpa using hs) hf'
  refine ⟨o, ?_, hin⟩
  have : cs = o.cells.toArray := by rw [← ho]
  rw [this]

set_option maxRecDepth 20000 in
theorem open_cmd12 {r : Reach} {b0 : Nat} {v : Value} {d : DataW H} {p : List MemPlace} (hv : Value.okWide Try.prog w r b0 55 v) (h : DataW.Trod enc Try.prog w base sp held 55 v d p) :
    ∃ o : CmdD, v = .agg o.cells.toArray ∧ o.Ok := by
  simp only [Value.okWide, Try.underlying55] at hv
  obtain ⟨cs, rfl, hs, _⟩ := hv
  rw [show Try.prog.cellsOf 55 = 20 by kernel_rfl] at hs
  obtain ⟨fuel, hf⟩ := h
  have hf' : DataW.trod enc Try.prog w base sp held fuel 55 cs.toList = some (d, p) := by simpa [Value.cells] using hf
  obtain ⟨o, ho, hin⟩ := cmd12_of (by simpa using hs) hf'
  refine ⟨o, ?_, hin⟩
  have : cs = o.cells.toArray := by rw [← ho]
  rw [this]

end
end Go.Proofs.Ytnfjfhjhofaodaa
