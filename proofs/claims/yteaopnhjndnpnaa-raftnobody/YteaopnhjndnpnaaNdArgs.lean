/-
  Arguments of layer 7's laws, opened: a message.
-/
import Derived.Test.YteaopnhjndnpnaaNdMsg
import Derived.ProofKit
import Derived.OpenShut
import Derived.ChangeArms
namespace Go.Proofs.Yteaopnhjndnpnaa
open Go.RowKit

/-- A message that came in; its entries' slice as it is. -/
structure MsgA where
  kind : Int
  group : Int
  frm : Int
  to : Int
  term : Int
  index : Int
  at_ : Int
  p : Option Addr
  n : Nat
  c : Nat
  commit : Int
  ok : Bool
  data : ByteArray

def msgAV (m : MsgA) : Value := .agg #[.int .i64 m.kind, .int .i64 m.group, .int .i64 m.frm, .int .i64 m.to, .int .i64 m.term, .int .i64 m.index, .int .i64 m.at_, .slice m.p m.n m.c, .int .i64 m.commit, .bool m.ok, .string m.data]

theorem msg_struct : ∃ f0 f1 f2 f3 f4 f5 f6 f7 f8 f9 f10 : Field, Try.prog.underlying 48 = some (.struct #[f0, f1, f2, f3, f4, f5, f6, f7, f8, f9, f10]) ∧ (f0.type, f0.offset) = (3, 0) ∧ (f1.type, f1.offset) = (3, 1) ∧ (f2.type, f2.offset) = (3, 2) ∧ (f3.type, f3.offset) = (3, 3) ∧ (f4.type, f4.offset) = (3, 4) ∧ (f5.type, f5.offset) = (3, 5) ∧ (f6.type, f6.offset) = (3, 6) ∧ (f7.type, f7.offset) = (28, 7) ∧ (f8.type, f8.offset) = (3, 8) ∧ (f9.type, f9.offset) = (4, 9) ∧ (f10.type, f10.offset) = (9, 10) :=
  ⟨_, _, _, _, _, _, _, _, _, _, _, Try.underlying48, rfl, rfl, rfl, rfl, rfl, rfl, rfl, rfl, rfl, rfl, rfl⟩

section
variable {H : Type} {enc : TypeId × Value → H} {w : World} {base : Nat} {sp : Nat → Bool} {held : Bool}

theorem trod_sliceV {t e : TypeId} {fuel : Nat} {u : Value} {x : DataW H × List MemPlace} (ht : Try.prog.underlying t = some (.slice e)) (h : DataW.trod enc Try.prog w base sp held fuel t [u] = some x) : ∃ p n c, u = .slice p n c := by
  rcases DataW.trod_slice ht h with ⟨h1, _⟩ | ⟨a, len, cap, _, _, _, _, h1, _⟩
  · injection h1 with h1; exact ⟨_, _, _, h1⟩
  · injection h1 with h1; exact ⟨_, _, _, h1⟩

set_option maxHeartbeats 800000 in
set_option maxRecDepth 20000 in
theorem open_msg {r : Reach} {b0 : Nat} {v : Value} {d : DataW H} {p : List MemPlace} (hv : Value.okWide Try.prog w r b0 48 v) (h : DataW.Trod enc Try.prog w base sp held 48 v d p) :
    ∃ x : MsgA, v = msgAV x ∧ True := by
  simp only [Value.okWide, Try.underlying48] at hv
  obtain ⟨cs, rfl, hs, _⟩ := hv
  rw [show Try.prog.cellsOf 48 = 11 by kernel_rfl] at hs
  obtain ⟨fuel, hf⟩ := h
  have hf' : DataW.trod enc Try.prog w base sp held fuel 48 cs.toList = some (d, p) := by simpa [Value.cells] using hf
  have hl : cs.toList.length = 11 := by simpa using hs
  have hc1 : Try.prog.cellsOf 3 = 1 := by kernel_rfl
  have hc2 : Try.prog.cellsOf 9 = 1 := by kernel_rfl
  have hc3 : Try.prog.cellsOf 4 = 1 := by kernel_rfl
  have hc4 : Try.prog.cellsOf 28 = 1 := by kernel_rfl
  obtain ⟨f0, f1, f2, f3, f4, f5, f6, f7, f8, f9, f10, hst, e0, e1, e2, e3, e4, e5, e6, e7, e8, e9, e10⟩ := msg_struct
  injection e0 with e0 e0'
  injection e1 with e1 e1'
  injection e2 with e2 e2'
  injection e3 with e3 e3'
  injection e4 with e4 e4'
  injection e5 with e5 e5'
  injection e6 with e6 e6'
  injection e7 with e7 e7'
  injection e8 with e8 e8'
  injection e9 with e9 e9'
  injection e10 with e10 e10'
  obtain ⟨xs, n', _, _, _, hxl, hfs⟩ := DataW.trod_struct hst hf'
  obtain ⟨l, hll⟩ : ∃ l, l = cs.toList := ⟨_, rfl⟩
  rw [← hll] at hl hfs
  match l, hl with
  | [v0, v1, v2, v3, v4, v5, v6, v7, v8, v9, v10], _ =>
    match xs, hxl with
    | [y0, y1, y2, y3, y4, y5, y6, y7, y8, y9, y10], _ =>
      have t0 := hfs 0 f0 rfl
      have t1 := hfs 1 f1 rfl
      have t2 := hfs 2 f2 rfl
      have t3 := hfs 3 f3 rfl
      have t4 := hfs 4 f4 rfl
      have t5 := hfs 5 f5 rfl
      have t6 := hfs 6 f6 rfl
      have t7 := hfs 7 f7 rfl
      have t8 := hfs 8 f8 rfl
      have t9 := hfs 9 f9 rfl
      have t10 := hfs 10 f10 rfl
      rw [e0, e0', hc1] at t0
      rw [e1, e1', hc1] at t1
      rw [e2, e2', hc1] at t2
      rw [e3, e3', hc1] at t3
      rw [e4, e4', hc1] at t4
      rw [e5, e5', hc1] at t5
      rw [e6, e6', hc1] at t6
      rw [e7, e7', hc4] at t7
      rw [e8, e8', hc1] at t8
      rw [e9, e9', hc3] at t9
      rw [e10, e10', hc2] at t10
      obtain ⟨n0, q0, _, _⟩ := DataW.trod_int Try.underlying3 t0
      obtain ⟨n1, q1, _, _⟩ := DataW.trod_int Try.underlying3 t1
      obtain ⟨n2, q2, _, _⟩ := DataW.trod_int Try.underlying3 t2
      obtain ⟨n3, q3, _, _⟩ := DataW.trod_int Try.underlying3 t3
      obtain ⟨n4, q4, _, _⟩ := DataW.trod_int Try.underlying3 t4
      obtain ⟨n5, q5, _, _⟩ := DataW.trod_int Try.underlying3 t5
      obtain ⟨n6, q6, _, _⟩ := DataW.trod_int Try.underlying3 t6
      obtain ⟨n8, q8, _, _⟩ := DataW.trod_int Try.underlying3 t8
      obtain ⟨p7, m7, c7, q7⟩ := trod_sliceV Try.underlying28 (u := v7) (by simpa using t7)
      obtain ⟨b9, q9, _⟩ := DataW.trod_bool Try.underlying4 t9
      obtain ⟨s10, q10, _, _⟩ := DataW.trod_string Try.underlying9 t10
      simp at q0 q1 q2 q3 q4 q5 q6 q8 q9 q10
      subst q0 q1 q2 q3 q4 q5 q6 q7 q8 q9 q10
      refine ⟨⟨n0, n1, n2, n3, n4, n5, n6, p7, m7, c7, n8, b9, s10⟩, ?_, trivial⟩
      unfold msgAV
      rw [← Array.toArray_toList (xs := cs), ← hll]

end
end Go.Proofs.Yteaopnhjndnpnaa
