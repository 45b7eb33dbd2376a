/-
  Two commands, held against one another.
-/
import Derived.Test.YtnfjfhjhofaodaaCmAwake
namespace Go.Proofs.Ytnfjfhjhofaodaa
open Go.RowKit

theorem beqB12 (a b : ByteArray) : (a.toList == b.toList) = decide (a = b) := by
  rw [ByteArray.toList_eq, ByteArray.toList_eq, Bool.eq_iff_iff]
  obtain ⟨⟨x⟩⟩ := a
  obtain ⟨⟨y⟩⟩ := b
  simp
theorem tlB12 (a b : ByteArray) : (a.toList = b.toList) = (a = b) := by
  have h := beqB12 a b
  rw [Bool.eq_iff_iff] at h
  simp at h
  exact propext h

def cmdEq (c d : CmdD) : Bool := decide (c.kind = d.kind) && (decide (c.id.session = d.id.session) && (decide (c.id.seq = d.id.seq) && (decide (c.op.kind = d.op.kind) && (decide (c.op.space = d.op.space) && (decide (c.op.channel = d.op.channel) && (decide (c.op.user = d.op.user) && (decide (c.op.text = d.op.text) && (decide (c.op.toSpace = d.op.toSpace) && (decide (c.op.to = d.op.to) && (decide (c.op.frm = d.op.frm) && (decide (c.op.most = d.op.most) && (decide (c.tx = d.tx) && (decide (c.plan = d.plan) && (decide (c.slot = d.slot) && (decide (c.epoch = d.epoch) && (decide (c.group = d.group) && (decide (c.ok = d.ok) && (decide (c.err = d.err) && (decide (c.data = d.data))))))))))))))))))))

theorem cmdEq_iff (c d : CmdD) : cmdEq c d = true ↔ c = d := by
  constructor
  · intro h
    simp only [cmdEq, Bool.and_eq_true, decide_eq_true_eq] at h
    obtain ⟨a0, ⟨a1, a2⟩, ⟨a3, a4, a5, a6, a7, a8, a9, a10, a11⟩, a12, a13, a14, a15, a16, a17, a18, a19⟩ := c
    obtain ⟨b0, ⟨b1, b2⟩, ⟨b3, b4, b5, b6, b7, b8, b9, b10, b11⟩, b12, b13, b14, b15, b16, b17, b18, b19⟩ := d
    simp only at h
    obtain ⟨rfl, rfl, rfl, rfl, rfl, rfl, rfl, rfl, rfl, rfl, rfl, rfl, rfl, rfl, rfl, rfl, rfl, rfl, rfl, rfl⟩ := h
    rfl
  · rintro rfl
    simp [cmdEq]

set_option maxHeartbeats 4000000 in
set_option maxRecDepth 20000 in
theorem same_cmd (c d : CmdD) (w : World) : (binOp .eql 55 (.agg c.cells.toArray) (.agg d.cells.toArray)).run Try.prog w = .ok (.bool (cmdEq c d)) w := by
  obtain ⟨a0, ⟨a1, a2⟩, ⟨a3, a4, a5, a6, a7, a8, a9, a10, a11⟩, a12, a13, a14, a15, a16, a17, a18, a19⟩ := c
  obtain ⟨b0, ⟨b1, b2⟩, ⟨b3, b4, b5, b6, b7, b8, b9, b10, b11⟩, b12, b13, b14, b15, b16, b17, b18, b19⟩ := d
  unfold cmdEq CmdD.cells
  dsimp only
  go_simp
  simp only [tlB12]
  by_cases q0 : a0 = b0
  · by_cases q1 : a1 = b1
    · by_cases q2 : a2 = b2
      · by_cases q3 : a3 = b3
        · by_cases q4 : a4 = b4
          · by_cases q5 : a5 = b5
            · by_cases q6 : a6 = b6
              · by_cases q7 : a7 = b7
                · by_cases q8 : a8 = b8
                  · by_cases q9 : a9 = b9
                    · by_cases q10 : a10 = b10
                      · by_cases q11 : a11 = b11
                        · by_cases q12 : a12 = b12
                          · by_cases q13 : a13 = b13
                            · by_cases q14 : a14 = b14
                              · by_cases q15 : a15 = b15
                                · by_cases q16 : a16 = b16
                                  · by_cases q17 : a17 = b17
                                    · by_cases q18 : a18 = b18
                                      · by_cases q19 : a19 = b19
                                        · simp [q0, q1, q2, q3, q4, q5, q6, q7, q8, q9, q10, q11, q12, q13, q14, q15, q16, q17, q18, q19]
                                        · simp [q0, q1, q2, q3, q4, q5, q6, q7, q8, q9, q10, q11, q12, q13, q14, q15, q16, q17, q18, q19]
                                      · simp [q0, q1, q2, q3, q4, q5, q6, q7, q8, q9, q10, q11, q12, q13, q14, q15, q16, q17, q18]
                                    · simp [q0, q1, q2, q3, q4, q5, q6, q7, q8, q9, q10, q11, q12, q13, q14, q15, q16, q17]
                                  · simp [q0, q1, q2, q3, q4, q5, q6, q7, q8, q9, q10, q11, q12, q13, q14, q15, q16]
                                · simp [q0, q1, q2, q3, q4, q5, q6, q7, q8, q9, q10, q11, q12, q13, q14, q15]
                              · simp [q0, q1, q2, q3, q4, q5, q6, q7, q8, q9, q10, q11, q12, q13, q14]
                            · simp [q0, q1, q2, q3, q4, q5, q6, q7, q8, q9, q10, q11, q12, q13]
                          · simp [q0, q1, q2, q3, q4, q5, q6, q7, q8, q9, q10, q11, q12]
                        · simp [q0, q1, q2, q3, q4, q5, q6, q7, q8, q9, q10, q11]
                      · simp [q0, q1, q2, q3, q4, q5, q6, q7, q8, q9, q10]
                    · simp [q0, q1, q2, q3, q4, q5, q6, q7, q8, q9]
                  · simp [q0, q1, q2, q3, q4, q5, q6, q7, q8]
                · simp [q0, q1, q2, q3, q4, q5, q6, q7]
              · simp [q0, q1, q2, q3, q4, q5, q6]
            · simp [q0, q1, q2, q3, q4, q5]
          · simp [q0, q1, q2, q3, q4]
        · simp [q0, q1, q2, q3]
      · simp [q0, q1, q2]
    · simp [q0, q1]
  · simp [q0]

end Go.Proofs.Ytnfjfhjhofaodaa
