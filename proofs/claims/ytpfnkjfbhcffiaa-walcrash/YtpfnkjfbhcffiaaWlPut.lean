/-
  A record that may be, as bytes: putRecord.
-/
import Derived.Test.YtpfnkjfbhcffiaaWlRec
namespace Go.Proofs.Ytpfnkjfbhcffiaa
open Go.RowKit

theorem may_data {r : W.Rec} (h : W.may r = true) : r.data.size ≤ 131072 := by
  unfold W.may at h
  rw [Bool.and_eq_true] at h
  obtain ⟨h1, h2⟩ := h
  unfold W.mayK W.mayHard W.mayEntry W.mayCut W.mayBase at h2
  have he : r.data.toList.isEmpty = true → r.data.size = 0 := by
    intro q
    rw [ByteArray.toList_eq, List.isEmpty_iff] at q
    have := congrArg List.length q
    simpa using this
  split at h2
  · simp only [Bool.and_eq_true, decide_eq_true_eq, W.ix_iff, beq_iff_eq] at h2
    have := he h2.2
    omega
  · split at h2
    · simp only [Bool.and_eq_true, decide_eq_true_eq, W.ix_iff, beq_iff_eq] at h2
      omega
    · split at h2
      · simp only [Bool.and_eq_true, decide_eq_true_eq, W.ix_iff, beq_iff_eq] at h2
        have := he h2.2
        omega
      · split at h2
        · simp only [Bool.and_eq_true, decide_eq_true_eq, W.ix_iff, beq_iff_eq] at h2
          omega
        · cases h2

/-- The five numbers of a record that may be. -/
theorem may_nums {r : W.Rec} (h : W.may r = true) : ∃ g k i t v : Nat, r.group = (g : Int) ∧ r.kind = (k : Int) ∧ r.index = (i : Int) ∧ r.term = (t : Int) ∧ r.vote + 1 = (v : Int) ∧ g < 9 ∧ k ≤ 4 ∧ i ≤ 1099511627776 ∧ t ≤ 1099511627776 ∧ v ≤ 7 := by
  have hg := h
  unfold W.may at hg
  rw [Bool.and_eq_true, W.isGroup_iff] at hg
  have hx : 0 ≤ r.group ∧ r.group < 9 ∧ 0 ≤ r.kind ∧ r.kind ≤ 4 ∧ 0 ≤ r.index ∧ r.index ≤ 1099511627776 ∧ 0 ≤ r.term ∧ r.term ≤ 1099511627776 ∧ -1 ≤ r.vote ∧ r.vote < 7 := by
    obtain ⟨h1, h2⟩ := hg
    unfold W.mayK W.mayHard W.mayEntry W.mayCut W.mayBase at h2
    split at h2
    · simp only [Bool.and_eq_true, decide_eq_true_eq, W.ix_iff, beq_iff_eq] at h2
      omega
    · split at h2
      · simp only [Bool.and_eq_true, decide_eq_true_eq, W.ix_iff, beq_iff_eq] at h2
        omega
      · split at h2
        · simp only [Bool.and_eq_true, decide_eq_true_eq, W.ix_iff, beq_iff_eq] at h2
          omega
        · split at h2
          · simp only [Bool.and_eq_true, decide_eq_true_eq, W.ix_iff, beq_iff_eq] at h2
            omega
          · cases h2
  exact ⟨r.group.toNat, r.kind.toNat, r.index.toNat, r.term.toNat, (r.vote + 1).toNat, by omega, by omega, by omega, by omega, by omega, by omega, by omega, by omega, by omega, by omega⟩

theorem payload_size {r : W.Rec} (h : W.may r = true) : (W.payload r).length ≤ 131117 := by
  obtain ⟨g, k, i, t, v, hg, hk, hi, ht, hv, lg, lk, li, lt, lv⟩ := may_nums h
  have hd := may_data h
  unfold W.payload
  simp only [List.length_append]
  have h1 := M.putVar_length9 (n := r.group.toNat) (by omega)
  have h2 := M.putVar_length9 (n := r.kind.toNat) (by omega)
  have h3 := M.putVar_length9 (n := r.index.toNat) (by omega)
  have h4 := M.putVar_length9 (n := r.term.toNat) (by omega)
  have h5 := M.putVar_length9 (n := (r.vote + 1).toNat) (by omega)
  have h6 : r.data.data.toList.length = r.data.size := by simp
  omega

set_option maxHeartbeats 800000 in
theorem putRecord_c (r : W.Rec) (w : World) (h : W.may r = true) :
    Calls Try.prog 31 #[recV r] w fun e w' => e = .returned (.string (W.recB r)) ∧ Below w.heap.size w w' := by
  have hp := payload_size h
  obtain ⟨g, k, i, t, v, hg, hk, hi, ht, hv, lg, lk, li, lt, lv⟩ := may_nums h
  have N1 : Hid _ := fun w => number_c g w (by omega)
  have N2 : Hid _ := fun w => number_c k w (by omega)
  have N3 : Hid _ := fun w => number_c i w (by omega)
  have N4 : Hid _ := fun w => number_c t w (by omega)
  have N5 : Hid _ := fun w => number_c v w (by omega)
  have L1 := M.putVar_length9 (n := g) (by omega)
  have L2 := M.putVar_length9 (n := k) (by omega)
  have L3 := M.putVar_length9 (n := i) (by omega)
  have L4 := M.putVar_length9 (n := t) (by omega)
  have L5 := M.putVar_length9 (n := v) (by omega)
  obtain ⟨rg, rk, ri, rt, rv, d⟩ := r
  dsimp only at hg hk hi ht hv
  subst hg hk hi ht
  have HF : Hid _ := fun w => framed_c ⟨(W.payload ⟨g, k, i, t, rv, d⟩).toArray⟩ w (by show (W.payload _).toArray.size ≤ _; rw [List.size_toArray]; omega)
  unfold W.recB
  obtain ⟨P, hP⟩ : ∃ P, P = (⟨(W.payload ⟨g, k, i, t, rv, d⟩).toArray⟩ : ByteArray) := ⟨_, rfl⟩
  have hP2 := hP
  unfold W.payload at hP2
  dsimp only at hP2
  rw [hv] at hP2
  simp only [Int.toNat_natCast] at hP2
  rw [← hP] at HF ⊢
  obtain ⟨p1, q1⟩ : ∃ p, p = (⟨(M.putVar g).toArray⟩ : ByteArray) := ⟨_, rfl⟩
  obtain ⟨p2, q2⟩ : ∃ p, p = (⟨(M.putVar k).toArray⟩ : ByteArray) := ⟨_, rfl⟩
  obtain ⟨p3, q3⟩ : ∃ p, p = (⟨(M.putVar i).toArray⟩ : ByteArray) := ⟨_, rfl⟩
  obtain ⟨p4, q4⟩ : ∃ p, p = (⟨(M.putVar t).toArray⟩ : ByteArray) := ⟨_, rfl⟩
  obtain ⟨p5, q5⟩ : ∃ p, p = (⟨(M.putVar v).toArray⟩ : ByteArray) := ⟨_, rfl⟩
  have HP : Hid (⟨#[]⟩ ++ p1 ++ p2 ++ p3 ++ p4 ++ p5 ++ d = P) := by
    show _ = _
    rw [hP2, q1, q2, q3, q4, q5]
    apply F.ext
    simp
  have z1 : p1.size ≤ 9 := by rw [q1]; show (M.putVar g).toArray.size ≤ 9; simpa using L1
  have z2 : p2.size ≤ 9 := by rw [q2]; show (M.putVar k).toArray.size ≤ 9; simpa using L2
  have z3 : p3.size ≤ 9 := by rw [q3]; show (M.putVar i).toArray.size ≤ 9; simpa using L3
  have z4 : p4.size ≤ 9 := by rw [q4]; show (M.putVar t).toArray.size ≤ 9; simpa using L4
  have z5 : p5.size ≤ 9 := by rw [q5]; show (M.putVar v).toArray.size ≤ 9; simpa using L5
  rw [← q1] at N1
  rw [← q2] at N2
  rw [← q3] at N3
  rw [← q4] at N4
  rw [← q5] at N5
  have hds : d.size ≤ 131072 := by have := may_data h; exact this
  clear q1 q2 q3 q4 q5 hP hP2 L1 L2 L3 L4 L5 hp h lg lk li lt
  unfold recV
  dsimp only
  have i0 : ∀ (a b c d e : Value) (w : World), (Instr.index 102 (.agg #[a, b, c, d, e]) (.int .i64 0)).run Try.prog w = .ok a w := fun _ _ _ _ _ _ => by kernel_rfl
  have i1 : ∀ (a b c d e : Value) (w : World), (Instr.index 102 (.agg #[a, b, c, d, e]) (.int .i64 1)).run Try.prog w = .ok b w := fun _ _ _ _ _ _ => by kernel_rfl
  have i2 : ∀ (a b c d e : Value) (w : World), (Instr.index 102 (.agg #[a, b, c, d, e]) (.int .i64 2)).run Try.prog w = .ok c w := fun _ _ _ _ _ _ => by kernel_rfl
  have i3 : ∀ (a b c d e : Value) (w : World), (Instr.index 102 (.agg #[a, b, c, d, e]) (.int .i64 3)).run Try.prog w = .ok d w := fun _ _ _ _ _ _ => by kernel_rfl
  have i4 : ∀ (a b c d e : Value) (w : World), (Instr.index 102 (.agg #[a, b, c, d, e]) (.int .i64 4)).run Try.prog w = .ok e w := fun _ _ _ _ _ _ => by kernel_rfl
  go_enter Try.func31, Try.ntmps31
  go_wp2
  refine wp_loop_rounds 6 ?_
  rw [rounds_succ]
  go_wp2_with fail
  refine Calls.mono (N1.out _) ?_
  rintro e w1 ⟨rfl, hb1⟩
  go_wp2
  rw [rounds_succ]
  go_wp2_with fail
  refine Calls.mono (N2.out _) ?_
  rintro e w2 ⟨rfl, hb2⟩
  go_wp2
  rw [rounds_succ]
  go_wp2_with fail
  refine Calls.mono (N3.out _) ?_
  rintro e w3 ⟨rfl, hb3⟩
  go_wp2
  rw [rounds_succ]
  go_wp2_with fail
  refine Calls.mono (N4.out _) ?_
  rintro e w4 ⟨rfl, hb4⟩
  go_wp2
  rw [rounds_succ]
  go_wp2_with fail
  refine Calls.mono (N5.out _) ?_
  rintro e w5 ⟨rfl, hb5⟩
  go_wp2
  have HB : Hid (Below w.heap.size w w5) := by
    have q := hb1.trans ((hb2.trans ((hb3.trans ((hb4.trans (hb5.mono hb4.size)).mono hb3.size)).mono hb2.size)).mono hb1.size)
    exact (below_alloc _ _).trans (q.mono (by simp))
  have c5 : w5.cell? ⟨w.heap.size, 5, none⟩ = some (.string d) := by
    have q := hb1.trans ((hb2.trans ((hb3.trans ((hb4.trans (hb5.mono hb4.size)).mono hb3.size)).mono hb2.size)).mono hb1.size)
    rw [q.cell (p := ⟨w.heap.size, 5, none⟩) (by simp)]
    exact World.cell?_alloc_mark _ _ _ _ _
  clear hb1 hb2 hb3 hb4 hb5
  rw [rounds_succ]
  go_wp2_with fail
  rw [HP.out]
  refine Calls.mono (HF.out _) ?_
  rintro e w6 ⟨rfl, hb6⟩
  go_wp2
  go_ret
  exact ⟨rfl, HB.out.trans (hb6.mono HB.out.size)⟩

end Go.Proofs.Ytpfnkjfbhcffiaa
