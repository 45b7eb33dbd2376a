/-
  What the log's records are as bytes: number, framed, putHead, putRecord; what may be: mayHard, mayEntry, mayCut, mayBase.
-/
import Derived.Test.YtpfnkjfbhcffiaaRows
import Derived.Test.YtpfnkjfbhcffiaaWlMath
import Derived.Test.YtpfnkjfbhcffiaaPutVar
import Derived.Test.YtpfnkjfbhcffiaaFrPut
namespace Go.Proofs.Ytpfnkjfbhcffiaa
open Go.RowKit

/-- A record by value. -/
def recV (r : W.Rec) : Value := .agg #[.int .i64 r.group, .int .i64 r.kind, .int .i64 r.index, .int .i64 r.term, .int .i64 r.vote, .string r.data]
def recO (r : W.Rec) : Array Value := #[.int .i64 r.group, .int .i64 r.kind, .int .i64 r.index, .int .i64 r.term, .int .i64 r.vote, .string r.data]

theorem number_c (n : Nat) (w : World) (hn : n < 9223372036854775808) :
    Calls Try.prog 67 #[.int .i64 (n : Int)] w fun e w' => e = .returned (.string ⟨(M.putVar n).toArray⟩) ∧ Below w.heap.size w w' := by
  have H : Hid _ := bits_PutVar_yes n w hn
  clear hn
  go_enter Try.func67, Try.ntmps67
  go_wp2_with fail
  refine Calls.mono H.out ?_
  rintro e w1 ⟨rfl, hb1⟩
  go_wp2
  go_ret
  exact ⟨rfl, hb1⟩

theorem framed_c (s : ByteArray) (w : World) (h : s.size ≤ 262144) :
    Calls Try.prog 68 #[.string s] w fun e w' => e = .returned (.string (F.record s)) ∧ Below w.heap.size w w' := by
  have H : Hid _ := frame_Put_yes s w h
  clear h
  go_enter Try.func68, Try.ntmps68
  go_wp2_with fail
  refine Calls.mono H.out ?_
  rintro e w1 ⟨rfl, hb1⟩
  go_wp2
  go_ret
  exact ⟨rfl, hb1⟩

theorem putHead_c (t : Nat) (w : World) (h : t ≤ 1) :
    Calls Try.prog 65 #[.int .i64 (t : Int)] w fun e w' => e = .returned (.string (W.head t)) ∧ Below w.heap.size w w' := by
  have H1 : Hid _ := number_c t w (by omega)
  have H2 : Hid _ := fun w => framed_c ⟨(M.putVar t).toArray⟩ w (by
    have := M.putVar_length9 (n := t) (by omega)
    show (M.putVar t).toArray.size ≤ _
    simp; omega)
  clear h
  go_enter Try.func65, Try.ntmps65
  go_wp2_with fail
  refine Calls.mono H1.out ?_
  rintro e w1 ⟨rfl, hb1⟩
  go_wp2_with fail
  refine Calls.mono (H2.out _) ?_
  rintro e w2 ⟨rfl, hb2⟩
  go_wp2
  go_ret
  exact ⟨rfl, hb1.trans (hb2.mono hb1.size)⟩

theorem isIndex_c (n : Int) (w : World) : Calls Try.prog 76 #[.int .i64 n] w fun e w' => e = .returned (.bool (W.ix n)) ∧ w' = w := by
  by_cases h : 0 ≤ n
  · have hd : decide (0 ≤ n) = true := decide_eq_true h
    by_cases h2 : n ≤ 1099511627776
    · have e1 : W.ix n = true := W.ix_iff.2 ⟨h, h2⟩
      have hd2 : decide (n ≤ 1099511627776) = true := decide_eq_true h2
      rw [e1]
      clear h h2 e1
      go_enter Try.func76, Try.ntmps76
      go_wp2
      go_ret
      exact ⟨rfl, rfl⟩
    · have e1 : W.ix n = false := by unfold W.ix; simp; omega
      have hd2 : decide (n ≤ 1099511627776) = false := decide_eq_false h2
      rw [e1]
      clear h h2 e1
      go_enter Try.func76, Try.ntmps76
      go_wp2
      go_ret
      exact ⟨rfl, rfl⟩
  · have hd : decide (0 ≤ n) = false := decide_eq_false h
    have e1 : W.ix n = false := by unfold W.ix; simp; omega
    rw [e1]
    clear h e1
    go_enter Try.func76, Try.ntmps76
    go_wp2
    go_ret
    exact ⟨rfl, rfl⟩

theorem isGroup_c (n : Int) (w : World) : Calls Try.prog 44 #[.int .i64 n] w fun e w' => e = .returned (.bool (W.isGroup n)) ∧ w' = w := by
  by_cases h : 0 ≤ n
  · have hd : decide (0 ≤ n) = true := decide_eq_true h
    by_cases h2 : n < 9
    · have e1 : W.isGroup n = true := W.isGroup_iff.2 ⟨h, h2⟩
      have hd2 : decide (n < 9) = true := decide_eq_true h2
      rw [e1]
      clear h h2 e1
      go_enter Try.func44, Try.ntmps44
      go_wp2
      go_ret
      exact ⟨rfl, rfl⟩
    · have e1 : W.isGroup n = false := by unfold W.isGroup; simp; omega
      have hd2 : decide (n < 9) = false := decide_eq_false h2
      rw [e1]
      clear h h2 e1
      go_enter Try.func44, Try.ntmps44
      go_wp2
      go_ret
      exact ⟨rfl, rfl⟩
  · have hd : decide (0 ≤ n) = false := decide_eq_false h
    have e1 : W.isGroup n = false := by unfold W.isGroup; simp; omega
    rw [e1]
    clear h e1
    go_enter Try.func44, Try.ntmps44
    go_wp2
    go_ret
    exact ⟨rfl, rfl⟩

theorem below_alloc (w : World) (o : Obj) : Below w.heap.size w (w.alloc o) := (Below.refl _ _).alloc (Nat.le_refl _) o

theorem mayHard_c (r : W.Rec) (w : World) : Calls Try.prog 47 #[recV r] w fun e w' => e = .returned (.bool (W.mayHard r)) ∧ Below w.heap.size w w' := by
  obtain ⟨g, k, i, t, v, d⟩ := r
  unfold W.mayHard recV
  dsimp only
  have H1 : Hid _ := isIndex_c t
  obtain ⟨b, hb⟩ : ∃ b, b = W.ix t := ⟨_, rfl⟩
  rw [← hb] at H1 ⊢
  clear hb
  go_enter Try.func47, Try.ntmps47
  go_wp2_with fail
  refine Calls.mono (H1.out _) ?_
  rintro e w1 ⟨rfl, hw⟩
  subst hw
  go_wp2
  all_goals (go_ret; refine ⟨?_, below_alloc _ _⟩; first | (simp_all; done) | (simp_all; omega))

set_option maxHeartbeats 400000 in
theorem mayBase_c (r : W.Rec) (w : World) : Calls Try.prog 56 #[recV r] w fun e w' => e = .returned (.bool (W.mayBase r)) ∧ Below w.heap.size w w' := by
  obtain ⟨g, k, i, t, v, d⟩ := r
  unfold W.mayBase recV
  dsimp only
  have H1 : Hid _ := isIndex_c i
  have H2 : Hid _ := isIndex_c t
  obtain ⟨b, hb⟩ : ∃ b, b = W.ix i := ⟨_, rfl⟩
  rw [← hb] at H1 ⊢
  obtain ⟨b2, hb2⟩ : ∃ b, b = W.ix t := ⟨_, rfl⟩
  rw [← hb2] at H2 ⊢
  obtain ⟨c, hc⟩ : ∃ c, c = decide (d.size ≤ 131072) := ⟨_, rfl⟩
  have hd : decide ((d.size : Int) ≤ 131072) = c := by rw [hc]; exact decide_eq_decide.2 (by omega)
  rw [← hc]
  clear hb hb2 hc
  cases b
  · go_enter Try.func56, Try.ntmps56
    go_wp2_with fail
    refine Calls.mono (H1.out _) ?_
    rintro e w1 ⟨rfl, hw⟩
    subst hw
    go_wp2
    go_ret
    exact ⟨rfl, below_alloc _ _⟩
  · cases c
    all_goals
      go_enter Try.func56, Try.ntmps56
      go_wp2_with fail
      refine Calls.mono (H1.out _) ?_
      rintro e w1 ⟨rfl, hw⟩
      subst hw
      go_wp2_with fail
      refine Calls.mono (H2.out _) ?_
      rintro e w1 ⟨rfl, hw⟩
      subst hw
      go_wp2
      all_goals (go_ret; refine ⟨?_, below_alloc _ _⟩; first | (simp_all; done) | (simp_all; omega))

theorem mayEntry_c (r : W.Rec) (w : World) : Calls Try.prog 50 #[recV r] w fun e w' => e = .returned (.bool (W.mayEntry r)) ∧ Below w.heap.size w w' := by
  have H1 : Hid _ := mayBase_c r
  unfold W.mayEntry
  obtain ⟨b, hb⟩ : ∃ b, b = W.mayBase r := ⟨_, rfl⟩
  rw [← hb] at H1 ⊢
  clear hb
  obtain ⟨g, k, i, t, v, d⟩ := r
  unfold recV at H1 ⊢
  dsimp only at H1 ⊢
  by_cases h : 1 ≤ i
  · have hd : decide (1 ≤ i) = true := decide_eq_true h
    rw [hd]
    clear h
    go_enter Try.func50, Try.ntmps50
    go_wp2_with fail
    refine Calls.mono (H1.out _) ?_
    rintro e w1 ⟨rfl, hw⟩
    go_wp2
    go_ret
    exact ⟨rfl, (below_alloc _ _).trans (hw.mono (below_alloc _ _).size)⟩
  · have hd : decide (1 ≤ i) = false := decide_eq_false h
    rw [hd]
    clear h
    go_enter Try.func50, Try.ntmps50
    go_wp2
    go_ret
    exact ⟨rfl, below_alloc _ _⟩

theorem mayCut_c (r : W.Rec) (w : World) : Calls Try.prog 53 #[recV r] w fun e w' => e = .returned (.bool (W.mayCut r)) ∧ Below w.heap.size w w' := by
  obtain ⟨g, k, i, t, v, d⟩ := r
  unfold W.mayCut recV
  dsimp only
  have H1 : Hid _ := isIndex_c i
  obtain ⟨b, hb⟩ : ∃ b, b = W.ix i := ⟨_, rfl⟩
  rw [← hb] at H1 ⊢
  clear hb
  by_cases h : 1 ≤ i
  · have hd : decide (1 ≤ i) = true := decide_eq_true h
    rw [hd]
    clear h
    go_enter Try.func53, Try.ntmps53
    go_wp2_with fail
    refine Calls.mono (H1.out _) ?_
    rintro e w1 ⟨rfl, hw⟩
    subst hw
    go_wp2
    all_goals (go_ret; refine ⟨?_, below_alloc _ _⟩; first | (simp_all; done) | (simp_all; omega))
  · have hd : decide (1 ≤ i) = false := decide_eq_false h
    rw [hd]
    clear h
    go_enter Try.func53, Try.ntmps53
    go_wp2
    go_ret
    exact ⟨rfl, below_alloc _ _⟩

end Go.Proofs.Ytpfnkjfbhcffiaa
