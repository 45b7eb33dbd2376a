/-
  A raft log that nobody made.
-/
import Derived.Test.YtamoapbbkaagdaaRlRead
namespace Go.Proofs.Ytamoapbbkaagdaa
open Go.RowKit

/-- No log, or one that New did not give. -/
def NoL (w : World) (v : Value) : Prop := v = .pointer none ∨ ∃ B, v = .pointer (some ⟨B, 0, none⟩) ∧ w.cell? ⟨B, 0, none⟩ = some (.bool false)

theorem NoL.below {w w' : World} {v : Value} (h : NoL w v) (hb : Below w.heap.size w w') : NoL w' v := by
  rcases h with h | ⟨B, h1, h2⟩
  · exact .inl h
  · exact .inr ⟨B, h1, (hb.cell (World.block_lt_of_cell? _ _ h2)).trans h2⟩

section
variable {w : World} {v : Value}

theorem isMade_no (h : NoL w v) : Calls Try.prog 31 #[v] w fun e w' => e = .returned (.bool false) ∧ w' = w := by
  rcases h with h | ⟨B, h1, h2⟩
  · subst h
    go_enter Try.func31, Try.ntmps31
    go_wp2
    go_ret
    exact ⟨rfl, rfl⟩
  · subst h1
    go_enter Try.func31, Try.ntmps31
    go_wp2
    go_ret
    exact ⟨rfl, rfl⟩

theorem Base_no (h : NoL w v) : Calls Try.prog 17 #[v] w fun e w' => e = .returned (.int .i64 0) ∧ w' = w := by
  have HM : Hid _ := isMade_no h
  clear h
  go_enter Try.func17, Try.ntmps17
  go_wp2_with fail
  refine Calls.mono HM.out ?_
  rintro e w1 ⟨rfl, hw⟩
  subst hw
  go_wp2
  go_ret
  exact ⟨rfl, rfl⟩

theorem Last_no (h : NoL w v) : Calls Try.prog 16 #[v] w fun e w' => e = .returned (.int .i64 0) ∧ w' = w := by
  have HM : Hid _ := isMade_no h
  clear h
  go_enter Try.func16, Try.ntmps16
  go_wp2_with fail
  refine Calls.mono HM.out ?_
  rintro e w1 ⟨rfl, hw⟩
  subst hw
  go_wp2
  go_ret
  exact ⟨rfl, rfl⟩

theorem within_no (h : NoL w v) (i a b : Int) : Calls Try.prog 34 #[v, .int .i64 i, .int .i64 a, .int .i64 b] w fun e w' => e = .returned (.int .i64 1) ∧ w' = w := by
  have HM : Hid _ := isMade_no h
  clear h
  go_enter Try.func34, Try.ntmps34
  go_wp2_with fail
  refine Calls.mono HM.out ?_
  rintro e w1 ⟨rfl, hw⟩
  subst hw
  go_wp2
  go_ret
  exact ⟨rfl, rfl⟩

theorem Newer_no (h : NoL w v) (i t : Int) : Calls Try.prog 19 #[v, .int .i64 i, .int .i64 t] w fun e w' => e = .returned (.bool false) ∧ w' = w := by
  have HM : Hid _ := isMade_no h
  clear h
  go_enter Try.func19, Try.ntmps19
  go_wp2_with fail
  refine Calls.mono HM.out ?_
  rintro e w1 ⟨rfl, hw⟩
  subst hw
  go_wp2
  go_ret
  exact ⟨rfl, rfl⟩

theorem Term_no (h : NoL w v) (i : Int) : Calls Try.prog 18 #[v, .int .i64 i] w fun e w' => e = .returned (.tuple #[.int .i64 0, .int .i64 1]) ∧ w' = w := by
  have HB : Hid _ := Base_no h
  have HL : Hid _ := Last_no h
  have HW : Hid _ := within_no h
  clear h
  go_enter Try.func18, Try.ntmps18
  go_wp2_with fail
  refine Calls.mono HB.out ?_
  rintro e w1 ⟨rfl, hw⟩
  subst hw
  go_wp2_with fail
  refine Calls.mono HL.out ?_
  rintro e w1 ⟨rfl, hw⟩
  subst hw
  go_wp2_with fail
  refine Calls.mono (HW.out _ _ _) ?_
  rintro e w1 ⟨rfl, hw⟩
  subst hw
  go_wp2
  go_ret2
  exact ⟨rfl, rfl⟩

theorem Cut_no (h : NoL w v) (i : Int) : Calls Try.prog 14 #[v, .int .i64 i] w fun e w' => e = .returned (.int .i64 1) ∧ w' = w := by
  have HB : Hid _ := Base_no h
  have HL : Hid _ := Last_no h
  have HW : Hid _ := within_no h
  clear h
  go_enter Try.func14, Try.ntmps14
  go_wp2_with fail
  refine Calls.mono HB.out ?_
  rintro e w1 ⟨rfl, hw⟩
  subst hw
  go_wp2_with fail
  refine Calls.mono HL.out ?_
  rintro e w1 ⟨rfl, hw⟩
  subst hw
  go_wp2_with fail
  refine Calls.mono (HW.out _ _ _) ?_
  rintro e w1 ⟨rfl, hw⟩
  subst hw
  go_wp2
  go_ret
  exact ⟨rfl, rfl⟩

theorem Compact_no (h : NoL w v) (i : Int) : Calls Try.prog 15 #[v, .int .i64 i] w fun e w' => e = .returned (.int .i64 1) ∧ w' = w := by
  have HB : Hid _ := Base_no h
  have HL : Hid _ := Last_no h
  have HW : Hid _ := within_no h
  clear h
  go_enter Try.func15, Try.ntmps15
  go_wp2_with fail
  refine Calls.mono HB.out ?_
  rintro e w1 ⟨rfl, hw⟩
  subst hw
  go_wp2_with fail
  refine Calls.mono HL.out ?_
  rintro e w1 ⟨rfl, hw⟩
  subst hw
  go_wp2_with fail
  refine Calls.mono (HW.out _ _ _) ?_
  rintro e w1 ⟨rfl, hw⟩
  subst hw
  go_wp2
  go_ret
  exact ⟨rfl, rfl⟩

theorem Slice_no (h : NoL w v) (i m : Int) : Calls Try.prog 21 #[v, .int .i64 i, .int .i64 m] w fun e w' => e = .returned (.tuple #[.slice none 0 0, .int .i64 1]) ∧ w' = w := by
  have HB : Hid _ := Base_no h
  have HL : Hid _ := Last_no h
  have HW : Hid _ := within_no h
  clear h
  by_cases c : m < 0
  · go_enter Try.func21, Try.ntmps21
    go_wp2
    go_ret2
    exact ⟨rfl, rfl⟩
  · go_enter Try.func21, Try.ntmps21
    go_wp2_with fail
    refine Calls.mono HB.out ?_
    rintro e w1 ⟨rfl, hw⟩
    subst hw
    go_wp2_with fail
    refine Calls.mono HL.out ?_
    rintro e w1 ⟨rfl, hw⟩
    subst hw
    go_wp2_with fail
    refine Calls.mono (HW.out _ _ _) ?_
    rintro e w1 ⟨rfl, hw⟩
    subst hw
    go_wp2
    go_ret2
    exact ⟨rfl, rfl⟩

theorem Append_no (h : NoL w v) (t : Int) (d : ByteArray) : Calls Try.prog 13 #[v, .agg #[.int .i64 t, .string d]] w fun e w' => e = .returned (.tuple #[.int .i64 0, .int .i64 1]) ∧ Below w.heap.size w w' := by
  have HM : Hid (∀ u, Below w.heap.size w u → Calls Try.prog 31 #[v] u fun e w' => e = .returned (.bool false) ∧ w' = u) := fun u hu => isMade_no (h.below hu)
  clear h
  go_enter Try.func13, Try.ntmps13
  go_wp2_with fail
  refine Calls.mono (HM.out _ (below_alloc _ _)) ?_
  rintro e w1 ⟨rfl, hw⟩
  subst hw
  go_wp2
  go_ret2
  exact ⟨rfl, below_alloc _ _⟩

theorem Entry_no (h : NoL w v) (i : Int) : Calls Try.prog 20 #[v, .int .i64 i] w fun e w' => e = .returned (.tuple #[.agg #[.int .i64 0, .string ⟨#[]⟩], .int .i64 1]) ∧ Below w.heap.size w w' := by
  obtain ⟨u, hu⟩ : ∃ u, u = w.alloc (.cells #[.int .i64 0, .string ⟨#[]⟩] 34) := ⟨_, rfl⟩
  have HU : Hid (Below w.heap.size w u) := by rw [hu]; exact below_alloc w _
  have hlu : NoL u v := h.below HU.out
  have HB : Hid _ := Base_no hlu
  have HL : Hid _ := Last_no hlu
  have HW : Hid _ := within_no hlu
  obtain ⟨bx, hbx⟩ : ∃ bx, bx = w.heap.size := ⟨_, rfl⟩
  have HBX : Hid (bx = w.heap.size) := hbx
  have u0 : u.cell? ⟨bx, 0, none⟩ = some (.int .i64 0) := by rw [hu, hbx]; exact World.cell?_alloc_mark w _ _ _ 0
  have u1 : u.cell? ⟨bx, 1, none⟩ = some (.string ⟨#[]⟩) := by rw [hu, hbx]; exact World.cell?_alloc_mark w _ _ _ 1
  have f0 : u.frozen? ⟨bx, 0, none⟩ = false := by rw [hu, hbx, World.frozen?_alloc_mark]; simp
  have f1 : u.frozen? ⟨bx, 1, none⟩ = false := by rw [hu, hbx, World.frozen?_alloc_mark]; simp
  clear h hlu
  go_enter Try.func20, Try.ntmps20
  go_wp2_with fail
  rw [← hu]
  try rw [← hbx]
  clear hu hbx
  refine Calls.mono HB.out ?_
  rintro e w1 ⟨rfl, hw⟩
  subst hw
  go_wp2_with fail
  refine Calls.mono HL.out ?_
  rintro e w1 ⟨rfl, hw⟩
  subst hw
  go_wp2_with fail
  refine Calls.mono (HW.out _ _ _) ?_
  rintro e w1 ⟨rfl, hw⟩
  subst hw
  go_wp2
  refine bodyPost_ret (v := .tuple #[.agg #[.int .i64 0, .string ⟨#[]⟩], .int .i64 1]) ?qres rfl ?qpost
  case qres => simp [results, Try.results20, go_sem, u0, u1]
  case qpost =>
    refine ⟨rfl, ?_⟩
    have hb := HU.out
    have e1 := HBX.out
    exact (hb.setCell (p := ⟨bx, 0, none⟩) (by show _ ≤ bx; omega) _).setCell (p := ⟨bx, 1, none⟩) (by show _ ≤ bx; omega) _

end
end Go.Proofs.Ytamoapbbkaagdaa
