/-
  A net that nobody made.
-/
import Derived.Test.YtfkhnbikobjpfaaNnFresh
namespace Go.Proofs.Ytfkhnbikobjpfaa
open Go.RowKit

/-- No net, or one that New did not give. -/
def NoQ (w : World) (v : Value) : Prop := v = .pointer none ∨ ∃ B, v = .pointer (some ⟨B, 0, none⟩) ∧ w.cell? ⟨B, 0, none⟩ = some (.int .i64 0)

theorem NoQ.below {w w' : World} {v : Value} (h : NoQ w v) (hb : Below w.heap.size w w') : NoQ w' v := by
  rcases h with h | ⟨B, h1, h2⟩
  · exact .inl h
  · exact .inr ⟨B, h1, (hb.cell (World.block_lt_of_cell? _ _ h2)).trans h2⟩

section
variable {w : World} {v : Value}

theorem isMade_no (h : NoQ w v) : Calls Try.prog 22 #[v] w fun e w' => e = .returned (.bool false) ∧ w' = w := by
  rcases h with h | ⟨B, h1, h2⟩
  · subst h
    go_enter Try.func22, Try.ntmps22
    go_wp2
    go_ret
    exact ⟨rfl, rfl⟩
  · subst h1
    go_enter Try.func22, Try.ntmps22
    go_wp2
    go_ret
    exact ⟨rfl, rfl⟩

theorem Len_no (h : NoQ w v) : Calls Try.prog 11 #[v] w fun e w' => e = .returned (.int .i64 0) ∧ w' = w := by
  have HM : Hid _ := isMade_no h
  clear h
  go_enter Try.func11, Try.ntmps11
  go_wp2_with fail
  refine Calls.mono HM.out ?_
  rintro e w1 ⟨rfl, hw⟩
  subst hw
  go_wp2
  go_ret
  exact ⟨rfl, rfl⟩

theorem Between_no (h : NoQ w v) (a b : Int) : Calls Try.prog 15 #[v, .int .i64 a, .int .i64 b] w fun e w' => e = .returned (.int .i64 0) ∧ w' = w := by
  have HM : Hid _ := isMade_no h
  clear h
  go_enter Try.func15, Try.ntmps15
  go_wp2_with fail
  refine Calls.mono HM.out ?_
  rintro e w1 ⟨rfl, hw⟩
  subst hw
  go_wp2
  go_ret
  exact ⟨rfl, rfl⟩

theorem Twice_no (h : NoQ w v) (k : Int) : Calls Try.prog 14 #[v, .int .i64 k] w fun e w' => e = .returned (.bool false) ∧ w' = w := by
  have HM : Hid _ := Len_no h
  clear h
  go_enter Try.func14, Try.ntmps14
  go_wp2_with fail
  refine Calls.mono HM.out ?_
  rintro e w1 ⟨rfl, hw⟩
  subst hw
  go_wp2
  go_ret
  exact ⟨rfl, rfl⟩

theorem Cut_no (h : NoQ w v) (k : Int) : Calls Try.prog 16 #[v, .int .i64 k] w fun e w' => e = .returned (.int .i64 0) ∧ Below w.heap.size w w' := by
  have HM : Hid _ := Len_no (h.below (below_alloc w (.cells #[.int .i64 k] 3)))
  clear h
  go_enter Try.func16, Try.ntmps16
  go_wp2_with fail
  refine Calls.mono HM.out ?_
  rintro e w1 ⟨rfl, hw⟩
  subst hw
  go_wp2
  go_ret
  exact ⟨rfl, below_alloc _ _⟩

theorem Put_no (h : NoQ w v) (a b : Int) (t : ByteArray) : Calls Try.prog 12 #[v, .agg #[.int .i64 a, .int .i64 b, .string t]] w fun e w' => e = .returned (.int .i64 1) ∧ Below w.heap.size w w' := by
  have HM : Hid _ := isMade_no (h.below (below_alloc w (.cells #[.int .i64 a, .int .i64 b, .string t] 43)))
  clear h
  go_enter Try.func12, Try.ntmps12
  go_wp2_with fail
  refine Calls.mono HM.out ?_
  rintro e w1 ⟨rfl, hw⟩
  subst hw
  go_wp2
  go_ret
  exact ⟨rfl, below_alloc _ _⟩

theorem TakeQ_no (h : NoQ w v) (k : Int) : Calls Try.prog 13 #[v, .int .i64 k] w fun e w' => e = .returned (.tuple #[.agg #[.int .i64 0, .int .i64 0, .string ⟨#[]⟩], .bool false]) ∧ Below w.heap.size w w' := by
  obtain ⟨u, hu⟩ : ∃ u, u = w.alloc (.cells #[.int .i64 0, .int .i64 0, .string ⟨#[]⟩] 43) := ⟨_, rfl⟩
  have hbu : Below w.heap.size w u := by rw [hu]; exact below_alloc w _
  have HL : Hid _ := Len_no (h.below hbu)
  have HB : Hid _ := hbu
  obtain ⟨bx, hbx⟩ : ∃ bx, bx = w.heap.size := ⟨_, rfl⟩
  have x0 : u.cell? ⟨bx, 0, none⟩ = some (.int .i64 0) := by rw [hu, hbx]; exact World.cell?_alloc_mark w _ _ _ 0
  have x1 : u.cell? ⟨bx, 1, none⟩ = some (.int .i64 0) := by rw [hu, hbx]; exact World.cell?_alloc_mark w _ _ _ 1
  have x2 : u.cell? ⟨bx, 2, none⟩ = some (.string ⟨#[]⟩) := by rw [hu, hbx]; exact World.cell?_alloc_mark w _ _ _ 2
  have f0 : u.frozen? ⟨bx, 0, none⟩ = false := by rw [hu, hbx, World.frozen?_alloc_mark]; simp
  have f1 : u.frozen? ⟨bx, 1, none⟩ = false := by rw [hu, hbx, World.frozen?_alloc_mark]; simp
  have f2 : u.frozen? ⟨bx, 2, none⟩ = false := by rw [hu, hbx, World.frozen?_alloc_mark]; simp
  have HX : Hid (bx = w.heap.size) := hbx
  clear h hbu
  go_enter Try.func13, Try.ntmps13
  go_wp2_with fail
  rw [← hu]
  try rw [← hbx]
  clear hu hbx
  refine Calls.mono HL.out ?_
  rintro e w1 ⟨rfl, hw⟩
  subst hw
  go_wp2
  refine bodyPost_ret (v := .tuple #[.agg #[.int .i64 0, .int .i64 0, .string ⟨#[]⟩], .bool false]) ?qres rfl ?qpost
  case qres => simp [results, Try.results13, go_sem, x0, x1, x2]
  case qpost =>
    refine ⟨rfl, ?_⟩
    have e1 := HX.out
    exact ((HB.out.setCell (p := ⟨bx, 0, none⟩) (by show _ ≤ bx; omega) _).setCell (p := ⟨bx, 1, none⟩) (by show _ ≤ bx; omega) _).setCell (p := ⟨bx, 2, none⟩) (by show _ ≤ bx; omega) _

end
end Go.Proofs.Ytfkhnbikobjpfaa
