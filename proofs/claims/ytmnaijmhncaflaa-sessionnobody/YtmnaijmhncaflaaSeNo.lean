/-
  A table that nobody made.
-/
import Derived.Test.YtmnaijmhncaflaaSeFind
namespace Go.Proofs.Ytmnaijmhncaflaa
open Go.RowKit

/-- No table, or one that New did not give. -/
def NoT (w : World) (v : Value) : Prop := v = .pointer none ∨ ∃ B, v = .pointer (some ⟨B, 0, none⟩) ∧ w.cell? ⟨B, 0, none⟩ = some (.map none)

theorem NoT.below {w w' : World} {v : Value} (h : NoT w v) (hb : Below w.heap.size w w') : NoT w' v := by
  rcases h with h | ⟨B, h1, h2⟩
  · exact .inl h
  · exact .inr ⟨B, h1, (hb.cell (World.block_lt_of_cell? _ _ h2)).trans h2⟩

section
variable {w : World} {v : Value}
theorem isMadeT_no (h : NoT w v) : Calls Try.prog 23 #[v] w fun e w' => e = .returned (.bool false) ∧ w' = w := by
  rcases h with rfl | ⟨b, rfl, h2⟩
  · go_enter Try.func23, Try.ntmps23
    go_wp2
    go_ret
    exact ⟨rfl, rfl⟩
  · have hq : ∀ X : World, (binOp .neq 54 (.map none) (.map none)).run Try.prog X = .ok (.bool false) X := fun X => by kernel_rfl
    go_enter Try.func23, Try.ntmps23
    go_wp2
    go_ret
    exact ⟨rfl, rfl⟩
theorem LenT_no (h : NoT w v) : Calls Try.prog 18 #[v] w fun e w' => e = .returned (.int .i64 0) ∧ w' = w := by
  have HM : Hid _ := isMadeT_no h
  clear h
  go_enter Try.func18, Try.ntmps18
  go_wp2_with fail
  refine Calls.mono HM.out ?_
  rintro e w1 ⟨rfl, rfl⟩
  go_wp2
  go_ret
  exact ⟨rfl, rfl⟩
theorem IdsT_no (h : NoT w v) : Calls Try.prog 20 #[v] w fun e w' => e = .returned (.slice none 0 0) ∧ w' = w := by
  have HM : Hid _ := isMadeT_no h
  clear h
  go_enter Try.func20, Try.ntmps20
  go_wp2_with fail
  refine Calls.mono HM.out ?_
  rintro e w1 ⟨rfl, rfl⟩
  go_wp2
  go_ret
  exact ⟨rfl, rfl⟩
theorem CopyT_no (h : NoT w v) : Calls Try.prog 16 #[v] w fun e w' => e = .returned (.pointer none) ∧ w' = w := by
  have HM : Hid _ := isMadeT_no h
  clear h
  go_enter Try.func16, Try.ntmps16
  go_wp2_with fail
  refine Calls.mono HM.out ?_
  rintro e w1 ⟨rfl, rfl⟩
  go_wp2
  go_ret
  exact ⟨rfl, rfl⟩
theorem PutT_no (h : NoT w v) (a b e t : Int) : Calls Try.prog 12 #[v, .agg #[.int .i64 a, .int .i64 b], .agg #[.int .i64 e, .int .i64 t, .slice none 0 0]] w fun e w' => e = .returned (.int .i64 1) ∧ Below w.heap.size w w' := by
  have hA : ∀ o o', Below w.heap.size w ((w.alloc o).alloc o') := fun o o' => (below_alloc w o).trans ((below_alloc _ o').mono (by simp))
  have HM : Hid (∀ o o', Calls Try.prog 23 #[v] ((w.alloc o).alloc o') fun e w' => e = .returned (.bool false) ∧ w' = ((w.alloc o).alloc o')) := fun o o' => isMadeT_no (h.below (hA o o'))
  have HA : Hid (∀ o o', Below w.heap.size w ((w.alloc o).alloc o')) := hA
  clear h hA
  go_enter Try.func12, Try.ntmps12
  go_wp2_with fail
  refine (HM.out _ _).mono ?_
  rintro e w1 ⟨rfl, rfl⟩
  go_wp2
  go_ret
  exact ⟨rfl, HA.out _ _⟩
theorem FindT_no (h : NoT w v) (a b : Int) : Calls Try.prog 13 #[v, .agg #[.int .i64 a, .int .i64 b]] w fun e w' => e = .returned (.tuple #[.agg #[.int .i64 0, .int .i64 0, .slice none 0 0], .int .i64 1]) ∧ Below w.heap.size w w' := by
  obtain ⟨u, hu⟩ : ∃ u, u = (w.alloc (.cells #[.int .i64 a, .int .i64 b] 30)).alloc (.cells #[.int .i64 0, .int .i64 0, .slice none 0 0] 34) := ⟨_, rfl⟩
  have hF := Fx.of w a b rfl hu
  have HM : Hid _ := isMadeT_no (h.below hF.below)
  obtain ⟨br, hbr⟩ : ∃ br, br = w.heap.size + 1 := ⟨_, rfl⟩
  obtain ⟨x0, x1, x2, f0, f1, f2⟩ := hF.re u (Below.refl _ _)
  rw [← hbr] at x0 x1 x2 f0 f1 f2
  have HE : Hid (Below w.heap.size w u ∧ w.heap.size ≤ br) := ⟨hF.below, by omega⟩
  clear h hF
  go_enter Try.func13, Try.ntmps13
  go_wp2_with fail
  rw [← hu, ← hbr]
  clear hu hbr
  refine Calls.mono HM.out ?_
  rintro e w1 ⟨rfl, hw⟩
  subst hw
  go_wp2
  refine bodyPost_ret (v := .tuple #[.agg #[.int .i64 0, .int .i64 0, .slice none 0 0], .int .i64 1]) ?qres rfl ?qpost
  case qres => simp [results, Try.results13, go_sem, x0, x1, x2]
  case qpost => exact ⟨rfl, fin3_below HE.out.1 HE.out.2 _ _ _⟩
end

end Go.Proofs.Ytmnaijmhncaflaa
