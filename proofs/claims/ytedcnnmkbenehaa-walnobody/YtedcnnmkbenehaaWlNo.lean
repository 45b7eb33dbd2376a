/-
  What a log that nobody opened answers.
-/
import Derived.Test.YtedcnnmkbenehaaWlRec
import Derived.Laws.ResultCell
namespace Go.Proofs.Ytedcnnmkbenehaa
open Go.RowKit

/-- No log: nil, or one without a disk. -/
def NoLog (w : World) (l : Value) : Prop := l = .pointer none ∨ ∃ B, l = .pointer (some ⟨B, 0, none⟩) ∧ w.cell? ⟨B, 0, none⟩ = some (.pointer none)
theorem NoLog.below {w w' : World} {l : Value} (h : NoLog w l) (hb : Below w.heap.size w w') : NoLog w' l := by
  rcases h with h | ⟨B, h, hc⟩
  · exact .inl h
  · refine .inr ⟨B, h, ?_⟩
    rw [hb.cell (p := ⟨B, 0, none⟩) (World.block_lt_of_cell? w ⟨B, 0, none⟩ hc)]
    exact hc

theorem made_nolog {w : World} {l : Value} (h : NoLog w l) : Calls Try.prog 33 #[l] w fun e w' => e = .returned (.bool false) ∧ w' = w := by
  rcases h with rfl | ⟨B, rfl, hc⟩
  · go_enter Try.func33, Try.ntmps33
    go_wp2
    go_ret
    exact ⟨rfl, rfl⟩
  · go_enter Try.func33, Try.ntmps33
    go_wp2
    go_ret
    exact ⟨rfl, rfl⟩

theorem Append_nolog {w : World} {l : Value} (h : NoLog w l) (r : W.Rec) : Calls Try.prog 17 #[l, recV r] w fun e w' => e = .returned (.int .i64 1) ∧ Below w.heap.size w w' := by
  have HM : Hid (∀ u, Below w.heap.size w u → Calls Try.prog 33 #[l] u fun e w' => e = .returned (.bool false) ∧ w' = u) := fun u hu => made_nolog (h.below hu)
  obtain ⟨rg, rk, i, t, vv, d⟩ := r
  unfold recV
  dsimp only
  clear h
  go_enter Try.func17, Try.ntmps17
  go_wp2_with fail
  refine Calls.mono (HM.out _ (below_alloc _ _)) ?_
  rintro e w1 ⟨rfl, hw⟩
  subst hw
  go_wp2
  go_ret
  exact ⟨rfl, below_alloc _ _⟩

theorem Sync_nolog {w : World} {l : Value} (h : NoLog w l) : Calls Try.prog 19 #[l] w fun e w' => e = .returned (.int .i64 1) ∧ w' = w := by
  have HM : Hid _ := made_nolog h
  clear h
  go_enter Try.func19, Try.ntmps19
  go_wp2_with fail
  refine Calls.mono HM.out ?_
  rintro e w1 ⟨rfl, hw⟩
  subst hw
  go_wp2
  go_ret
  exact ⟨rfl, rfl⟩

theorem Clean_nolog {w : World} {l : Value} (h : NoLog w l) : Calls Try.prog 21 #[l] w fun e w' => e = .returned (.int .i64 1) ∧ w' = w := by
  have HM : Hid _ := made_nolog h
  clear h
  go_enter Try.func21, Try.ntmps21
  go_wp2_with fail
  refine Calls.mono HM.out ?_
  rintro e w1 ⟨rfl, hw⟩
  subst hw
  go_wp2
  go_ret
  exact ⟨rfl, rfl⟩

theorem Size_nolog {w : World} {l : Value} (h : NoLog w l) : Calls Try.prog 20 #[l] w fun e w' => e = .returned (.int .i64 0) ∧ w' = w := by
  have HM : Hid _ := made_nolog h
  clear h
  go_enter Try.func20, Try.ntmps20
  go_wp2_with fail
  refine Calls.mono HM.out ?_
  rintro e w1 ⟨rfl, hw⟩
  subst hw
  go_wp2
  go_ret
  exact ⟨rfl, rfl⟩

theorem Saved_nolog {w : World} {l : Value} (h : NoLog w l) (g : Int) : Calls Try.prog 25 #[l, .int .i64 g] w fun e w' => e = .returned (.tuple #[.agg #[.int .i64 0, .int .i64 0, .int .i64 0, .int .i64 0, .string ⟨#[]⟩, .slice none 0 0], .int .i64 1]) ∧ Below w.heap.size w w' := by
  have HM : Hid (∀ u, Below w.heap.size w u → Calls Try.prog 33 #[l] u fun e w' => e = .returned (.bool false) ∧ w' = u) := fun u hu => made_nolog (h.below hu)
  clear h
  go_enter Try.func25, Try.ntmps25
  go_wp2_with fail
  refine Calls.mono (HM.out _ (below_alloc _ _)) ?_
  rintro e w1 ⟨rfl, hw⟩
  subst hw
  go_wp2
  refine bodyPost_ret (v := .tuple #[.agg #[.int .i64 0, .int .i64 0, .int .i64 0, .int .i64 0, .string ⟨#[]⟩, .slice none 0 0], .int .i64 1]) ?qres rfl ?qpost
  case qres => simp [results, Try.results25, go_sem]
  case qpost => exact ⟨rfl, below_alloc _ _⟩

end Go.Proofs.Ytedcnnmkbenehaa
