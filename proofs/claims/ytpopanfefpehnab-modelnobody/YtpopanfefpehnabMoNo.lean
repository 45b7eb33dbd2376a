/-
  A model that nobody made.
-/
import Derived.Test.YtpopanfefpehnabMoFresh
namespace Go.Proofs.Ytpopanfefpehnab
open Go.RowKit

/-- A model that nobody made. -/
def NoM (v : Value) (X : World) : Prop := v = .pointer none ∨ ∃ b, v = .pointer (some ⟨b, 0, none⟩) ∧ X.cell? ⟨b, 0, none⟩ = some (.map none)
theorem NoM.below {v : Value} {X Y : World} (h : NoM v X) (hb : Below X.heap.size X Y) : NoM v Y := by
  rcases h with h | ⟨b, h1, h2⟩
  · exact .inl h
  · exact .inr ⟨b, h1, (hb.cell (p := ⟨b, 0, none⟩) (World.block_lt_of_cell? _ _ h2)).trans h2⟩

theorem made_no {v : Value} {w : World} (h : NoM v w) : Calls Try.prog 16 #[v] w fun e w' => e = .returned (.bool false) ∧ w' = w := by
  rcases h with rfl | ⟨b, rfl, h2⟩
  · go_enter Try.func16, Try.ntmps16
    go_wp2
    go_ret
    exact ⟨rfl, rfl⟩
  · have hq : ∀ X : World, (binOp .neq 34 (.map none) (.map none)).run Try.prog X = .ok (.bool false) X := fun X => by kernel_rfl
    go_enter Try.func16, Try.ntmps16
    go_wp2
    go_ret
    exact ⟨rfl, rfl⟩

theorem find_no {v : Value} {w : World} (h : NoM v w) (x y : ByteArray) : Calls Try.prog 25 #[v, .string x, .string y] w fun e w' => e = .returned (.tuple #[.pointer none, .int .i64 1]) ∧ w' = w := by
  have HM : Hid _ := made_no h
  clear h
  go_enter Try.func25, Try.ntmps25
  go_wp2_with fail
  refine Calls.mono HM.out ?_
  rintro e w1 ⟨rfl, rfl⟩
  go_wp2
  go_ret2
  exact ⟨rfl, rfl⟩
theorem members_no {v : Value} {w : World} (h : NoM v w) (x y : ByteArray) : Calls Try.prog 11 #[v, .string x, .string y] w fun e w' => e = .returned (.tuple #[.slice none 0 0, .int .i64 1]) ∧ w' = w := by
  have HM : Hid _ := find_no h x y
  clear h
  go_enter Try.func11, Try.ntmps11
  go_wp2_with fail
  refine Calls.mono HM.out ?_
  rintro e w1 ⟨rfl, rfl⟩
  go_wp2
  go_ret2
  exact ⟨rfl, rfl⟩
theorem len_no {v : Value} {w : World} (h : NoM v w) (x y : ByteArray) : Calls Try.prog 12 #[v, .string x, .string y] w fun e w' => e = .returned (.tuple #[.int .i64 0, .int .i64 1]) ∧ w' = w := by
  have HM : Hid _ := find_no h x y
  clear h
  go_enter Try.func12, Try.ntmps12
  go_wp2_with fail
  refine Calls.mono HM.out ?_
  rintro e w1 ⟨rfl, rfl⟩
  go_wp2
  go_ret2
  exact ⟨rfl, rfl⟩
theorem channels_no {v : Value} {w : World} (h : NoM v w) (x : ByteArray) : Calls Try.prog 14 #[v, .string x] w fun e w' => e = .returned (.slice none 0 0) ∧ w' = w := by
  have HM : Hid _ := made_no h
  clear h
  go_enter Try.func14, Try.ntmps14
  go_wp2_with fail
  refine Calls.mono HM.out ?_
  rintro e w1 ⟨rfl, rfl⟩
  go_wp2
  go_ret
  exact ⟨rfl, rfl⟩
theorem copy_no {v : Value} {w : World} (h : NoM v w) : Calls Try.prog 15 #[v] w fun e w' => e = .returned (.pointer none) ∧ w' = w := by
  have HM : Hid _ := made_no h
  clear h
  go_enter Try.func15, Try.ntmps15
  go_wp2_with fail
  refine Calls.mono HM.out ?_
  rintro e w1 ⟨rfl, rfl⟩
  go_wp2
  go_ret
  exact ⟨rfl, rfl⟩

set_option maxHeartbeats 800000 in
set_option maxRecDepth 20000 in
theorem do_no {v : Value} {w : World} (h : NoM v w) (o : Mo.Op) : Calls Try.prog 8 #[v, .agg #[.int .i64 o.kind, .string o.space, .string o.channel, .string o.user, .string o.text, .string o.toSpace, .string o.to, .int .i64 o.frm, .int .i64 o.most]] w fun e w' => e = .returned (.agg #[.int .i64 1, .int .i64 0, .slice none 0 0]) ∧ Below w.heap.size w w' := by
  obtain ⟨u0, hu0⟩ : ∃ u0, u0 = w.alloc (.cells #[.int .i64 o.kind, .string o.space, .string o.channel, .string o.user, .string o.text, .string o.toSpace, .string o.to, .int .i64 o.frm, .int .i64 o.most] 30) := ⟨_, rfl⟩
  obtain ⟨u, hu⟩ : ∃ u, u = u0.alloc (.cells #[.int .i64 0, .int .i64 0, .slice none 0 0] 27) := ⟨_, rfl⟩
  have hR := RxOf.of w #[.int .i64 o.kind, .string o.space, .string o.channel, .string o.user, .string o.text, .string o.toSpace, .string o.to, .int .i64 o.frm, .int .i64 o.most] hu0 hu
  have HM : Hid _ := made_no (h.below hR.below)
  have HR : Hid (RxOf w u #[.int .i64 o.kind, .string o.space, .string o.channel, .string o.user, .string o.text, .string o.toSpace, .string o.to, .int .i64 o.frm, .int .i64 o.most]) := hR
  clear h hR
  go_enter Try.func8, Try.ntmps8
  go_wp2_with fail
  rw [← hu0, ← hu]
  refine Calls.mono HM.out ?_
  rintro e w1 ⟨rfl, hw1⟩
  have hw1 := hw1.symm
  subst hw1
  clear hu hu0
  obtain ⟨r0, r1, r2, g0, g1, g2⟩ := HR.out.re u (Below.refl _ _)
  go_wp2
  obtain ⟨x0, x1, x2⟩ := fin3_cells r0 r1 r2 (.int .i64 1) (.int .i64 0) (.slice none 0 0)
  have HF : Hid (Below w.heap.size w (fin3 u (w.heap.size + 1) (.int .i64 1) (.int .i64 0) (.slice none 0 0))) := fin3_below HR.out.below (Nat.le_succ _) _ _ _
  obtain ⟨Fw, hFw⟩ : ∃ Fw, Fw = fin3 u (w.heap.size + 1) (.int .i64 1) (.int .i64 0) (.slice none 0 0) := ⟨_, rfl⟩
  rw [← hFw] at x0 x1 x2 HF
  unfold fin3 at hFw
  rw [← hFw]
  clear hFw
  refine bodyPost_ret (v := .agg #[.int .i64 1, .int .i64 0, .slice none 0 0]) ?qres rfl ?qpost
  case qres => simp [results, Try.results8, go_sem, x0, x1, x2]
  case qpost => exact ⟨rfl, HF.out⟩

theorem samePosts_nil (w : World) : Calls Try.prog 28 #[.slice none 0 0, .slice none 0 0] w fun e w' => e = .returned (.bool true) ∧ w' = w := by
  go_enter Try.func28, Try.ntmps28
  go_wp2
  go_loop [5] (fun i => i = .int .i64 0) (fun _ => 0)
  case atStart => rfl
  case round =>
    subst hrel
    go_wp2
    go_ret
    exact ⟨rfl, rfl⟩
set_option maxHeartbeats 800000 in
theorem same_nil (w : World) : Calls Try.prog 13 #[.agg #[.int .i64 1, .int .i64 0, .slice none 0 0], .agg #[.int .i64 1, .int .i64 0, .slice none 0 0]] w fun e w' => e = .returned (.bool true) ∧ Below w.heap.size w w' := by
  have HS : Hid (∀ X, Calls Try.prog 28 #[.slice none 0 0, .slice none 0 0] X fun e w' => e = .returned (.bool true) ∧ w' = X) := samePosts_nil
  have HB : Hid (∀ o o', Below w.heap.size w ((w.alloc o).alloc o')) := fun o o' => (below_alloc w o).trans ((below_alloc _ o').mono (by simp))
  go_enter Try.func13, Try.ntmps13
  go_wp2_with fail
  refine (HS.out _).mono ?_
  rintro e w1 ⟨rfl, hw1⟩
  have hw1 := hw1.symm
  subst hw1
  go_wp2
  go_ret
  exact ⟨rfl, HB.out _ _⟩

/-- A call by its contract, as one step, whatever its guard. -/
theorem stepCallG {P : Program} {w : World} {ops : Array Oper} {o : Oper} {a : Act} {K : Act → World → Prop} {Q : Exit → Act → World → Prop} {E : Prop} (d : Nat) (hd : o.dst = some d) (hw : Region.wanted o (yielded ops a.tmps) = true) (f : FuncId) (args : Array Value)
    (hrun : (execOp a.eval o).run P w = .ok (.enter f args) w) {R : Ending → World → Prop} (hc : Calls P f args w R) (h : ∀ e w', R e w' → ∃ v, e = .returned v ∧ K (a.put (some d) v) w') :
    if Region.wanted o (yielded ops a.tmps) = true then Oper.wp P o a w K Q else E := by
  rw [if_pos hw]
  unfold Oper.wp
  rw [hrun, Oper.upon_enter]
  refine hc.mono fun e w'' hh => ?_
  obtain ⟨v, rfl, hk⟩ := h e w'' hh
  show K (a.put o.dst v) w''
  rw [hd]
  exact hk

end Go.Proofs.Ytpopanfefpehnab
