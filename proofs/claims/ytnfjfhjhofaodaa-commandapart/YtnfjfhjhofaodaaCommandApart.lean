/-
  For every two commands: CommandApart answers true: of two commands that have bytes the bytes are the same if and only if the commands are; the arguments read afterwards as before. No condition.
-/
import Derived.Test.YtnfjfhjhofaodaaCmEq
import Derived.Test.YtnfjfhjhofaodaaCmArgs
import Derived.Test.YtnfjfhjhofaodaaCmShort
import Derived.ProofKit
import Derived.OpenShut
import Derived.ShutString
import Derived.SizedLaws
namespace Go.Proofs.Ytnfjfhjhofaodaa.commandApart
open Go.ChangeShapes Go.WideShapes Go.ChangeAt Go.RowKit
open Go.ChangeMaps (open_string shut_string)

theorem apart_eq (c d : CmdD) {x y : List UInt8} (hx : Cm.enc c.pss.flatten = some x) (hy : Cm.enc d.pss.flatten = some y) : ((putS ⟨#[67]⟩ (some x)).toList == (putS ⟨#[67]⟩ (some y)).toList) = cmdEq c d := by
  rw [beqB12, Bool.eq_iff_iff, decide_eq_true_eq, cmdEq_iff]
  constructor
  · intro h
    have h2 := congrArg (fun s : ByteArray => s.data.toList) h
    simp only [putS] at h2
    have h3 : x = y := by simpa using h2
    subst h3
    exact CmdD.inj (Cm.enc_inj rfl c.small d.small hx hy)
  · rintro rfl
    rw [hx] at hy
    injection hy with hy
    rw [hy]

theorem bigBelow {u X Y : World} (h : Below u.heap.size u X) (h2 : Below X.heap.size X Y) : Below u.heap.size u Y := h.trans ⟨h2.os, h2.tape, h2.output, h2.size, fun k hk => h2.block k (Nat.lt_of_lt_of_le hk h.size)⟩

set_option maxHeartbeats 1600000 in
set_option maxRecDepth 100000 in
theorem walk (c d : CmdD) (w : World) (bc : c.Ok) (bd : d.Ok) :
    Calls Try.prog 7 #[.agg c.cells.toArray, .agg d.cells.toArray] w fun e w' => e = .returned (.bool true) ∧ Below w.heap.size w w' := by
  obtain ⟨u, hu⟩ : ∃ u, u = (w.alloc (.cells c.cells.toArray 55)).alloc (.cells d.cells.toArray 55) := ⟨_, rfl⟩
  have hus : u.heap.size = w.heap.size + 2 := by rw [hu]; simp
  have hbw : Below w.heap.size w u := by rw [hu]; exact (alloc_below w _).alloc (by simp) _
  have hc0 : u.heap[w.heap.size]? = some (.cells c.cells.toArray 55 (0, 0)) := by rw [hu, (alloc_below _ _).block _ (by simp)]; exact heap_alloc_new _ _
  have hd0 : u.heap[w.heap.size + 1]? = some (.cells d.cells.toArray 55 (0, 0)) := by
    rw [hu]
    have := heap_alloc_new (w.alloc (.cells c.cells.toArray 55)) (.cells d.cells.toArray 55)
    simpa using this
  have HC : Hid (∀ X, Below u.heap.size u X → X.heap[w.heap.size]? = some (.cells c.cells.toArray 55 (0, 0))) := fun X h => by rw [h.block _ (by omega)]; exact hc0
  have HD : Hid (∀ X, Below u.heap.size u X → X.heap[w.heap.size + 1]? = some (.cells d.cells.toArray 55 (0, 0))) := fun X h => by rw [h.block _ (by omega)]; exact hd0
  have hop : ∀ (x : CmdD) (X : World) (b : Nat), X.heap[b]? = some (.cells x.cells.toArray 55 (0, 0)) → X.rangeAt b 3 x.op.cells ∧ X.cell? ⟨b, 19, none⟩ = some (.string x.data) := fun x X b h => by
    have ha := At.of_block h
    refine ⟨fun j v hj => ?_, ?_⟩
    · have := (ha.cmdOp j v hj).1
      simpa using this
    · have := (ha 19 (.string x.data) rfl).1
      simpa using this
  have HOC : Hid (∀ X, Below u.heap.size u X → X.rangeAt w.heap.size 3 c.op.cells ∧ X.cell? ⟨w.heap.size, 19, none⟩ = some (.string c.data)) := fun X h => hop c X _ (HC.out X h)
  have HOD : Hid (∀ X, Below u.heap.size u X → X.rangeAt (w.heap.size + 1) 3 d.op.cells ∧ X.cell? ⟨w.heap.size + 1, 19, none⟩ = some (.string d.data)) := fun X h => hop d X _ (HD.out X h)
  have HSc : Hid (∀ X, Below u.heap.size u X → Calls Try.prog 19 #[.agg c.op.cells.toArray] X fun e w' => e = .returned (.bool (shortB c.op)) ∧ Below u.heap.size u w') := fun X h => (short_c c.op X).mono fun e w' ⟨a, b⟩ => ⟨a, bigBelow h b⟩
  have HSd : Hid (∀ X, Below u.heap.size u X → Calls Try.prog 19 #[.agg d.op.cells.toArray] X fun e w' => e = .returned (.bool (shortB d.op)) ∧ Below u.heap.size u w') := fun X h => (short_c d.op X).mono fun e w' ⟨a, b⟩ => ⟨a, bigBelow h b⟩
  have HAw : Hid (∀ X, Below u.heap.size u X → Calls Try.prog 21 #[] X fun e w' => e = .returned (.bool true) ∧ Below u.heap.size u w') := fun X h => (awake_c X).mono fun e w' ⟨a, b⟩ => ⟨a, bigBelow h b⟩
  have HPc : Hid (∀ X, Below u.heap.size u X → Calls Try.prog 22 #[.agg c.cells.toArray] X fun e w' => e = .returned (.tuple #[.string (putS ⟨#[67]⟩ (Cm.enc c.pss.flatten)), .int .i64 (putE (Cm.enc c.pss.flatten))]) ∧ Below u.heap.size u w') := fun X h => (Put_c c bc X).mono fun e w' ⟨a, b⟩ => ⟨by rw [a, putO_eq], bigBelow h b⟩
  have HPd : Hid (∀ X, Below u.heap.size u X → Calls Try.prog 22 #[.agg d.cells.toArray] X fun e w' => e = .returned (.tuple #[.string (putS ⟨#[67]⟩ (Cm.enc d.pss.flatten)), .int .i64 (putE (Cm.enc d.pss.flatten))]) ∧ Below u.heap.size u w') := fun X h => (Put_c d bd X).mono fun e w' ⟨a, b⟩ => ⟨by rw [a, putO_eq], bigBelow h b⟩
  have HEnd : Hid (∀ X, Below u.heap.size u X → Below w.heap.size w X) := fun X h => hbw.trans ⟨h.os, h.tape, h.output, h.size, fun k hk => h.block k (by omega)⟩
  have hi : (Try.prog.info? 55).map (·.size) = some c.cells.toArray.size := by
    have h0 : (Try.prog.info? 55).map (·.size) = some 20 := by kernel_rfl
    exact h0
  have hi2 : (Try.prog.info? 55).map (·.size) = some d.cells.toArray.size := hi
  have hi3 : (Try.prog.info? 53).map (·.size) = some c.op.cells.length := by
    have h0 : (Try.prog.info? 53).map (·.size) = some 9 := by kernel_rfl
    exact h0
  have hi4 : (Try.prog.info? 53).map (·.size) = some d.op.cells.length := hi3
  have hb0 : Below u.heap.size u u := Below.refl _ _
  rw [hu] at HC HD HOC HOD HSc HSd HAw HPc HPd HEnd hb0
  have heq := same_cmd c d
  have HAP := hidden (fun (x y : List UInt8) => @apart_eq c d x y)
  clear hus hbw hc0 hd0 hop hu bc bd
  cases g0 : shortB c.op with
  | false =>
    go_enter Try.func7, Try.ntmps7
    go_wp2_with (first
    | (go_at_call_of 19 c; refine (HSc.out _ (by assumption)).mono ?_; rintro e w1 ⟨rfl, hb1⟩; have q1 := (HOC.out _ hb1).2; have q2 := (HOD.out _ hb1).2)
    | (go_at_call_of 19 d; refine (HSd.out _ (by assumption)).mono ?_; rintro e w2 ⟨rfl, hb2⟩; have q1 := (HOC.out _ hb2).2; have q2 := (HOD.out _ hb2).2)
    | (go_at_call 20; refine (light_c _ _).mono ?_; rintro e w3 ⟨rfl, h3⟩; subst h3)
    | (go_at_call 21; refine (HAw.out _ (by assumption)).mono ?_; rintro e w4 ⟨rfl, hb4⟩; have HB4 := hidden (HEnd.out _ hb4))
    | (go_at_call_of 22 c; refine (HPc.out _ (by assumption)).mono ?_; rintro e w5 ⟨rfl, hb5⟩)
    | (go_at_call_of 22 d; refine (HPd.out _ (by assumption)).mono ?_; rintro e w6 ⟨rfl, hb6⟩)
    | (refine wpList_load_mid rfl 53 (.tmp 9) rfl w.heap.size 3 rfl c.op.cells _ (HOC.out _ (by assumption)).1 Try.underlying53 rfl hi3 ?_)
    | (refine wpList_wants (by rfl) fun K hK => wp_load_mid 53 (.tmp 14) rfl (w.heap.size + 1) 3 rfl d.op.cells _ (HOD.out _ (by assumption)).1 Try.underlying53 rfl hi4 (hK _ _ ?_))
    | (refine wpList_load_row rfl 55 (.tmp 2) rfl w.heap.size rfl 55 c.cells.toArray (0, 0) _ (HC.out _ (by assumption)) Try.underlying55 rfl hi ?_)
    | (refine wpList_load_row rfl 55 (.tmp 3) rfl (w.heap.size + 1) rfl 55 d.cells.toArray (0, 0) _ (HD.out _ (by assumption)) Try.underlying55 rfl hi2 ?_))
    go_ret
    exact ⟨rfl, HB4.out⟩
  | true =>
    cases g1 : shortB d.op with
    | false =>
      go_enter Try.func7, Try.ntmps7
      go_wp2_with (first
    | (go_at_call_of 19 c; refine (HSc.out _ (by assumption)).mono ?_; rintro e w1 ⟨rfl, hb1⟩; have q1 := (HOC.out _ hb1).2; have q2 := (HOD.out _ hb1).2)
    | (go_at_call_of 19 d; refine (HSd.out _ (by assumption)).mono ?_; rintro e w2 ⟨rfl, hb2⟩; have q1 := (HOC.out _ hb2).2; have q2 := (HOD.out _ hb2).2)
    | (go_at_call 20; refine (light_c _ _).mono ?_; rintro e w3 ⟨rfl, h3⟩; subst h3)
    | (go_at_call 21; refine (HAw.out _ (by assumption)).mono ?_; rintro e w4 ⟨rfl, hb4⟩; have HB4 := hidden (HEnd.out _ hb4))
    | (go_at_call_of 22 c; refine (HPc.out _ (by assumption)).mono ?_; rintro e w5 ⟨rfl, hb5⟩)
    | (go_at_call_of 22 d; refine (HPd.out _ (by assumption)).mono ?_; rintro e w6 ⟨rfl, hb6⟩)
    | (refine wpList_load_mid rfl 53 (.tmp 9) rfl w.heap.size 3 rfl c.op.cells _ (HOC.out _ (by assumption)).1 Try.underlying53 rfl hi3 ?_)
    | (refine wpList_wants (by rfl) fun K hK => wp_load_mid 53 (.tmp 14) rfl (w.heap.size + 1) 3 rfl d.op.cells _ (HOD.out _ (by assumption)).1 Try.underlying53 rfl hi4 (hK _ _ ?_))
    | (refine wpList_load_row rfl 55 (.tmp 2) rfl w.heap.size rfl 55 c.cells.toArray (0, 0) _ (HC.out _ (by assumption)) Try.underlying55 rfl hi ?_)
    | (refine wpList_load_row rfl 55 (.tmp 3) rfl (w.heap.size + 1) rfl 55 d.cells.toArray (0, 0) _ (HD.out _ (by assumption)) Try.underlying55 rfl hi2 ?_))
      go_ret
      exact ⟨rfl, HB4.out⟩
    | true =>
      cases g2 : lightB c.data with
      | false =>
        go_enter Try.func7, Try.ntmps7
        go_wp2_with (first
    | (go_at_call_of 19 c; refine (HSc.out _ (by assumption)).mono ?_; rintro e w1 ⟨rfl, hb1⟩; have q1 := (HOC.out _ hb1).2; have q2 := (HOD.out _ hb1).2)
    | (go_at_call_of 19 d; refine (HSd.out _ (by assumption)).mono ?_; rintro e w2 ⟨rfl, hb2⟩; have q1 := (HOC.out _ hb2).2; have q2 := (HOD.out _ hb2).2)
    | (go_at_call 20; refine (light_c _ _).mono ?_; rintro e w3 ⟨rfl, h3⟩; subst h3)
    | (go_at_call 21; refine (HAw.out _ (by assumption)).mono ?_; rintro e w4 ⟨rfl, hb4⟩; have HB4 := hidden (HEnd.out _ hb4))
    | (go_at_call_of 22 c; refine (HPc.out _ (by assumption)).mono ?_; rintro e w5 ⟨rfl, hb5⟩)
    | (go_at_call_of 22 d; refine (HPd.out _ (by assumption)).mono ?_; rintro e w6 ⟨rfl, hb6⟩)
    | (refine wpList_load_mid rfl 53 (.tmp 9) rfl w.heap.size 3 rfl c.op.cells _ (HOC.out _ (by assumption)).1 Try.underlying53 rfl hi3 ?_)
    | (refine wpList_wants (by rfl) fun K hK => wp_load_mid 53 (.tmp 14) rfl (w.heap.size + 1) 3 rfl d.op.cells _ (HOD.out _ (by assumption)).1 Try.underlying53 rfl hi4 (hK _ _ ?_))
    | (refine wpList_load_row rfl 55 (.tmp 2) rfl w.heap.size rfl 55 c.cells.toArray (0, 0) _ (HC.out _ (by assumption)) Try.underlying55 rfl hi ?_)
    | (refine wpList_load_row rfl 55 (.tmp 3) rfl (w.heap.size + 1) rfl 55 d.cells.toArray (0, 0) _ (HD.out _ (by assumption)) Try.underlying55 rfl hi2 ?_))
        go_ret
        exact ⟨rfl, HB4.out⟩
      | true =>
        cases g3 : lightB d.data with
        | false =>
          go_enter Try.func7, Try.ntmps7
          go_wp2_with (first
    | (go_at_call_of 19 c; refine (HSc.out _ (by assumption)).mono ?_; rintro e w1 ⟨rfl, hb1⟩; have q1 := (HOC.out _ hb1).2; have q2 := (HOD.out _ hb1).2)
    | (go_at_call_of 19 d; refine (HSd.out _ (by assumption)).mono ?_; rintro e w2 ⟨rfl, hb2⟩; have q1 := (HOC.out _ hb2).2; have q2 := (HOD.out _ hb2).2)
    | (go_at_call 20; refine (light_c _ _).mono ?_; rintro e w3 ⟨rfl, h3⟩; subst h3)
    | (go_at_call 21; refine (HAw.out _ (by assumption)).mono ?_; rintro e w4 ⟨rfl, hb4⟩; have HB4 := hidden (HEnd.out _ hb4))
    | (go_at_call_of 22 c; refine (HPc.out _ (by assumption)).mono ?_; rintro e w5 ⟨rfl, hb5⟩)
    | (go_at_call_of 22 d; refine (HPd.out _ (by assumption)).mono ?_; rintro e w6 ⟨rfl, hb6⟩)
    | (refine wpList_load_mid rfl 53 (.tmp 9) rfl w.heap.size 3 rfl c.op.cells _ (HOC.out _ (by assumption)).1 Try.underlying53 rfl hi3 ?_)
    | (refine wpList_wants (by rfl) fun K hK => wp_load_mid 53 (.tmp 14) rfl (w.heap.size + 1) 3 rfl d.op.cells _ (HOD.out _ (by assumption)).1 Try.underlying53 rfl hi4 (hK _ _ ?_))
    | (refine wpList_load_row rfl 55 (.tmp 2) rfl w.heap.size rfl 55 c.cells.toArray (0, 0) _ (HC.out _ (by assumption)) Try.underlying55 rfl hi ?_)
    | (refine wpList_load_row rfl 55 (.tmp 3) rfl (w.heap.size + 1) rfl 55 d.cells.toArray (0, 0) _ (HD.out _ (by assumption)) Try.underlying55 rfl hi2 ?_))
          go_ret
          exact ⟨rfl, HB4.out⟩
        | true =>
          cases hx : Cm.enc c.pss.flatten with
          | none =>
            rw [hx] at HPc
            have e1 : putE none = 1 := rfl
            rw [e1] at HPc
            generalize putS ⟨#[67]⟩ (Cm.enc d.pss.flatten) = S at *
            generalize putS ⟨#[67]⟩ none = S2 at *
            generalize putE (Cm.enc d.pss.flatten) = E at *
            clear HAP heq hx e1
            go_enter Try.func7, Try.ntmps7
            go_wp2_with (first
    | (go_at_call_of 19 c; refine (HSc.out _ (by assumption)).mono ?_; rintro e w1 ⟨rfl, hb1⟩; have q1 := (HOC.out _ hb1).2; have q2 := (HOD.out _ hb1).2)
    | (go_at_call_of 19 d; refine (HSd.out _ (by assumption)).mono ?_; rintro e w2 ⟨rfl, hb2⟩; have q1 := (HOC.out _ hb2).2; have q2 := (HOD.out _ hb2).2)
    | (go_at_call 20; refine (light_c _ _).mono ?_; rintro e w3 ⟨rfl, h3⟩; subst h3)
    | (go_at_call 21; refine (HAw.out _ (by assumption)).mono ?_; rintro e w4 ⟨rfl, hb4⟩; have HB4 := hidden (HEnd.out _ hb4))
    | (go_at_call_of 22 c; refine (HPc.out _ (by assumption)).mono ?_; rintro e w5 ⟨rfl, hb5⟩)
    | (go_at_call_of 22 d; refine (HPd.out _ (by assumption)).mono ?_; rintro e w6 ⟨rfl, hb6⟩)
    | (refine wpList_load_mid rfl 53 (.tmp 9) rfl w.heap.size 3 rfl c.op.cells _ (HOC.out _ (by assumption)).1 Try.underlying53 rfl hi3 ?_)
    | (refine wpList_wants (by rfl) fun K hK => wp_load_mid 53 (.tmp 14) rfl (w.heap.size + 1) 3 rfl d.op.cells _ (HOD.out _ (by assumption)).1 Try.underlying53 rfl hi4 (hK _ _ ?_))
    | (refine wpList_load_row rfl 55 (.tmp 2) rfl w.heap.size rfl 55 c.cells.toArray (0, 0) _ (HC.out _ (by assumption)) Try.underlying55 rfl hi ?_)
    | (refine wpList_load_row rfl 55 (.tmp 3) rfl (w.heap.size + 1) rfl 55 d.cells.toArray (0, 0) _ (HD.out _ (by assumption)) Try.underlying55 rfl hi2 ?_))
            go_ret
            exact ⟨rfl, HB4.out⟩
          | some x =>
            rw [hx] at HPc
            have e1 : putE (some x) = 0 := rfl
            rw [e1] at HPc
            cases hy : Cm.enc d.pss.flatten with
            | none =>
              rw [hy] at HPd
              have e2 : putE none = 1 := rfl
              rw [e2] at HPd
              generalize putS ⟨#[67]⟩ (some x) = S at *
              generalize putS ⟨#[67]⟩ none = S2 at *
              clear HAP heq hx hy e1 e2
              go_enter Try.func7, Try.ntmps7
              go_wp2_with (first
    | (go_at_call_of 19 c; refine (HSc.out _ (by assumption)).mono ?_; rintro e w1 ⟨rfl, hb1⟩; have q1 := (HOC.out _ hb1).2; have q2 := (HOD.out _ hb1).2)
    | (go_at_call_of 19 d; refine (HSd.out _ (by assumption)).mono ?_; rintro e w2 ⟨rfl, hb2⟩; have q1 := (HOC.out _ hb2).2; have q2 := (HOD.out _ hb2).2)
    | (go_at_call 20; refine (light_c _ _).mono ?_; rintro e w3 ⟨rfl, h3⟩; subst h3)
    | (go_at_call 21; refine (HAw.out _ (by assumption)).mono ?_; rintro e w4 ⟨rfl, hb4⟩; have HB4 := hidden (HEnd.out _ hb4))
    | (go_at_call_of 22 c; refine (HPc.out _ (by assumption)).mono ?_; rintro e w5 ⟨rfl, hb5⟩)
    | (go_at_call_of 22 d; refine (HPd.out _ (by assumption)).mono ?_; rintro e w6 ⟨rfl, hb6⟩)
    | (refine wpList_load_mid rfl 53 (.tmp 9) rfl w.heap.size 3 rfl c.op.cells _ (HOC.out _ (by assumption)).1 Try.underlying53 rfl hi3 ?_)
    | (refine wpList_wants (by rfl) fun K hK => wp_load_mid 53 (.tmp 14) rfl (w.heap.size + 1) 3 rfl d.op.cells _ (HOD.out _ (by assumption)).1 Try.underlying53 rfl hi4 (hK _ _ ?_))
    | (refine wpList_load_row rfl 55 (.tmp 2) rfl w.heap.size rfl 55 c.cells.toArray (0, 0) _ (HC.out _ (by assumption)) Try.underlying55 rfl hi ?_)
    | (refine wpList_load_row rfl 55 (.tmp 3) rfl (w.heap.size + 1) rfl 55 d.cells.toArray (0, 0) _ (HD.out _ (by assumption)) Try.underlying55 rfl hi2 ?_))
              go_ret
              exact ⟨rfl, HB4.out⟩
            | some y =>
              rw [hy] at HPd
              have e2 : putE (some y) = 0 := rfl
              rw [e2] at HPd
              have hap := HAP.out x y hx hy
              generalize putS ⟨#[67]⟩ (some x) = S at *
              generalize putS ⟨#[67]⟩ (some y) = S2 at *
              generalize cmdEq c d = E at *
              have hbb : (E == E) = true := by cases E <;> rfl
              clear HAP hx hy e1 e2
              go_enter Try.func7, Try.ntmps7
              go_wp2_with (first
    | (go_at_call_of 19 c; refine (HSc.out _ (by assumption)).mono ?_; rintro e w1 ⟨rfl, hb1⟩; have q1 := (HOC.out _ hb1).2; have q2 := (HOD.out _ hb1).2)
    | (go_at_call_of 19 d; refine (HSd.out _ (by assumption)).mono ?_; rintro e w2 ⟨rfl, hb2⟩; have q1 := (HOC.out _ hb2).2; have q2 := (HOD.out _ hb2).2)
    | (go_at_call 20; refine (light_c _ _).mono ?_; rintro e w3 ⟨rfl, h3⟩; subst h3)
    | (go_at_call 21; refine (HAw.out _ (by assumption)).mono ?_; rintro e w4 ⟨rfl, hb4⟩; have HB4 := hidden (HEnd.out _ hb4))
    | (go_at_call_of 22 c; refine (HPc.out _ (by assumption)).mono ?_; rintro e w5 ⟨rfl, hb5⟩)
    | (go_at_call_of 22 d; refine (HPd.out _ (by assumption)).mono ?_; rintro e w6 ⟨rfl, hb6⟩)
    | (refine wpList_load_mid rfl 53 (.tmp 9) rfl w.heap.size 3 rfl c.op.cells _ (HOC.out _ (by assumption)).1 Try.underlying53 rfl hi3 ?_)
    | (refine wpList_wants (by rfl) fun K hK => wp_load_mid 53 (.tmp 14) rfl (w.heap.size + 1) 3 rfl d.op.cells _ (HOD.out _ (by assumption)).1 Try.underlying53 rfl hi4 (hK _ _ ?_))
    | (refine wpList_load_row rfl 55 (.tmp 2) rfl w.heap.size rfl 55 c.cells.toArray (0, 0) _ (HC.out _ (by assumption)) Try.underlying55 rfl hi ?_)
    | (refine wpList_load_row rfl 55 (.tmp 3) rfl (w.heap.size + 1) rfl 55 d.cells.toArray (0, 0) _ (HD.out _ (by assumption)) Try.underlying55 rfl hi2 ?_))
              go_ret
              exact ⟨rfl, HB4.out⟩

theorem laidOut : laidOutB Try.prog = true := by kernel_rfl

theorem own : ownKnob Try.prog.godebug = none := by kernel_rfl

set_option maxRecDepth 100000 in
theorem lifted (os : Os) (started : os.Started) (H : Type) (enc : TypeId × Value → H) :
    ReturnsInHanded {} Try.checked os 7 .any (Rows.commandApartSpec.pre6 enc Try.prog Try.f7 Rows.commandApartRow.domain false) (Rows.commandApartSpec.post enc Try.prog Try.f7 false true false false) := by
  refine returnsInHanded_of_change_sized (C := Try.checked) own started (by kernel_rfl) Try.func7
    (ChangeSpec.witness6 (enc := enc) (C := Try.checked) false ⟨#[], #[.agg #[.int .i64 0, .int .i64 0, .int .i64 0, .int .i64 0, .string ByteArray.empty, .string ByteArray.empty, .string ByteArray.empty, .string ByteArray.empty, .string ByteArray.empty, .string ByteArray.empty, .int .i64 0, .int .i64 0, .int .i64 0, .int .i64 0, .int .i64 0, .int .i64 0, .int .i64 0, .bool false, .int .i64 0, .string ByteArray.empty], .agg #[.int .i64 0, .int .i64 0, .int .i64 0, .int .i64 0, .string ByteArray.empty, .string ByteArray.empty, .string ByteArray.empty, .string ByteArray.empty, .string ByteArray.empty, .string ByteArray.empty, .int .i64 0, .int .i64 0, .int .i64 0, .int .i64 0, .int .i64 0, .int .i64 0, .int .i64 0, .bool false, .int .i64 0, .string ByteArray.empty]], []⟩ 8 (by kernel_rfl) (by kernel_rfl) (by kernel_rfl) (by kernel_rfl)) ?_
  intro W base args ds gs before hval0 hW _ hsz0 _
  have hsz : (DataW.weightsEach Try.prog (Try.f7.params.toList ++ Rows.commandApartSpec.plain.varTypes Try.prog) (ds ++ gs)).all (· ≤ reachBytes) = true := hsz0
  have hval : ∀ (j : Nat) t v, Try.f7.params[j]? = some t → args[j]? = some v → Value.okWide Try.prog W .any base t v := hval0
  have hW' := hW
  obtain ⟨p, q, hA0, hV, rfl, hfz, hnd⟩ := hW
  have hA : DataW.TrodAll enc Try.prog W 0 (fun _ => true) true Try.f7.params.toList args.toList ds p := hA0
  rw [Try.params7] at hA hval hsz
  obtain ⟨v0, vs0, d0, ds0, p0, q0, hargs, rfl, rfl, h0, r0⟩ := trodAll_cons hA
  obtain ⟨v1, vs1, d1, ds1, p1, q1, rfl, rfl, rfl, h1, r1⟩ := trodAll_cons r0
  obtain ⟨rfl, rfl, rfl⟩ := trodAll_nil r1
  obtain rfl : args = #[v0, v1] := by cases args; simp_all
  obtain ⟨rfl, rfl⟩ := trodVars_none hV
  have k0 := h0
  have lt0 : ∀ x ∈ p0, x.block < W.heap.size := by obtain ⟨m, hm⟩ := k0; exact DataW.trod_lt m _ _ _ hm
  obtain ⟨a0, rfl, b0⟩ := open_cmd12 (hval 0 55 v0 rfl rfl) h0
  have k1 := h1
  have lt1 : ∀ x ∈ p1, x.block < W.heap.size := by obtain ⟨m, hm⟩ := k1; exact DataW.trod_lt m _ _ _ hm
  obtain ⟨a1, rfl, b1⟩ := open_cmd12 (hval 1 55 v1 rfl rfl) h1
  clear hA0 hval0 hsz0
  refine (walk a0 a1 W b0 b1).mono fun e W' ⟨he, bel⟩ => ?_
  subst he
  exact ⟨_, rfl, _, _, _, [], _, [], hW', trodAll_mk1 (shut_bool Try.underlying4 _), (trodAll_cons_mk (Below.trod laidOut (by kernel_rfl) (of_decide_eq_true (by kernel_rfl)) k0 bel lt0) (trodAll_cons_mk (Below.trod laidOut (by kernel_rfl) (of_decide_eq_true (by kernel_rfl)) k1 bel lt1) trodAll_mk0)), rfl, bel.frame _, fun h => by cases h⟩

theorem over : Rows.commandApartRow.holds Try.pinned (OpenSpec.ofChange Rows.commandApartSpec) :=
  OpenClaim.holds_of_wide 7 Try.f7 rfl rfl rfl rfl rfl rfl rfl ⟨rfl, rfl, rfl, rfl, rfl⟩ rfl rfl rfl rfl rfl (by kernel_rfl) Try.func7 (by kernel_rfl)
    (of_decide_eq_true (by kernel_rfl)) (by unfold Func.isWrapper; first | (rw [if_pos (by decide +kernel)]; kernel_rfl) | (rw [if_neg (by decide +kernel)]; exact ⟨rfl, rfl⟩))
    (fun os started H enc _ => lifted os started H enc)


end Go.Proofs.Ytnfjfhjhofaodaa.commandApart
namespace Go.Proofs.Ytnfjfhjhofaodaa
/-- The statement. -/
theorem commandApart_holds : Rows.CommandApartSaid := commandApart.over
end Go.Proofs.Ytnfjfhjhofaodaa
