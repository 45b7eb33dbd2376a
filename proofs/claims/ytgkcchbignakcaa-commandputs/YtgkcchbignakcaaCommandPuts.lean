/-
  For every command: CommandPuts answers true: its bytes, and its error, are the document's, and what is read of the bytes is the command; the argument reads afterwards as before. No condition.
-/
import Derived.Test.YtgkcchbignakcaaCmEq
import Derived.Test.YtgkcchbignakcaaCmArgs
import Derived.Test.YtgkcchbignakcaaCmShort
import Derived.Test.YtgkcchbignakcaaCmAwake
import Derived.Test.YtgkcchbignakcaaCmOutP
import Derived.ProofKit
import Derived.OpenShut
import Derived.ShutString
import Derived.SizedLaws
namespace Go.Proofs.Ytgkcchbignakcaa.commandPuts
open Go.ChangeShapes Go.WideShapes Go.ChangeAt Go.RowKit
open Go.ChangeMaps (open_string shut_string)

theorem bigBelow {u X Y : World} (h : Below u.heap.size u X) (h2 : Below X.heap.size X Y) : Below u.heap.size u Y := h.trans ⟨h2.os, h2.tape, h2.output, h2.size, fun k hk => h2.block k (Nat.lt_of_lt_of_le hk h.size)⟩

set_option maxHeartbeats 1600000 in
set_option maxRecDepth 100000 in
theorem walk (c : CmdD) (w : World) (bc : c.Ok) :
    Calls Try.prog 3 #[.agg c.cells.toArray] w fun e w' => e = .returned (.bool true) ∧ Below w.heap.size w w' := by
  obtain ⟨u, hu⟩ : ∃ u, u = w.alloc (.cells c.cells.toArray 28) := ⟨_, rfl⟩
  have hus : u.heap.size = w.heap.size + 1 := by rw [hu]; simp
  have hbw : Below w.heap.size w u := by rw [hu]; exact alloc_below w _
  have hc0 : u.heap[w.heap.size]? = some (.cells c.cells.toArray 28 (0, 0)) := by rw [hu]; exact heap_alloc_new _ _
  have HC : Hid (∀ X, Below u.heap.size u X → X.heap[w.heap.size]? = some (.cells c.cells.toArray 28 (0, 0))) := fun X h => by rw [h.block _ (by omega)]; exact hc0
  have HOC : Hid (∀ X, Below u.heap.size u X → X.rangeAt w.heap.size 3 c.op.cells ∧ X.cell? ⟨w.heap.size, 19, none⟩ = some (.string c.data)) := fun X h => by
    have ha := At.of_block (HC.out X h)
    refine ⟨fun j v hj => ?_, ?_⟩
    · have := (ha.cmdOp j v hj).1
      simpa using this
    · have := (ha 19 (.string c.data) rfl).1
      simpa using this
  have HSc : Hid (∀ X, Below u.heap.size u X → Calls Try.prog 9 #[.agg c.op.cells.toArray] X fun e w' => e = .returned (.bool (shortB c.op)) ∧ Below u.heap.size u w') := fun X h => (short_c c.op X).mono fun e w' ⟨a, b⟩ => ⟨a, bigBelow h b⟩
  have HAw : Hid (∀ X, Below u.heap.size u X → Calls Try.prog 11 #[] X fun e w' => e = .returned (.bool true) ∧ Below u.heap.size u w') := fun X h => (awake_c X).mono fun e w' ⟨a, b⟩ => ⟨a, bigBelow h b⟩
  have HPc : Hid (∀ X, Below u.heap.size u X → Calls Try.prog 12 #[.agg c.cells.toArray] X fun e w' => e = .returned (.tuple #[.string (putS ⟨#[67]⟩ (Cm.enc c.pss.flatten)), .int .i64 (putE (Cm.enc c.pss.flatten))]) ∧ Below u.heap.size u w') := fun X h => (Put_c c bc X).mono fun e w' ⟨a, b⟩ => ⟨by rw [a, putO_eq], bigBelow h b⟩
  have HPd : Hid (∀ X, Below u.heap.size u X → Calls Try.prog 13 #[.agg c.cells.toArray] X fun e w' => e = .returned (.tuple #[.string (putS ⟨#[67]⟩ (Cm.enc c.pss.flatten)), .int .i64 (putE (Cm.enc c.pss.flatten))]) ∧ Below u.heap.size u w') := fun X h => (rPut_c c X).mono fun e w' ⟨a, b⟩ => ⟨by rw [a, putO_eq], bigBelow h b⟩
  have HEnd : Hid (∀ X, Below u.heap.size u X → Below w.heap.size w X) := fun X h => hbw.trans ⟨h.os, h.tape, h.output, h.size, fun k hk => h.block k (by omega)⟩
  have hi : (Try.prog.info? 28).map (·.size) = some c.cells.toArray.size := by
    have h0 : (Try.prog.info? 28).map (·.size) = some 20 := by kernel_rfl
    exact h0
  have hi3 : (Try.prog.info? 25).map (·.size) = some c.op.cells.length := by
    have h0 : (Try.prog.info? 25).map (·.size) = some 9 := by kernel_rfl
    exact h0
  have hb0 : Below u.heap.size u u := Below.refl _ _
  have HFr : Hid (∀ bs, Cm.enc c.pss.flatten = some bs → ∀ X, Below u.heap.size u X → Calls Try.prog 14 #[.string (putS ⟨#[67]⟩ (some bs))] X fun e w' => e = .returned (.tuple #[.agg c.cells.toArray, .int .i64 0]) ∧ Below u.heap.size u w') := fun bs hbs X h => (From_put c hbs (by
    have h1 := Cm.enc_len _ _ c.small hbs
    have h2 : c.pss.flatten.length = 20 := rfl
    omega) X).mono fun e w' ⟨a, b⟩ => ⟨a, bigBelow h b⟩
  have HNew : Hid (∀ X (zs : Array Value), Below u.heap.size u X → Below u.heap.size u (X.alloc (.cells zs 28))) := fun X zs h => bigBelow h (alloc_below X _)
  have heq := same_cmd c c
  have hcc : cmdEq c c = true := (cmdEq_iff c c).2 rfl
  rw [hcc] at heq
  have hone := c.one
  rw [hu] at HC HOC HSc HAw HPc HPd HEnd hb0 HFr HNew
  clear hus hbw hc0 hu bc hcc
  cases g0 : shortB c.op with
  | false =>
    go_enter Try.func3, Try.ntmps3
    go_wp2_with (first
    | (go_at_call 9; refine (HSc.out _ (by assumption)).mono ?_; rintro e w1 ⟨rfl, hb1⟩; have q1 := (HOC.out _ hb1).2)
    | (go_at_call 10; refine (light_c _ _).mono ?_; rintro e w3 ⟨rfl, h3⟩; subst h3)
    | (go_at_call 11; refine (HAw.out _ (by assumption)).mono ?_; rintro e w4 ⟨rfl, hb4⟩; have HB4 := hidden (HEnd.out _ hb4))
    | (go_at_call 12; refine (HPc.out _ (by assumption)).mono ?_; rintro e w5 ⟨rfl, hb5⟩)
    | (go_at_call 13; refine (HPd.out _ (by assumption)).mono ?_; rintro e w6 ⟨rfl, hb6⟩)
    | (refine wpList_load_mid rfl 25 (.tmp 9) rfl w.heap.size 3 rfl c.op.cells _ (HOC.out _ (by assumption)).1 Try.underlying25 rfl hi3 ?_)
    | (refine wpList_load_row rfl 28 (.tmp 1) rfl w.heap.size rfl 28 c.cells.toArray (0, 0) _ (HC.out _ (by assumption)) Try.underlying28 rfl hi ?_))
    go_ret
    exact ⟨rfl, HB4.out⟩
  | true =>
    cases g1 : lightB c.data with
    | false =>
      go_enter Try.func3, Try.ntmps3
      go_wp2_with (first
    | (go_at_call 9; refine (HSc.out _ (by assumption)).mono ?_; rintro e w1 ⟨rfl, hb1⟩; have q1 := (HOC.out _ hb1).2)
    | (go_at_call 10; refine (light_c _ _).mono ?_; rintro e w3 ⟨rfl, h3⟩; subst h3)
    | (go_at_call 11; refine (HAw.out _ (by assumption)).mono ?_; rintro e w4 ⟨rfl, hb4⟩; have HB4 := hidden (HEnd.out _ hb4))
    | (go_at_call 12; refine (HPc.out _ (by assumption)).mono ?_; rintro e w5 ⟨rfl, hb5⟩)
    | (go_at_call 13; refine (HPd.out _ (by assumption)).mono ?_; rintro e w6 ⟨rfl, hb6⟩)
    | (refine wpList_load_mid rfl 25 (.tmp 9) rfl w.heap.size 3 rfl c.op.cells _ (HOC.out _ (by assumption)).1 Try.underlying25 rfl hi3 ?_)
    | (refine wpList_load_row rfl 28 (.tmp 1) rfl w.heap.size rfl 28 c.cells.toArray (0, 0) _ (HC.out _ (by assumption)) Try.underlying28 rfl hi ?_))
      go_ret
      exact ⟨rfl, HB4.out⟩
    | true =>
      cases hx : Cm.enc c.pss.flatten with
      | none =>
        rw [hx] at HPc HPd
        have e1 : putE none = 1 := rfl
        rw [e1] at HPc HPd
        generalize putS ⟨#[67]⟩ none = S at *
        clear heq hx e1 HFr
        go_enter Try.func3, Try.ntmps3
        go_wp2_with (first
    | (go_at_call 9; refine (HSc.out _ (by assumption)).mono ?_; rintro e w1 ⟨rfl, hb1⟩; have q1 := (HOC.out _ hb1).2)
    | (go_at_call 10; refine (light_c _ _).mono ?_; rintro e w3 ⟨rfl, h3⟩; subst h3)
    | (go_at_call 11; refine (HAw.out _ (by assumption)).mono ?_; rintro e w4 ⟨rfl, hb4⟩; have HB4 := hidden (HEnd.out _ hb4))
    | (go_at_call 12; refine (HPc.out _ (by assumption)).mono ?_; rintro e w5 ⟨rfl, hb5⟩)
    | (go_at_call 13; refine (HPd.out _ (by assumption)).mono ?_; rintro e w6 ⟨rfl, hb6⟩)
    | (refine wpList_load_mid rfl 25 (.tmp 9) rfl w.heap.size 3 rfl c.op.cells _ (HOC.out _ (by assumption)).1 Try.underlying25 rfl hi3 ?_)
    | (refine wpList_load_row rfl 28 (.tmp 1) rfl w.heap.size rfl 28 c.cells.toArray (0, 0) _ (HC.out _ (by assumption)) Try.underlying28 rfl hi ?_))
        go_ret
        exact ⟨rfl, HB4.out⟩
      | some x =>
        rw [hx] at HPc HPd
        have e1 : putE (some x) = 0 := rfl
        rw [e1] at HPc HPd
        have HFR := hidden (HFr.out x hx)
        generalize putS ⟨#[67]⟩ (some x) = S at *
        clear hx e1 HFr
        go_enter Try.func3, Try.ntmps3
        go_wp2_with (first
    | (go_at_call 9; refine (HSc.out _ (by assumption)).mono ?_; rintro e w1 ⟨rfl, hb1⟩; have q1 := (HOC.out _ hb1).2)
    | (go_at_call 10; refine (light_c _ _).mono ?_; rintro e w3 ⟨rfl, h3⟩; subst h3)
    | (go_at_call 11; refine (HAw.out _ (by assumption)).mono ?_; rintro e w4 ⟨rfl, hb4⟩; have HB4 := hidden (HEnd.out _ hb4))
    | (go_at_call 12; refine (HPc.out _ (by assumption)).mono ?_; rintro e w5 ⟨rfl, hb5⟩)
    | (go_at_call 13; refine (HPd.out _ (by assumption)).mono ?_; rintro e w6 ⟨rfl, hb6⟩)
    | (go_at_call 14; refine (HFR.out _ (by assumption)).mono ?_; rintro e w7 ⟨rfl, hb7⟩)
    | (refine wpList_store_row rfl 28 (.tmp 7) (.tmp 44) rfl w7.heap.size c.cells.toArray rfl rfl 28 _ (heap_alloc_new w7 _) hi rfl hone ?_; rw [setRow_new]; have hb8 := HNew.out w7 c.cells.toArray hb7; have hk8 := heap_alloc_new w7 (.cells c.cells.toArray 28); refine (fun h : ∀ Z, Below _ _ Z → Z.heap[w7.heap.size]? = some (.cells c.cells.toArray 28 (0, 0)) → wpList _ _ _ _ _ Z => h _ hb8 hk8) ?_; clear hb8 hk8; intro w8 hb8 hk8; have HK8 := hidden hk8; clear hk8)
    | (refine wpList_load_row rfl 28 (.tmp 7) rfl w7.heap.size rfl 28 c.cells.toArray (0, 0) _ HK8.out Try.underlying28 rfl hi ?_)
    | (refine wpList_load_mid rfl 25 (.tmp 9) rfl w.heap.size 3 rfl c.op.cells _ (HOC.out _ (by assumption)).1 Try.underlying25 rfl hi3 ?_)
    | (refine wpList_load_row rfl 28 (.tmp 1) rfl w.heap.size rfl 28 c.cells.toArray (0, 0) _ (HC.out _ (by assumption)) Try.underlying28 rfl hi ?_))
        go_ret
        exact ⟨rfl, HB4.out⟩

theorem laidOut : laidOutB Try.prog = true := by kernel_rfl

theorem own : ownKnob Try.prog.godebug = none := by kernel_rfl

set_option maxRecDepth 100000 in
theorem lifted (os : Os) (started : os.Started) (H : Type) (enc : TypeId × Value → H) :
    ReturnsInHanded {} Try.checked os 3 .any (Rows.commandPutsSpec.pre6 enc Try.prog Try.f3 Rows.commandPutsRow.domain false) (Rows.commandPutsSpec.post enc Try.prog Try.f3 false true false false) := by
  refine returnsInHanded_of_change_sized (C := Try.checked) own started (by kernel_rfl) Try.func3
    (ChangeSpec.witness6 (enc := enc) (C := Try.checked) false ⟨#[], #[.agg #[.int .i64 0, .int .i64 0, .int .i64 0, .int .i64 0, .string ByteArray.empty, .string ByteArray.empty, .string ByteArray.empty, .string ByteArray.empty, .string ByteArray.empty, .string ByteArray.empty, .int .i64 0, .int .i64 0, .int .i64 0, .int .i64 0, .int .i64 0, .int .i64 0, .int .i64 0, .bool false, .int .i64 0, .string ByteArray.empty]], []⟩ 8 (by kernel_rfl) (by kernel_rfl) (by kernel_rfl) (by kernel_rfl)) ?_
  intro W base args ds gs before hval0 hW _ hsz0 _
  have hsz : (DataW.weightsEach Try.prog (Try.f3.params.toList ++ Rows.commandPutsSpec.plain.varTypes Try.prog) (ds ++ gs)).all (· ≤ reachBytes) = true := hsz0
  have hval : ∀ (j : Nat) t v, Try.f3.params[j]? = some t → args[j]? = some v → Value.okWide Try.prog W .any base t v := hval0
  have hW' := hW
  obtain ⟨p, q, hA0, hV, rfl, hfz, hnd⟩ := hW
  have hA : DataW.TrodAll enc Try.prog W 0 (fun _ => true) true Try.f3.params.toList args.toList ds p := hA0
  rw [Try.params3] at hA hval hsz
  obtain ⟨v0, vs0, d0, ds0, p0, q0, hargs, rfl, rfl, h0, r0⟩ := trodAll_cons hA
  obtain ⟨rfl, rfl, rfl⟩ := trodAll_nil r0
  obtain rfl : args = #[v0] := by cases args; simp_all
  obtain ⟨rfl, rfl⟩ := trodVars_none hV
  have k0 := h0
  have lt0 : ∀ x ∈ p0, x.block < W.heap.size := by obtain ⟨m, hm⟩ := k0; exact DataW.trod_lt m _ _ _ hm
  obtain ⟨a0, rfl, b0⟩ := open_cmd12 (hval 0 28 v0 rfl rfl) h0
  clear hA0 hval0 hsz0
  refine (walk a0 W b0).mono fun e W' ⟨he, bel⟩ => ?_
  subst he
  exact ⟨_, rfl, _, _, _, [], _, [], hW', trodAll_mk1 (shut_bool Try.underlying4 _), (trodAll_cons_mk (Below.trod laidOut (by kernel_rfl) (of_decide_eq_true (by kernel_rfl)) k0 bel lt0) trodAll_mk0), rfl, bel.frame _, fun h => by cases h⟩

theorem over : Rows.commandPutsRow.holds Try.pinned (OpenSpec.ofChange Rows.commandPutsSpec) :=
  OpenClaim.holds_of_wide 3 Try.f3 rfl rfl rfl rfl rfl rfl rfl ⟨rfl, rfl, rfl, rfl, rfl⟩ rfl rfl rfl rfl rfl (by kernel_rfl) Try.func3 (by kernel_rfl)
    (of_decide_eq_true (by kernel_rfl)) (by unfold Func.isWrapper; first | (rw [if_pos (by decide +kernel)]; kernel_rfl) | (rw [if_neg (by decide +kernel)]; exact ⟨rfl, rfl⟩))
    (fun os started H enc _ => lifted os started H enc)


end Go.Proofs.Ytgkcchbignakcaa.commandPuts
namespace Go.Proofs.Ytgkcchbignakcaa
/-- The statement. -/
theorem commandPuts_holds : Rows.CommandPutsSaid := commandPuts.over
end Go.Proofs.Ytgkcchbignakcaa
