/-
  For every text: CommandReads answers true: the command of it, or the error, is the document's, and as bytes again it is the text; the argument reads afterwards as before. No condition.
-/
import Derived.Test.YtgkcchbignakcaaCmNe
import Derived.Test.YtgkcchbignakcaaCmAwake
import Derived.Test.YtgkcchbignakcaaCmInF
import Derived.ProofKit
import Derived.OpenShut
import Derived.ShutString
import Derived.SizedLaws
namespace Go.Proofs.Ytgkcchbignakcaa.commandReads
open Go.ChangeShapes Go.WideShapes Go.ChangeAt Go.RowKit
open Go.ChangeMaps (open_string shut_string)

theorem bigBelow {u X Y : World} (h : Below u.heap.size u X) (h2 : Below X.heap.size X Y) : Below u.heap.size u Y := h.trans ⟨h2.os, h2.tape, h2.output, h2.size, fun k hk => h2.block k (Nat.lt_of_lt_of_le hk h.size)⟩

theorem enc_each : ∀ {l : List (Cm.K × Cm.V)} {bs : List UInt8}, Cm.enc l = some bs → ∀ p ∈ l, Cm.enc1 p.1 p.2 ≠ none
  | (k, v) :: r, bs, h, p, hp => by
    simp only [Cm.enc] at h
    cases h1 : Cm.enc1 k v with
    | none => rw [h1] at h; cases h
    | some a =>
      rw [h1] at h
      simp only at h
      cases h2 : Cm.enc r with
      | none => rw [h2] at h; cases h
      | some b =>
        rcases List.mem_cons.1 hp with rfl | hp
        · rw [h1]; exact fun e => by cases e
        · exact enc_each h2 p hp
theorem fit_enc {v : Int} (h : Cm.enc1 (.n Cm.mI) (.n v) ≠ none) : fit v := by
  rw [Cm.enc1] at h
  split at h
  · rename_i hv
    unfold Cm.mI at hv
    unfold fit
    omega
  · exact absurd rfl h
theorem fits_enc {s : ByteArray} (h : Cm.enc1 .t (.t s) ≠ none) : fits s := by
  rw [Cm.enc1] at h
  split at h
  · rename_i hv
    unfold Cm.mR at hv
    unfold fits
    omega
  · exact absurd rfl h
theorem ok_enc {x : CmdD} {bs : List UInt8} (h : Cm.enc x.pss.flatten = some bs) : x.Ok := by
  have hf : ∀ v, nf v ∈ x.pss.flatten → fit v := fun v hv => fit_enc (enc_each h _ hv)
  have ht : ∀ s, tf s ∈ x.pss.flatten → fits s := fun s hs => fits_enc (enc_each h _ hs)
  refine ⟨hf _ ?_, ⟨hf _ ?_, hf _ ?_⟩, ⟨hf _ ?_, ht _ ?_, ht _ ?_, ht _ ?_, ht _ ?_, ht _ ?_, ht _ ?_, hf _ ?_, hf _ ?_⟩, hf _ ?_, hf _ ?_, hf _ ?_, hf _ ?_, hf _ ?_, hf _ ?_, ht _ ?_⟩ <;> simp [CmdD.pss, IdD.pss, OpD.pss]

set_option maxHeartbeats 1600000 in
set_option maxRecDepth 100000 in
theorem main (s : ByteArray) (w : World) (x : CmdD) (E : Int) (hE : E = 0 ∨ E = 140)
    (H1 : Hid (∀ X, Calls Try.prog 14 #[.string s] X fun e w' => e = .returned (.tuple #[.agg x.cells.toArray, .int .i64 E]) ∧ Below X.heap.size X w'))
    (H2 : Hid (∀ X, Calls Try.prog 26 #[.string s] X fun e w' => e = .returned (.tuple #[.agg x.cells.toArray, .int .i64 E]) ∧ Below X.heap.size X w'))
    (HP : Hid (E = 0 → ∀ X, Calls Try.prog 12 #[.agg x.cells.toArray] X fun e w' => e = .returned (.tuple #[.string s, .int .i64 0]) ∧ Below X.heap.size X w')) :
    Calls Try.prog 6 #[.string s] w fun e w' => e = .returned (.bool true) ∧ Below w.heap.size w w' := by
  have HA : Hid (∀ X, Below w.heap.size w X → Calls Try.prog 11 #[] X fun e w' => e = .returned (.bool true) ∧ Below w.heap.size w w') := fun X h => (awake_c X).mono fun e w' ⟨a, b⟩ => ⟨a, bigBelow h b⟩
  have hi : (Try.prog.info? 28).map (·.size) = some x.cells.toArray.size := by
    have h0 : (Try.prog.info? 28).map (·.size) = some 20 := by kernel_rfl
    exact h0
  have hcc : cmdEq x x = true := (cmdEq_iff x x).2 rfl
  have heq : ∀ W, (binOp .neq 28 (.agg x.cells.toArray) (.agg x.cells.toArray)).run Try.prog W = .ok (.bool false) W := fun W => by
    have := other_cmd x x W
    rw [hcc] at this
    exact this
  have hone := x.one
  have hss : (s.toList == s.toList) = true := by simp
  have HS1 : Hid (∀ X (zs : Array Value), Below w.heap.size w X → Below w.heap.size w (X.alloc (.cells zs 28))) := fun X zs h => bigBelow h (alloc_below X _)
  have HS2 : Hid (∀ X Y, Below w.heap.size w X → Below X.heap.size X Y → Below w.heap.size w Y) := fun X Y h h2 => bigBelow h h2
  have HS3 : Hid (∀ (X : World) (zs : Array Value) (b : Nat) (o : Obj), X.heap[b]? = some o → (X.alloc (.cells zs 28)).heap[b]? = some o) := fun X zs b o h => by
    rw [Below.heap_alloc _ _ _ (by
      rcases Nat.lt_or_ge b X.heap.size with y | y
      · exact y
      · rw [Array.getElem?_eq_none y] at h; cases h)]
    exact h
  have HS4 : Hid (∀ (X Y : World) (b : Nat) (o : Obj), Below X.heap.size X Y → X.heap[b]? = some o → Y.heap[b]? = some o) := fun X Y b o h2 h => by
    rw [h2.block b (by
      rcases Nat.lt_or_ge b X.heap.size with y | y
      · exact y
      · rw [Array.getElem?_eq_none y] at h; cases h)]
    exact h
  have hb0 : Below w.heap.size w w := Below.refl _ _
  clear hcc
  rcases hE with rfl | rfl
  all_goals
    go_enter Try.func6, Try.ntmps6
    go_wp2_with (first
      | (go_at_call 14; refine (H1.out _).mono ?_; rintro e w1 ⟨rfl, hb1⟩)
      | (refine wpList_store_row rfl 28 (.tmp 3) (.tmp 12) rfl w1.heap.size x.cells.toArray rfl rfl 28 _ (heap_alloc_new w1 _) hi rfl hone ?_; rw [setRow_new]; have hk8 := heap_alloc_new w1 (.cells x.cells.toArray 28); have hb8 := HS1.out w1 x.cells.toArray hb1; refine (fun h : ∀ Z, Below w.heap.size w Z → Hid (Z.heap[w1.heap.size]? = some (.cells x.cells.toArray 28 (0, 0))) → wpList _ _ _ _ _ Z => h _ hb8 hk8) ?_; clear hb8 hk8; generalize w1.heap.size = g1; intro w2 hb2 k2)
      | (go_at_call 26; refine (H2.out _).mono ?_; rintro e w3 ⟨rfl, hb3⟩; have k3 := hidden (HS4.out _ _ _ _ hb3 k2.out); have hb3 := HS2.out _ _ hb2 hb3)
      | (refine wpList_store_row rfl 28 (.tmp 5) (.tmp 17) rfl w3.heap.size x.cells.toArray rfl rfl 28 _ (heap_alloc_new w3 _) hi rfl hone ?_; rw [setRow_new]; have hj8 := HS3.out w3 x.cells.toArray _ _ k3.out; have hk8 := heap_alloc_new w3 (.cells x.cells.toArray 28); have hb8 := HS1.out w3 x.cells.toArray hb3; refine (fun h : ∀ Z, Below w.heap.size w Z → Hid (Z.heap[w3.heap.size]? = some (.cells x.cells.toArray 28 (0, 0))) → Hid (Z.heap[g1]? = some (.cells x.cells.toArray 28 (0, 0))) → wpList _ _ _ _ _ Z => h _ hb8 hk8 hj8) ?_; clear hb8 hk8 hj8; generalize w3.heap.size = g2; intro w4 hb4 k4 j4)
      | (refine wpList_load_row rfl 28 (.tmp 3) rfl g1 rfl 28 x.cells.toArray (0, 0) _ j4.out Try.underlying28 rfl hi ?_)
      | (refine wpList_load_row rfl 28 (.tmp 5) rfl g2 rfl 28 x.cells.toArray (0, 0) _ k4.out Try.underlying28 rfl hi ?_)
      | (go_at_call 12; refine (HP.out (by first | trivial | rfl) _).mono ?_; rintro e w6 ⟨rfl, hb6⟩; have hb6 := HS2.out _ _ hb4 hb6)
      | (go_at_call 11; refine (HA.out _ (by assumption)).mono ?_; rintro e w5 ⟨rfl, hb5⟩))
    go_ret
    exact ⟨rfl, hb5⟩

theorem walk (s : ByteArray) (w : World) (hs : s.size ≤ 140737488351232) :
    Calls Try.prog 6 #[.string s] w fun e w' => e = .returned (.bool true) ∧ Below w.heap.size w w' := by
  have h1 := From_c s hs
  have h2 := rFrom_c s hs
  cases hq : takeX 67 (Cm.dec ksCmd) s.data.toList with
  | none =>
    have hO : ∀ e, FromO s e → e = .returned (.tuple #[.agg zCmd.cells.toArray, .int .i64 140]) := fun e h => by
      unfold FromO at h
      rw [hq] at h
      exact h
    exact main s w zCmd 140 (.inr rfl) (fun X => (h1 X).mono fun e w' ⟨a, b⟩ => ⟨hO e a, b⟩) (fun X => (h2 X).mono fun e w' ⟨a, b⟩ => ⟨hO e a, b⟩) (fun e => absurd e (by decide))
  | some vs =>
    have hc := cmd_takeX s.data.toList
    rw [hq] at hc
    obtain ⟨x, hx⟩ : ∃ x : CmdD, vs = x.pss.flatten := by
      split at hc
      · injection hc with hc
        exact ⟨_, hc⟩
      · cases hc
    subst hx
    have hO : ∀ e, FromO s e → e = .returned (.tuple #[.agg x.cells.toArray, .int .i64 0]) := fun e h => by
      unfold FromO at h
      rw [hq] at h
      obtain ⟨y, hy, he⟩ := h
      rw [he, CmdD.inj hy]
    obtain ⟨-, bs, he, hl⟩ := takeX_enc hq
    have hS : putS ⟨#[67]⟩ (some bs) = s := by
      apply Cm.of_toL
      rw [hl]
      rfl
    exact main s w x 0 (.inl rfl) (fun X => (h1 X).mono fun e w' ⟨a, b⟩ => ⟨hO e a, b⟩) (fun X => (h2 X).mono fun e w' ⟨a, b⟩ => ⟨hO e a, b⟩) (fun _ X => (Put_c x (ok_enc he) X).mono fun e w' ⟨a, b⟩ => ⟨by rw [a, he, putO_eq, hS]; rfl, b⟩)

theorem own : ownKnob Try.prog.godebug = none := by kernel_rfl

set_option maxRecDepth 100000 in
theorem lifted (os : Os) (started : os.Started) (H : Type) (enc : TypeId × Value → H) :
    ReturnsInHanded {} Try.checked os 6 .any (Rows.commandReadsSpec.pre6 enc Try.prog Try.f6 Rows.commandReadsRow.domain false) (Rows.commandReadsSpec.post enc Try.prog Try.f6 false true false false) := by
  refine returnsInHanded_of_change_sized (C := Try.checked) own started (by kernel_rfl) Try.func6
    (ChangeSpec.witness6 (enc := enc) (C := Try.checked) false ⟨#[], #[.string ByteArray.empty], []⟩ 8 (by kernel_rfl) (by kernel_rfl) (by kernel_rfl) (by kernel_rfl)) ?_
  intro W base args ds gs before hval0 hW _ hsz0 _
  have hsz : (DataW.weightsEach Try.prog (Try.f6.params.toList ++ Rows.commandReadsSpec.plain.varTypes Try.prog) (ds ++ gs)).all (· ≤ reachBytes) = true := hsz0
  have hval : ∀ (j : Nat) t v, Try.f6.params[j]? = some t → args[j]? = some v → Value.okWide Try.prog W .any base t v := hval0
  have hW' := hW
  obtain ⟨p, q, hA0, hV, rfl, hfz, hnd⟩ := hW
  have hA : DataW.TrodAll enc Try.prog W 0 (fun _ => true) true Try.f6.params.toList args.toList ds p := hA0
  rw [Try.params6] at hA hval hsz
  obtain ⟨v0, vs0, d0, ds0, p0, q0, hargs, rfl, rfl, h0, r0⟩ := trodAll_cons hA
  obtain ⟨rfl, rfl, rfl⟩ := trodAll_nil r0
  obtain rfl : args = #[v0] := by cases args; simp_all
  obtain ⟨rfl, rfl⟩ := trodVars_none hV
  obtain ⟨a0, rfl, rfl, rfl, w0⟩ := open_string Try.underlying9 (hval 0 9 v0 rfl rfl) h0
  have b0 : a0.size ≤ 140737488351232 := by have := sized_string hsz (j := 0) (t := 9) rfl rfl; simpa [reachBytes] using this
  clear hA0 hval0 hsz0
  refine (walk a0 W b0).mono fun e W' ⟨he, bel⟩ => ?_
  subst he
  exact ⟨_, rfl, _, _, _, [], _, [], hW', trodAll_mk1 (shut_bool Try.underlying4 _), (trodAll_cons_mk (shut_string Try.underlying9 w0) trodAll_mk0), rfl, bel.frame _, fun h => by cases h⟩

theorem over : Rows.commandReadsRow.holds Try.pinned (OpenSpec.ofChange Rows.commandReadsSpec) :=
  OpenClaim.holds_of_wide 6 Try.f6 rfl rfl rfl rfl rfl rfl rfl ⟨rfl, rfl, rfl, rfl, rfl⟩ rfl rfl rfl rfl rfl (by kernel_rfl) Try.func6 (by kernel_rfl)
    (of_decide_eq_true (by kernel_rfl)) (by unfold Func.isWrapper; first | (rw [if_pos (by decide +kernel)]; kernel_rfl) | (rw [if_neg (by decide +kernel)]; exact ⟨rfl, rfl⟩))
    (fun os started H enc _ => lifted os started H enc)


end Go.Proofs.Ytgkcchbignakcaa.commandReads
namespace Go.Proofs.Ytgkcchbignakcaa
/-- The statement. -/
theorem commandReads_holds : Rows.CommandReadsSaid := commandReads.over
end Go.Proofs.Ytgkcchbignakcaa
