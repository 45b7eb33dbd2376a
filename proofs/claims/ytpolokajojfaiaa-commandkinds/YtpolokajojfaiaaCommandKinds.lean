/-
  For every text: CommandKinds answers true: bytes are at most one of a command, a message, something asked, something answered; the argument reads afterwards as before. No condition.
-/
import Derived.Test.YtpolokajojfaiaaCmKn1
import Derived.Test.YtpolokajojfaiaaCmKn2
import Derived.Test.YtpolokajojfaiaaCmKn3
import Derived.Test.YtpolokajojfaiaaCmKn4
import Derived.Test.YtpolokajojfaiaaCmKn5
import Derived.ProofKit
import Derived.OpenShut
import Derived.ShutString
import Derived.SizedLaws
namespace Go.Proofs.Ytpolokajojfaiaa.commandKinds
open Go.ChangeShapes Go.WideShapes Go.ChangeAt Go.RowKit
open Go.ChangeMaps (open_string shut_string)

theorem walk (s : ByteArray) (w : World) (hs : s.size ≤ 140737488351232) :
    Calls Try.prog 3 #[.string s] w fun e w' => e = .returned (.bool true) ∧ Below w.heap.size w w' := by
  have H1 := fun (X : World) (h : Below w.heap.size w X) => (From_c s hs X).mono fun e w' ⟨a, b⟩ => And.intro (one_cmd a) (bigBelow h b)
  have H2 := fun (X : World) (h : Below w.heap.size w X) => (FromM_c s hs X).mono fun e w' ⟨a, b⟩ => And.intro (one_msg a) (bigBelow h b)
  have H3 := fun (X : World) (h : Below w.heap.size w X) => (FromAsk_c s hs X).mono fun e w' ⟨a, b⟩ => And.intro (two_ask a) (bigBelow h b)
  have H4 := fun (X : World) (h : Below w.heap.size w X) => (FromAnswer_c s hs X).mono fun e w' ⟨a, b⟩ => And.intro (two_ans a) (bigBelow h b)
  have HA := fun (X : World) (h : Below w.heap.size w X) => (awake_c X).mono fun e w' ⟨a, b⟩ => And.intro a (bigBelow h b)
  cases h1 : takeX 67 (Cm.dec ksCmd) s.data.toList with
  | some v =>
    rw [h1] at H1
    rw [takeX_no (n := 77) h1 (by decide)] at H2
    rw [takeX_no (n := 81) h1 (by decide)] at H3
    rw [takeX_no (n := 65) h1 (by decide)] at H4
    exact main2 s w H1 H2 H3 H4 HA
  | none =>
    rw [h1] at H1
    cases h2 : takeX 77 dMsg s.data.toList with
    | some v =>
      rw [h2] at H2
      rw [takeX_no (n := 81) h2 (by decide)] at H3
      rw [takeX_no (n := 65) h2 (by decide)] at H4
      exact main3 s w H1 H2 H3 H4 HA
    | none =>
      rw [h2] at H2
      cases h3 : takeX 81 (Cm.dec ksAsk) s.data.toList with
      | some v =>
        rw [h3] at H3
        rw [takeX_no (n := 65) h3 (by decide)] at H4
        exact main4 s w H1 H2 H3 H4 HA
      | none =>
        rw [h3] at H3
        cases h4 : takeX 65 dAns s.data.toList with
        | some v => rw [h4] at H4; exact main5 s w H1 H2 H3 H4 HA
        | none => rw [h4] at H4; exact main1 s w H1 H2 H3 H4 HA

theorem own : ownKnob Try.prog.godebug = none := by kernel_rfl

set_option maxRecDepth 100000 in
theorem lifted (os : Os) (started : os.Started) (H : Type) (enc : TypeId × Value → H) :
    ReturnsInHanded {} Try.checked os 3 .any (Rows.commandKindsSpec.pre6 enc Try.prog Try.f3 Rows.commandKindsRow.domain false) (Rows.commandKindsSpec.post enc Try.prog Try.f3 false true false false) := by
  refine returnsInHanded_of_change_sized (C := Try.checked) own started (by kernel_rfl) Try.func3
    (ChangeSpec.witness6 (enc := enc) (C := Try.checked) false ⟨#[], #[.string ByteArray.empty], []⟩ 8 (by kernel_rfl) (by kernel_rfl) (by kernel_rfl) (by kernel_rfl)) ?_
  intro W base args ds gs before hval0 hW _ hsz0 _
  have hsz : (DataW.weightsEach Try.prog (Try.f3.params.toList ++ Rows.commandKindsSpec.plain.varTypes Try.prog) (ds ++ gs)).all (· ≤ reachBytes) = true := hsz0
  have hval : ∀ (j : Nat) t v, Try.f3.params[j]? = some t → args[j]? = some v → Value.okWide Try.prog W .any base t v := hval0
  have hW' := hW
  obtain ⟨p, q, hA0, hV, rfl, hfz, hnd⟩ := hW
  have hA : DataW.TrodAll enc Try.prog W 0 (fun _ => true) true Try.f3.params.toList args.toList ds p := hA0
  rw [Try.params3] at hA hval hsz
  obtain ⟨v0, vs0, d0, ds0, p0, q0, hargs, rfl, rfl, h0, r0⟩ := trodAll_cons hA
  obtain ⟨rfl, rfl, rfl⟩ := trodAll_nil r0
  obtain rfl : args = #[v0] := by cases args; simp_all
  obtain ⟨rfl, rfl⟩ := trodVars_none hV
  obtain ⟨a0, rfl, rfl, rfl, w0⟩ := open_string Try.underlying9 (hval 0 9 v0 rfl rfl) h0
  have b0 : a0.size ≤ 140737488351232 := by have := sized_string hsz (j := 0) (t := 9) rfl rfl; simpa [reachBytes] using this
  clear hA0 hval0 hsz0
  refine (walk a0 W b0).mono fun e W' ⟨he, bel⟩ => ?_
  subst he
  exact ⟨_, rfl, _, _, _, [], _, [], hW', trodAll_mk1 (shut_bool Try.underlying4 _), (trodAll_cons_mk (shut_string Try.underlying9 w0) trodAll_mk0), rfl, bel.frame _, fun h => by cases h⟩

theorem over : Rows.commandKindsRow.holds Try.pinned (OpenSpec.ofChange Rows.commandKindsSpec) :=
  OpenClaim.holds_of_wide 3 Try.f3 rfl rfl rfl rfl rfl rfl rfl ⟨rfl, rfl, rfl, rfl, rfl⟩ rfl rfl rfl rfl rfl (by kernel_rfl) Try.func3 (by kernel_rfl)
    (of_decide_eq_true (by kernel_rfl)) (by unfold Func.isWrapper; first | (rw [if_pos (by decide +kernel)]; kernel_rfl) | (rw [if_neg (by decide +kernel)]; exact ⟨rfl, rfl⟩))
    (fun os started H enc _ => lifted os started H enc)


end Go.Proofs.Ytpolokajojfaiaa.commandKinds
namespace Go.Proofs.Ytpolokajojfaiaa
/-- The statement. -/
theorem commandKinds_holds : Rows.CommandKindsSaid := commandKinds.over
end Go.Proofs.Ytpolokajojfaiaa
