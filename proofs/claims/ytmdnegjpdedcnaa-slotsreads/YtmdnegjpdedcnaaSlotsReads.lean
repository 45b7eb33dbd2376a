/-
  For every text: SlotsReads answers true: the map of any bytes, or that they are none, is what the document's is; as bytes again it is these; the argument reads afterwards as before. No condition.
-/
import Derived.Test.YtmdnegjpdedcnaaSlRef4
import Derived.Test.YtmdnegjpdedcnaaSlTold
import Derived.Test.YtmdnegjpdedcnaaSlPl
import Derived.ProofKit
import Derived.OpenShut
import Derived.ShutString
import Derived.SizedLaws
namespace Go.Proofs.Ytmdnegjpdedcnaa.slotsReads
open Go.ChangeShapes Go.WideShapes Go.ChangeAt Go.RowKit
open Go.ChangeMaps (open_string shut_string)

set_option maxHeartbeats 1600000 in
set_option maxRecDepth 20000 in
theorem walk (a0 : ByteArray) (w : World) (_b0 : a0.size ≤ 140737488351232) :
    Calls Try.prog 5 #[.string a0] w fun e w' => e = .returned (.bool true) ∧ Below w.heap.size w w' := by
  have HA : Hid (∀ u : World, Calls Try.prog 13 #[] u fun e w' => e = .returned (.bool true) ∧ Below u.heap.size u w') := awake_c
  cases hf : Sl.frm a0.data.toList with
  | none =>
    have HC : Hid (Calls Try.prog 19 #[.string a0] w fun e w' => e = .returned (.tuple #[.pointer none, .int .i64 140]) ∧ Below w.heap.size w w') := by
      refine (FromS_c a0 _b0 w).mono ?_
      rintro e w' ⟨h1, h2⟩
      rw [hf] at h2
      exact ⟨h2, h1⟩
    have HR : Hid (∀ X, Calls Try.prog 20 #[.string a0] X fun e w' => e = .returned (.tuple #[.agg #[.slice none 0 0, .slice none 0 0], .int .i64 140]) ∧ Below X.heap.size X w') := fun X => by
      refine (rFromS_c a0 _b0 X).mono ?_
      rintro e w' ⟨h1, h2⟩
      rw [hf] at h2
      exact ⟨h2, h1⟩
    clear hf
    go_enter Try.func5, Try.ntmps5
    go_wp2_with fail
    refine Calls.mono HC.out ?_
    rintro e w1 ⟨rfl, h1⟩
    have H1 : Hid (Below w.heap.size w w1) := h1
    clear h1
    go_wp2_with fail
    refine (HR.out w1).mono ?_
    rintro e w2 ⟨rfl, h2⟩
    have H2 : Hid (∀ o, Below w.heap.size w (w2.alloc o)) := fun o => (H1.out.trans (h2.mono H1.out.size)).trans ((below_alloc w2 o).mono (Nat.le_trans H1.out.size h2.size))
    clear h2
    go_wp2_with fail
    refine (HA.out _).mono ?_
    rintro e w3 ⟨rfl, hb3⟩
    have HB3 : Hid _ := hb3
    clear hb3
    go_wp2
    go_ret
    exact ⟨rfl, (H2.out _).trans (HB3.out.mono (H2.out _).size)⟩
  | some t =>
    have HC : Hid (Calls Try.prog 19 #[.string a0] w fun e w' => ∃ B, e = .returned (.tuple #[.pointer (some ⟨B, 0, none⟩), .int .i64 0]) ∧ Sn w w' B t) := by
      refine (FromS_c a0 _b0 w).mono ?_
      rintro e w' ⟨h1, h2⟩
      rw [hf] at h2
      exact h2
    have HR : Hid (∀ X, Calls Try.prog 20 #[.string a0] X fun e w' => ∃ a1 b1 d1 a2 b2 d2, e = .returned (.tuple #[.agg #[.slice (some ⟨a1, b1, none⟩) 16 d1, .slice (some ⟨a2, b2, none⟩) 16 d2], .int .i64 0]) ∧ Rm w' (.slice (some ⟨a1, b1, none⟩) 16 d1) (.slice (some ⟨a2, b2, none⟩) 16 d2) t ∧ Below X.heap.size X w') := fun X => by
      refine (rFromS_c a0 _b0 X).mono ?_
      rintro e w' ⟨h1, h2⟩
      rw [hf] at h2
      obtain ⟨vo, ve, rfl, h3⟩ := h2
      obtain ⟨a1, b1, d1, a2, b2, d2, e1, e2⟩ := h3.shapes
      subst e1 e2
      exact ⟨a1, b1, d1, a2, b2, d2, rfl, h3, h1⟩
    have hby := (Sl.frm_some hf).2
    have HBy : Hid (∀ X B, Sm X B t → Calls Try.prog 21 #[.pointer (some ⟨B, 0, none⟩)] X fun e w' => e = .returned (.tuple #[.string a0, .int .i64 0]) ∧ Below X.heap.size X w') := fun X B hX => by
      have := BytesS_c hX
      rw [hby] at this
      exact this
    clear hf hby
    go_enter Try.func5, Try.ntmps5
    go_wp2_with fail
    refine Calls.mono HC.out ?_
    rintro e w1 ⟨B, rfl, h1⟩
    have H1 : Hid (Sn w w1 B t) := h1
    clear h1
    go_wp2_with fail
    refine (HR.out w1).mono ?_
    rintro e w2 ⟨a1, b1, d1, a2, b2, d2, rfl, h2, h3⟩
    obtain ⟨X, hX⟩ : ∃ X, X = w2.alloc (.cells #[.slice (some ⟨a1, b1, none⟩) 16 d1, .slice (some ⟨a2, b2, none⟩) 16 d2] 36) := ⟨_, rfl⟩
    obtain ⟨bq, hbq⟩ : ∃ bq, bq = w2.heap.size := ⟨_, rfl⟩
    have HX : Hid (Sn w X B t ∧ Rm X (.slice (some ⟨a1, b1, none⟩) 16 d1) (.slice (some ⟨a2, b2, none⟩) 16 d2) t) := by
      rw [hX]
      exact ⟨(H1.out.below h3).below (below_alloc _ _), h2.below (below_alloc _ _)⟩
    have k0 : X.cell? ⟨bq, 0, none⟩ = some (.slice (some ⟨a1, b1, none⟩) 16 d1) := by rw [hX, hbq]; exact World.cell?_alloc_mark w2 _ _ _ 0
    have k1 : X.cell? ⟨bq, 1, none⟩ = some (.slice (some ⟨a2, b2, none⟩) 16 d2) := by rw [hX, hbq]; exact World.cell?_alloc_mark w2 _ _ _ 1
    have HLt : Hid (bq < X.heap.size) := by rw [hX, hbq]; show _ < _; simp
    have HB1 : Hid _ := HBy.out X B HX.out.1.sm
    clear h2 h3
    go_wp2_with fail
    rw [← hX]
    try rw [← hbq]
    clear hX hbq
    refine Calls.mono HB1.out ?_
    rintro e w3 ⟨rfl, h4⟩
    have m0 := (h4.cell (p := ⟨bq, 0, none⟩) HLt.out).trans k0
    have m1 := (h4.cell (p := ⟨bq, 1, none⟩) HLt.out).trans k1
    have HX3 : Hid (Sn w w3 B t ∧ Rm w3 (.slice (some ⟨a1, b1, none⟩) 16 d1) (.slice (some ⟨a2, b2, none⟩) 16 d2) t) := ⟨HX.out.1.below h4, HX.out.2.below h4⟩
    have HT : Hid _ := told_c HX3.out.1.sm HX3.out.2
    clear h4 k0 k1
    go_wp2_with fail
    refine Calls.mono HT.out ?_
    rintro e w4 ⟨rfl, h5⟩
    have H5 : Hid (Below w.heap.size w w4) := HX3.out.1.old.trans (h5.mono HX3.out.1.old.size)
    clear h5
    go_wp2_with fail
    refine (HA.out _).mono ?_
    rintro e w5 ⟨rfl, hb5⟩
    have HB5 : Hid _ := hb5
    clear hb5
    go_wp2
    go_ret
    exact ⟨rfl, H5.out.trans (HB5.out.mono H5.out.size)⟩

theorem own : ownKnob Try.prog.godebug = none := by kernel_rfl

set_option maxRecDepth 100000 in
theorem lifted (os : Os) (started : os.Started) (H : Type) (enc : TypeId × Value → H) :
    ReturnsInHanded {} Try.checked os 5 .any (Rows.slotsReadsSpec.pre6 enc Try.prog Try.f5 Rows.slotsReadsRow.domain false) (Rows.slotsReadsSpec.post enc Try.prog Try.f5 false true false false) := by
  refine returnsInHanded_of_change_sized (C := Try.checked) own started (by kernel_rfl) Try.func5
    (ChangeSpec.witness6 (enc := enc) (C := Try.checked) false ⟨#[], #[.string ByteArray.empty], []⟩ 8 (by kernel_rfl) (by kernel_rfl) (by kernel_rfl) (by kernel_rfl)) ?_
  intro W base args ds gs before hval0 hW _ hsz0 _
  have hsz : (DataW.weightsEach Try.prog (Try.f5.params.toList ++ Rows.slotsReadsSpec.plain.varTypes Try.prog) (ds ++ gs)).all (· ≤ reachBytes) = true := hsz0
  have hval : ∀ (j : Nat) t v, Try.f5.params[j]? = some t → args[j]? = some v → Value.okWide Try.prog W .any base t v := hval0
  have hW' := hW
  obtain ⟨p, q, hA0, hV, rfl, hfz, hnd⟩ := hW
  have hA : DataW.TrodAll enc Try.prog W 0 (fun _ => true) true Try.f5.params.toList args.toList ds p := hA0
  rw [Try.params5] at hA hval hsz
  obtain ⟨v0, vs0, d0, ds0, p0, q0, hargs, rfl, rfl, h0, r0⟩ := trodAll_cons hA
  obtain ⟨rfl, rfl, rfl⟩ := trodAll_nil r0
  obtain rfl : args = #[v0] := by cases args; simp_all
  obtain ⟨rfl, rfl⟩ := trodVars_none hV
  obtain ⟨a0, rfl, rfl, rfl, w0⟩ := open_string Try.underlying9 (hval 0 9 v0 rfl rfl) h0
  have b0 : a0.size ≤ 140737488351232 := by have := sized_string hsz (j := 0) (t := 9) rfl rfl; simpa [reachBytes] using this
  clear hA0 hval0 hsz0
  refine (walk a0 W b0).mono fun e W' ⟨he, bel⟩ => ?_
  subst he
  exact ⟨_, rfl, _, _, _, [], _, [], hW', trodAll_mk1 (shut_bool Try.underlying4 _), (trodAll_cons_mk (shut_string Try.underlying9 w0) trodAll_mk0), rfl, bel.frame _, fun h => by cases h⟩

theorem over : Rows.slotsReadsRow.holds Try.pinned (OpenSpec.ofChange Rows.slotsReadsSpec) :=
  OpenClaim.holds_of_wide 5 Try.f5 rfl rfl rfl rfl rfl rfl rfl ⟨rfl, rfl, rfl, rfl, rfl⟩ rfl rfl rfl rfl rfl (by kernel_rfl) Try.func5 (by kernel_rfl)
    (of_decide_eq_true (by kernel_rfl)) (by unfold Func.isWrapper; first | (rw [if_pos (by decide +kernel)]; kernel_rfl) | (rw [if_neg (by decide +kernel)]; exact ⟨rfl, rfl⟩))
    (fun os started H enc _ => lifted os started H enc)


end Go.Proofs.Ytmdnegjpdedcnaa.slotsReads
namespace Go.Proofs.Ytmdnegjpdedcnaa
/-- The statement. -/
theorem slotsReads_holds : Rows.SlotsReadsSaid := slotsReads.over
end Go.Proofs.Ytmdnegjpdedcnaa
