/-
  For every two texts t, tail: BitsTexts answers true: Valid and PutText answer as the document, and Text reads the text back whatever stands behind; the arguments read afterwards as before. No condition.
-/
import Derived.Test.YtncnfhpjdpkciaaRefText
import Derived.ProofKit
import Derived.OpenShut
import Derived.ShutString
import Derived.SizedLaws
namespace Go.Proofs.Ytncnfhpjdpkciaa.bitsTexts
open Go.ChangeShapes Go.WideShapes Go.ChangeAt Go.RowKit
open Go.ChangeMaps (open_string shut_string)

/-- What was put is read back. -/
theorem rd (t u : ByteArray) (ht : t.size ≤ 140737488351232) (hv : valid t = true) :
    rdText ((⟨(M.putVar t.size).toArray⟩ ++ t) ++ u) (t.size : Int) = (t, (((M.putVar t.size).length + t.size : Nat) : Int), 0) := by
  have e : ((((⟨(M.putVar t.size).toArray⟩ : ByteArray) ++ t) ++ u) : ByteArray).data.toList = M.putVar t.size ++ (t.data.toList ++ u.data.toList) := by simp
  have hr := M.rdVar_put t.size (t.data.toList ++ u.data.toList) (by omega)
  rw [← e] at hr
  have hsz : ((((⟨(M.putVar t.size).toArray⟩ : ByteArray) ++ t) ++ u) : ByteArray).size = (M.putVar t.size).length + t.size + u.size := by
    rw [ByteArray.size_append, ByteArray.size_append, size_of_list]
  have hx : ((((⟨(M.putVar t.size).toArray⟩ : ByteArray) ++ t) ++ u) : ByteArray).extract (M.putVar t.size).length ((M.putVar t.size).length + t.size) = t := by
    apply ByteArray.ext
    apply Array.toList_inj.1
    rw [ByteArray.data_extract, Array.toList_extract, List.extract_eq_take_drop, e, Nat.add_sub_cancel_left, List.drop_append_of_le_length (Nat.le_refl _), List.drop_length, List.nil_append]
    rw [List.take_append_of_le_length (by simp), List.take_of_length_le (by simp)]
  unfold rdText
  rw [hr]
  simp only
  rw [if_neg (by omega), if_neg (by simp), if_neg (by omega), if_neg (by rw [hsz]; omega), hx, if_neg (by rw [hv]; simp)]

theorem size_put (t : ByteArray) : ((⟨(M.putVar t.size).toArray⟩ ++ t : ByteArray)).size = (M.putVar t.size).length + t.size := by
  rw [ByteArray.size_append, size_of_list]

set_option maxHeartbeats 400000 in
theorem walk (a0 a1 : ByteArray) (w : World) (b0 : a0.size ≤ 140737488351232) (b1 : a1.size ≤ 140737488351232) :
    Calls Try.prog 6 #[.string a0, .string a1] w fun e w' => e = .returned (.bool true) ∧ Below w.heap.size w w' := by
  have hm : a0.size ≤ maxLen := by unfold maxLen; omega
  cases hv : valid a0 with
  | false =>
    have HV : Hid (valid a0 = false) := hv
    clear hv
    go_enter Try.func6, Try.ntmps6
    go_wp2_with fail
    refine (bits_Valid a0 _ hm).mono ?_
    rw [HV.out]
    rintro e w1 ⟨rfl, hb1⟩
    go_wp2_with fail
    refine (ref_Valid a0 _ b0).mono ?_
    rw [HV.out]
    rintro e w2 ⟨rfl, hb2⟩
    go_wp2_with fail
    refine (bits_PutText_no a0 _ b0 HV.out).mono ?_
    rintro e w3 ⟨rfl, hb3⟩
    go_wp2_with fail
    refine (ref_PutText_no a0 _ b0 HV.out).mono ?_
    rintro e w4 ⟨rfl, hb4⟩
    go_wp2_with fail
    refine (awake _).mono ?_
    rintro e w5 ⟨rfl, hb5⟩
    go_wp2
    go_ret
    exact ⟨rfl, hb1.trans ((hb2.trans ((hb3.trans ((hb4.trans (hb5.mono hb4.size)).mono hb3.size)).mono hb2.size)).mono hb1.size)⟩
  | true =>
    have HV : Hid (valid a0 = true) := hv
    have hlen := M.putVar_length9 (show a0.size < 9223372036854775808 by omega)
    have hsz := size_put a0
    have HS : Hid (((⟨(M.putVar a0.size).toArray⟩ ++ a0 : ByteArray)).size = (M.putVar a0.size).length + a0.size) := hsz
    have HR : Hid (rdText ((⟨(M.putVar a0.size).toArray⟩ ++ a0) ++ a1) (a0.size : Int) = (a0, (((M.putVar a0.size).length + a0.size : Nat) : Int), 0)) := rd a0 a1 b0 hv
    have hbig : ((⟨(M.putVar a0.size).toArray⟩ ++ a0) ++ a1 : ByteArray).size ≤ 562949953421312 := by
      rw [ByteArray.size_append, hsz]; omega
    clear hv hsz
    go_enter Try.func6, Try.ntmps6
    go_wp2_with fail
    refine (bits_Valid a0 _ hm).mono ?_
    rw [HV.out]
    rintro e w1 ⟨rfl, hb1⟩
    go_wp2_with fail
    refine (ref_Valid a0 _ b0).mono ?_
    rw [HV.out]
    rintro e w2 ⟨rfl, hb2⟩
    go_wp2_with fail
    refine (bits_PutText_yes a0 _ b0 HV.out).mono ?_
    rintro e w3 ⟨rfl, hb3⟩
    go_wp2_with fail
    refine (ref_PutText_yes a0 _ b0 HV.out).mono ?_
    rintro e w4 ⟨rfl, hb4⟩
    go_wp2_with fail
    refine (bits_Text _ (a0.size : Int) _ hbig (Or.inl (by omega))).mono ?_
    rw [HR.out]
    rintro e w5 ⟨rfl, hb5⟩
    go_wp2_with fail
    refine (awake _).mono ?_
    rintro e w6 ⟨rfl, hb6⟩
    go_wp2
    go_ret
    exact ⟨rfl, hb1.trans ((hb2.trans ((hb3.trans ((hb4.trans ((hb5.trans (hb6.mono hb5.size)).mono hb4.size)).mono hb3.size)).mono hb2.size)).mono hb1.size)⟩

theorem own : ownKnob Try.prog.godebug = none := by kernel_rfl

set_option maxRecDepth 100000 in
theorem lifted (os : Os) (started : os.Started) (H : Type) (enc : TypeId × Value → H) :
    ReturnsInHanded {} Try.checked os 6 .any (Rows.bitsTextsSpec.pre6 enc Try.prog Try.f6 Rows.bitsTextsRow.domain false) (Rows.bitsTextsSpec.post enc Try.prog Try.f6 false true false false) := by
  refine returnsInHanded_of_change_sized (C := Try.checked) own started (by kernel_rfl) Try.func6
    (ChangeSpec.witness6 (enc := enc) (C := Try.checked) false ⟨#[], #[.string ByteArray.empty, .string ByteArray.empty], []⟩ 8 (by kernel_rfl) (by kernel_rfl) (by kernel_rfl) (by kernel_rfl)) ?_
  intro W base args ds gs before hval0 hW _ hsz0 _
  have hsz : (DataW.weightsEach Try.prog (Try.f6.params.toList ++ Rows.bitsTextsSpec.plain.varTypes Try.prog) (ds ++ gs)).all (· ≤ reachBytes) = true := hsz0
  have hval : ∀ (j : Nat) t v, Try.f6.params[j]? = some t → args[j]? = some v → Value.okWide Try.prog W .any base t v := hval0
  have hW' := hW
  obtain ⟨p, q, hA0, hV, rfl, hfz, hnd⟩ := hW
  have hA : DataW.TrodAll enc Try.prog W 0 (fun _ => true) true Try.f6.params.toList args.toList ds p := hA0
  rw [Try.params6] at hA hval hsz
  obtain ⟨v0, vs0, d0, ds0, p0, q0, hargs, rfl, rfl, h0, r0⟩ := trodAll_cons hA
  obtain ⟨v1, vs1, d1, ds1, p1, q1, rfl, rfl, rfl, h1, r1⟩ := trodAll_cons r0
  obtain ⟨rfl, rfl, rfl⟩ := trodAll_nil r1
  obtain rfl : args = #[v0, v1] := by cases args; simp_all
  obtain ⟨rfl, rfl⟩ := trodVars_none hV
  obtain ⟨a0, rfl, rfl, rfl, w0⟩ := open_string Try.underlying9 (hval 0 9 v0 rfl rfl) h0
  have b0 : a0.size ≤ 140737488351232 := by have := sized_string hsz (j := 0) (t := 9) rfl rfl; simpa [reachBytes] using this
  obtain ⟨a1, rfl, rfl, rfl, w1⟩ := open_string Try.underlying9 (hval 1 9 v1 rfl rfl) h1
  have b1 : a1.size ≤ 140737488351232 := by have := sized_string hsz (j := 1) (t := 9) rfl rfl; simpa [reachBytes] using this
  clear hA0 hval0 hsz0
  refine (walk a0 a1 W b0 b1).mono fun e W' ⟨he, bel⟩ => ?_
  subst he
  exact ⟨_, rfl, _, _, _, [], _, [], hW', trodAll_mk1 (shut_bool Try.underlying4 _), (trodAll_cons_mk (shut_string Try.underlying9 w0) (trodAll_cons_mk (shut_string Try.underlying9 w1) trodAll_mk0)), rfl, bel.frame _, fun h => by cases h⟩

theorem over : Rows.bitsTextsRow.holds Try.pinned (OpenSpec.ofChange Rows.bitsTextsSpec) :=
  OpenClaim.holds_of_wide 6 Try.f6 rfl rfl rfl rfl rfl rfl rfl ⟨rfl, rfl, rfl, rfl, rfl⟩ rfl rfl rfl rfl rfl (by kernel_rfl) Try.func6 (by kernel_rfl)
    (of_decide_eq_true (by kernel_rfl)) (by unfold Func.isWrapper; first | (rw [if_pos (by decide +kernel)]; kernel_rfl) | (rw [if_neg (by decide +kernel)]; exact ⟨rfl, rfl⟩))
    (fun os started H enc _ => lifted os started H enc)


end Go.Proofs.Ytncnfhpjdpkciaa.bitsTexts
namespace Go.Proofs.Ytncnfhpjdpkciaa
/-- The statement. -/
theorem bitsTexts_holds : Rows.BitsTextsSaid := bitsTexts.over
end Go.Proofs.Ytncnfhpjdpkciaa
