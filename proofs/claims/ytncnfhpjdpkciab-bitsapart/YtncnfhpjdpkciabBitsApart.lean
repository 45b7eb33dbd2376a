/-
  For every two numbers and every two texts: BitsApart answers true: no two numbers, and no two texts, have the same bytes, and those of two one behind the other are read one by one; the arguments read afterwards as before. No condition.
-/
import Derived.Test.YtncnfhpjdpkciabApartWalks
namespace Go.Proofs.Ytncnfhpjdpkciab.bitsApart
open Go.ChangeShapes Go.WideShapes Go.ChangeAt Go.RowKit
open Go.ChangeMaps (open_string shut_string)

theorem str_eq (a b : ByteArray) : (a.toList == b.toList) = decide (a = b) := by
  rw [ByteArray.toList_eq, ByteArray.toList_eq, Bool.eq_iff_iff, beq_iff_eq, decide_eq_true_eq]
  constructor
  · intro h
    exact ByteArray.ext (Array.toList_inj.1 h)
  · intro h; rw [h]

theorem int_eq (a b : Int) : (a == b) = decide (a = b) := by
  rw [Bool.eq_iff_iff, beq_iff_eq, decide_eq_true_eq]

theorem ptS_inj {t u : ByteArray} (ht : valid t = true) (hu : valid u = true) (bt : t.size ≤ 4096) (bu : u.size ≤ 4096) : ptS t = ptS u ↔ t = u := by
  constructor
  · intro h
    unfold ptS at h
    rw [if_pos ht, if_pos hu] at h
    have h1 := rd t ⟨#[]⟩ 4096 (by omega) (by omega) ht
    have h2 := rd u ⟨#[]⟩ 4096 (by omega) (by omega) hu
    rw [h, h2] at h1
    exact (Prod.mk.inj h1).1.symm
  · intro h; rw [h]

theorem rd0 (t : ByteArray) (hb : t.size ≤ 4096) (hv : valid t = true) : rdText (⟨(M.putVar t.size).toArray⟩ ++ t) 4096 = (t, (((M.putVar t.size).length + t.size : Nat) : Int), 0) := by
  have h := rd t ⟨#[]⟩ 4096 (by omega) (by omega) hv
  have e : ((⟨(M.putVar t.size).toArray⟩ ++ t) ++ ⟨#[]⟩ : ByteArray) = ⟨(M.putVar t.size).toArray⟩ ++ t := by
    apply ByteArray.ext
    apply Array.toList_inj.1
    simp
  rw [e] at h
  exact h

theorem walk (a0 c0 : Int) (a1 a2 : ByteArray) (w : World) (b0 : (-9223372036854775808 ≤ a0 ∧ a0 ≤ 9223372036854775807) ∧ (-9223372036854775808 ≤ c0 ∧ c0 ≤ 9223372036854775807)) (b1 : a1.size ≤ 140737488351232) (b2 : a2.size ≤ 140737488351232) :
    Calls Try.prog 3 #[.agg #[.int .i64 a0, .int .i64 c0], .string a1, .string a2] w fun e w' => e = .returned (.bool true) ∧ Below w.heap.size w w' := by
  have HA : Hid (∀ W, Calls Try.prog 5 #[.int .i64 a0] W fun e w' => e = .returned (.tuple #[.string (pvS a0), .int .i64 (pvE a0)]) ∧ Below W.heap.size W w') := fun W => putVar_all a0 W b0.1.2
  have HB : Hid (∀ W, Calls Try.prog 5 #[.int .i64 c0] W fun e w' => e = .returned (.tuple #[.string (pvS c0), .int .i64 (pvE c0)]) ∧ Below W.heap.size W w') := fun W => putVar_all c0 W b0.2.2
  have HC : Hid (∀ W, Calls Try.prog 6 #[.string a1] W fun e w' => e = .returned (.tuple #[.string (ptS a1), .int .i64 (ptE a1)]) ∧ Below W.heap.size W w') := fun W => putText_all a1 W b1
  have HD : Hid (∀ W, Calls Try.prog 6 #[.string a2] W fun e w' => e = .returned (.tuple #[.string (ptS a2), .int .i64 (ptE a2)]) ∧ Below W.heap.size W w') := fun W => putText_all a2 W b2
  have ec : (pvE a0 == 0) = decide (0 ≤ a0) := by
    unfold pvE
    by_cases h : a0 < 0
    · rw [if_pos h]; simp; omega
    · rw [if_neg h]; simp; omega
  have ed : (pvE c0 == 0) = decide (0 ≤ c0) := by
    unfold pvE
    by_cases h : c0 < 0
    · rw [if_pos h]; simp; omega
    · rw [if_neg h]; simp; omega
  have gt : (ptE a1 != 0) = !valid a1 := by unfold ptE; cases valid a1 <;> rfl
  have gu : (ptE a2 != 0) = !valid a2 := by unfold ptE; cases valid a2 <;> rfl
  -- what is fine
  have fine : valid a1 = true → valid a2 = true → a1.size ≤ 4096 → a2.size ≤ 4096 →
      (ptS a1).size ≤ 5000 ∧ (ptS a2).size ≤ 5000 ∧ Hid (rdText (ptS a1 ++ ptS a2) 4096 = (a1, ((ptS a1).size : Int), 0)) ∧ Hid (rdText (ptS a2) 4096 = (a2, ((ptS a2).size : Int), 0)) ∧ ((ptS a1).toList == (ptS a2).toList) = decide (a1 = a2) := by
    intro v1 v2 h1 h2
    have l1 := M.putVar_length9 (show a1.size < 9223372036854775808 by omega)
    have l2 := M.putVar_length9 (show a2.size < 9223372036854775808 by omega)
    have z1 : (ptS a1).size = (M.putVar a1.size).length + a1.size := by unfold ptS; rw [if_pos v1, ByteArray.size_append, size_of_list]
    have z2 : (ptS a2).size = (M.putVar a2.size).length + a2.size := by unfold ptS; rw [if_pos v2, ByteArray.size_append, size_of_list]
    have e1 : ptS a1 = ⟨(M.putVar a1.size).toArray⟩ ++ a1 := by unfold ptS; rw [if_pos v1]
    have e2 : ptS a2 = ⟨(M.putVar a2.size).toArray⟩ ++ a2 := by unfold ptS; rw [if_pos v2]
    refine ⟨by omega, by omega, ?_, ?_, ?_⟩
    · unfold Hid
      rw [z1, e1]
      exact rd a1 (ptS a2) 4096 (by omega) (by omega) v1
    · unfold Hid
      rw [z2, e2]
      exact rd0 a2 h2 v2
    · rw [str_eq]
      exact decide_eq_decide.2 (ptS_inj v1 v2 h1 h2)
  have eqx : 0 ≤ a0 → 0 ≤ c0 → ((pvS a0).toList == (pvS c0).toList) = decide (a0 = c0) := by
    intro h1 h2
    rw [str_eq]
    exact decide_eq_decide.2 (pvS_inj h1 h2 b0.1.2 b0.2.2)
  by_cases hm : 0 ≤ a0
  · rw [decide_eq_true hm] at ec
    by_cases hn : 0 ≤ c0
    · rw [decide_eq_true hn] at ed
      have hx := eqx hm hn
      cases v1 : valid a1 with
      | false => exact walk_c1 a0 c0 a1 a2 w _ _ _ _ _ _ _ _ HA HB HC HD ec ed _ hx (int_eq a0 c0) (by rw [gt, v1]; rfl)
      | true =>
        cases v2 : valid a2 with
        | false => exact walk_c2 a0 c0 a1 a2 w _ _ _ _ _ _ _ _ HA HB HC HD ec ed _ hx (int_eq a0 c0) (by rw [gt, v1]; rfl) (by rw [gu, v2]; rfl)
        | true =>
          by_cases h1 : 4096 < a1.size
          · exact walk_c3 a0 c0 a1 a2 w _ _ _ _ _ _ _ _ HA HB HC HD ec ed _ hx (int_eq a0 c0) (by rw [gt, v1]; rfl) (by rw [gu, v2]; rfl) (by omega)
          · by_cases h2 : 4096 < a2.size
            · exact walk_c4 a0 c0 a1 a2 w _ _ _ _ _ _ _ _ HA HB HC HD ec ed _ hx (int_eq a0 c0) (by rw [gt, v1]; rfl) (by rw [gu, v2]; rfl) (by omega) (by omega)
            · obtain ⟨q1, q2, q3, q4, q5⟩ := fine v1 v2 (by omega) (by omega)
              exact walk_c5 a0 c0 a1 a2 w _ _ _ _ _ _ _ _ HA HB HC HD ec ed _ hx (int_eq a0 c0) (by rw [gt, v1]; rfl) (by rw [gu, v2]; rfl) (by omega) (by omega) _ q5 (str_eq a1 a2) q1 q2 q3 _ q4
    · rw [decide_eq_false hn] at ed
      cases v1 : valid a1 with
      | false => exact walk_b1 a0 c0 a1 a2 w _ _ _ _ _ _ _ _ HA HB HC HD ec ed (by rw [gt, v1]; rfl)
      | true =>
        cases v2 : valid a2 with
        | false => exact walk_b2 a0 c0 a1 a2 w _ _ _ _ _ _ _ _ HA HB HC HD ec ed (by rw [gt, v1]; rfl) (by rw [gu, v2]; rfl)
        | true =>
          by_cases h1 : 4096 < a1.size
          · exact walk_b3 a0 c0 a1 a2 w _ _ _ _ _ _ _ _ HA HB HC HD ec ed (by rw [gt, v1]; rfl) (by rw [gu, v2]; rfl) (by omega)
          · by_cases h2 : 4096 < a2.size
            · exact walk_b4 a0 c0 a1 a2 w _ _ _ _ _ _ _ _ HA HB HC HD ec ed (by rw [gt, v1]; rfl) (by rw [gu, v2]; rfl) (by omega) (by omega)
            · obtain ⟨q1, q2, q3, q4, q5⟩ := fine v1 v2 (by omega) (by omega)
              exact walk_b5 a0 c0 a1 a2 w _ _ _ _ _ _ _ _ HA HB HC HD ec ed (by rw [gt, v1]; rfl) (by rw [gu, v2]; rfl) (by omega) (by omega) _ q5 (str_eq a1 a2) q1 q2 q3 _ q4
  · rw [decide_eq_false hm] at ec
    cases v1 : valid a1 with
    | false => exact walk_a1 a0 c0 a1 a2 w _ _ _ _ _ _ _ _ HA HB HC HD ec (by rw [gt, v1]; rfl)
    | true =>
      cases v2 : valid a2 with
      | false => exact walk_a2 a0 c0 a1 a2 w _ _ _ _ _ _ _ _ HA HB HC HD ec (by rw [gt, v1]; rfl) (by rw [gu, v2]; rfl)
      | true =>
        by_cases h1 : 4096 < a1.size
        · exact walk_a3 a0 c0 a1 a2 w _ _ _ _ _ _ _ _ HA HB HC HD ec (by rw [gt, v1]; rfl) (by rw [gu, v2]; rfl) (by omega)
        · by_cases h2 : 4096 < a2.size
          · exact walk_a4 a0 c0 a1 a2 w _ _ _ _ _ _ _ _ HA HB HC HD ec (by rw [gt, v1]; rfl) (by rw [gu, v2]; rfl) (by omega) (by omega)
          · obtain ⟨q1, q2, q3, q4, q5⟩ := fine v1 v2 (by omega) (by omega)
            exact walk_a5 a0 c0 a1 a2 w _ _ _ _ _ _ _ _ HA HB HC HD ec (by rw [gt, v1]; rfl) (by rw [gu, v2]; rfl) (by omega) (by omega) _ q5 (str_eq a1 a2) q1 q2 q3 _ q4

theorem laidOut : laidOutB Try.prog = true := by kernel_rfl

theorem own : ownKnob Try.prog.godebug = none := by kernel_rfl

set_option maxRecDepth 100000 in
theorem lifted (os : Os) (started : os.Started) (H : Type) (enc : TypeId × Value → H) :
    ReturnsInHanded {} Try.checked os 3 .any (Rows.bitsApartSpec.pre6 enc Try.prog Try.f3 Rows.bitsApartRow.domain false) (Rows.bitsApartSpec.post enc Try.prog Try.f3 false true false false) := by
  refine returnsInHanded_of_change_sized (C := Try.checked) own started (by kernel_rfl) Try.func3
    (ChangeSpec.witness6 (enc := enc) (C := Try.checked) false ⟨#[], #[.agg #[.int .i64 0, .int .i64 0], .string ByteArray.empty, .string ByteArray.empty], []⟩ 8 (by kernel_rfl) (by kernel_rfl) (by kernel_rfl) (by kernel_rfl)) ?_
  intro W base args ds gs before hval0 hW _ hsz0 _
  have hsz : (DataW.weightsEach Try.prog (Try.f3.params.toList ++ Rows.bitsApartSpec.plain.varTypes Try.prog) (ds ++ gs)).all (· ≤ reachBytes) = true := hsz0
  have hval : ∀ (j : Nat) t v, Try.f3.params[j]? = some t → args[j]? = some v → Value.okWide Try.prog W .any base t v := hval0
  have hW' := hW
  obtain ⟨p, q, hA0, hV, rfl, hfz, hnd⟩ := hW
  have hA : DataW.TrodAll enc Try.prog W 0 (fun _ => true) true Try.f3.params.toList args.toList ds p := hA0
  rw [Try.params3] at hA hval hsz
  obtain ⟨v0, vs0, d0, ds0, p0, q0, hargs, rfl, rfl, h0, r0⟩ := trodAll_cons hA
  obtain ⟨v1, vs1, d1, ds1, p1, q1, rfl, rfl, rfl, h1, r1⟩ := trodAll_cons r0
  obtain ⟨v2, vs2, d2, ds2, p2, q2, rfl, rfl, rfl, h2, r2⟩ := trodAll_cons r1
  obtain ⟨rfl, rfl, rfl⟩ := trodAll_nil r2
  obtain rfl : args = #[v0, v1, v2] := by cases args; simp_all
  obtain ⟨rfl, rfl⟩ := trodVars_none hV
  have k0 := h0
  have lt0 : ∀ x ∈ p0, x.block < W.heap.size := by obtain ⟨m, hm⟩ := k0; exact DataW.trod_lt m _ _ _ hm
  obtain ⟨a0, c0, rfl, b0⟩ := open_arr2 Try.underlying22 Try.underlying3 (by kernel_rfl) (by kernel_rfl) (hval 0 22 v0 rfl rfl) h0
  obtain ⟨a1, rfl, rfl, rfl, w1⟩ := open_string Try.underlying9 (hval 1 9 v1 rfl rfl) h1
  have b1 : a1.size ≤ 140737488351232 := by have := sized_string hsz (j := 1) (t := 9) rfl rfl; simpa [reachBytes] using this
  obtain ⟨a2, rfl, rfl, rfl, w2⟩ := open_string Try.underlying9 (hval 2 9 v2 rfl rfl) h2
  have b2 : a2.size ≤ 140737488351232 := by have := sized_string hsz (j := 2) (t := 9) rfl rfl; simpa [reachBytes] using this
  clear hA0 hval0 hsz0
  refine (walk a0 c0 a1 a2 W b0 b1 b2).mono fun e W' ⟨he, bel⟩ => ?_
  subst he
  exact ⟨_, rfl, _, _, _, [], _, [], hW', trodAll_mk1 (shut_bool Try.underlying4 _), (trodAll_cons_mk (Below.trod laidOut (by kernel_rfl) (of_decide_eq_true (by kernel_rfl)) k0 bel lt0) (trodAll_cons_mk (shut_string Try.underlying9 w1) (trodAll_cons_mk (shut_string Try.underlying9 w2) trodAll_mk0))), rfl, bel.frame _, fun h => by cases h⟩

theorem over : Rows.bitsApartRow.holds Try.pinned (OpenSpec.ofChange Rows.bitsApartSpec) :=
  OpenClaim.holds_of_wide 3 Try.f3 rfl rfl rfl rfl rfl rfl rfl ⟨rfl, rfl, rfl, rfl, rfl⟩ rfl rfl rfl rfl rfl (by kernel_rfl) Try.func3 (by kernel_rfl)
    (of_decide_eq_true (by kernel_rfl)) (by unfold Func.isWrapper; first | (rw [if_pos (by decide +kernel)]; kernel_rfl) | (rw [if_neg (by decide +kernel)]; exact ⟨rfl, rfl⟩))
    (fun os started H enc _ => lifted os started H enc)


end Go.Proofs.Ytncnfhpjdpkciab.bitsApart
namespace Go.Proofs.Ytncnfhpjdpkciab
/-- The statement. -/
theorem bitsApart_holds : Rows.BitsApartSaid := bitsApart.over
end Go.Proofs.Ytncnfhpjdpkciab
