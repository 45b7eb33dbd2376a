/-
  For every number: SessionFull answers true: a table takes 64 sessions and refuses every further one, and those that are there go on; the argument reads afterwards as before. No condition.
-/
import Derived.Test.YtnfjfhjhofaodaaSeTs
import Derived.Test.YtnfjfhjhofaodaaSeLaw
import Derived.Test.YtnfjfhjhofaodaaDkMask
import Derived.ProofKit
import Derived.OpenShut
import Derived.ShutString
import Derived.SizedLaws
namespace Go.Proofs.Ytnfjfhjhofaodaa.sessionFull
open Go.ChangeShapes Go.WideShapes Go.ChangeAt Go.RowKit
open Go.ChangeMaps (open_string shut_string)

set_option maxHeartbeats 1600000 in
set_option maxRecDepth 20000 in
theorem walk (a0 : Int) (w : World) (_b0 : -9223372036854775808 ≤ a0 ∧ a0 ≤ 9223372036854775807) :
    Calls Try.prog 4 #[.int .i64 a0] w fun e w' => e = .returned (.bool true) ∧ Below w.heap.size w w' := by
  have HNew : Hid _ := NewT_fresh w (Below.refl _ w)
  obtain ⟨B, hB⟩ : ∃ B, B = w.heap.size + 1 := ⟨_, rfl⟩
  obtain ⟨mb, hmb⟩ : ∃ mb, mb = w.heap.size := ⟨_, rfl⟩
  rw [← hB, ← hmb] at HNew
  have HA : Hid (∀ u : World, Calls Try.prog 12 #[] u fun e w' => e = .returned (.bool true) ∧ Below u.heap.size u w') := awake_c
  have HY : Hid (∀ (X : World) (k : Nat), Ts w X B mb (Se.fullS k) → k < 64 → Calls Try.prog 11 #[.pointer (some ⟨B, 0, none⟩), .agg #[.int .i64 (k : Int), .int .i64 1], .agg #[.int .i64 0, .int .i64 0, .slice none 0 0]] X fun e Y => e = .returned (.int .i64 0) ∧ Ts w Y B mb (Se.fullS (k + 1))) := fun X k h hk => by
    refine (h.put0 (k : Int) 1 0 0).mono ?_
    rintro e Y ⟨rfl, h1, _⟩
    rw [(Se.full_yes hk).2] at h1
    rw [(Se.full_yes hk).1]
    exact ⟨rfl, h1⟩
  have HN : Hid (∀ (X : World) (k : Nat), Ts w X B mb (Se.fullS 64) → 64 ≤ k → k < 100 → Calls Try.prog 11 #[.pointer (some ⟨B, 0, none⟩), .agg #[.int .i64 (k : Int), .int .i64 1], .agg #[.int .i64 0, .int .i64 0, .slice none 0 0]] X fun e Y => e = .returned (.int .i64 2) ∧ Ts w Y B mb (Se.fullS 64)) := fun X k h hk hk2 => by
    refine (h.put0 (k : Int) 1 0 0).mono ?_
    rintro e Y ⟨rfl, h1, _⟩
    rw [(Se.full_no hk hk2).2] at h1
    rw [(Se.full_no hk hk2).1]
    exact ⟨rfl, h1⟩
  have HO : Hid (∀ (X : World) (k : Nat), Ts w X B mb (Se.fullS k) → 0 < k → Calls Try.prog 11 #[.pointer (some ⟨B, 0, none⟩), .agg #[.int .i64 0, .int .i64 2], .agg #[.int .i64 0, .int .i64 9, .slice none 0 0]] X fun e Y => e = .returned (.int .i64 0) ∧ ∃ s, Ts w Y B mb s) := fun X k h hk => by
    refine (h.put0 0 2 0 9).mono ?_
    rintro e Y ⟨rfl, h1, _⟩
    rw [Se.full_on hk]
    exact ⟨rfl, _, h1⟩
  obtain ⟨m, hm⟩ : ∃ m : Nat, m = (a0 % 8).toNat := ⟨_, rfl⟩
  have hmask : bits .and .i64 a0 7 = (m : Int) := by rw [and_7, hm]; omega
  obtain ⟨t, ht⟩ : ∃ t : Nat, t = 60 + m := ⟨_, rfl⟩
  have hwr : IntKind.i64.wrap (60 + (m : Int)) = (t : Int) := by rw [ht]; rw [wraps_i64 _ (by omega) (by omega)]; omega
  have HT : Hid (t ≤ 67 ∧ 60 ≤ t) := by show _ ∧ _; omega
  clear hm ht _b0 hB hmb
  go_enter Try.func4, Try.ntmps4
  go_wp2_with fail
  refine Calls.mono HNew.out ?_
  rintro e w0 ⟨rfl, hM, _⟩
  have H0 : Hid (Ts w w0 B mb (Se.fullS 0)) := hM
  clear hM
  go_wp2
  go_loopw [4] (fun iv wr => ∃ k : Nat, iv = .int .i64 (k : Int) ∧ k ≤ t ∧ Hid (Ts w wr B mb (Se.fullS (min k 64)))) (fun iv _ => t - (intOf iv).toNat)
  case atStart => exact ⟨0, rfl, Nat.zero_le _, H0⟩
  case round =>
    obtain ⟨k, rfl, hkt, HS⟩ := hrel
    by_cases hlt : k < t
    · by_cases hk : k < 64
      · have hkd : decide ((k : Int) < 64) = true := by simp; omega
        have hkd' : decide ((64 : Int) ≤ (k : Int)) = false := by simp; omega
        have hkb : (k : Int) ≤ 100 := by omega
        have HK : Hid (k < 64) := hk
        have HS' : Hid (Ts w wr B mb (Se.fullS k)) := by have := HS.out; rw [Nat.min_eq_left (by omega)] at this; exact this
        clear hk
        go_wp2_with fail
        refine (HY.out _ k HS'.out HK.out).mono ?_
        rintro e w4 ⟨rfl, hM⟩
        have HS4 : Hid (Ts w w4 B mb (Se.fullS (min (k + 1) 64))) := by rw [Nat.min_eq_left (by have := HK.out; omega)]; exact hM
        clear hM
        go_wp2
        go_roundw
        case rel => exact ⟨k + 1, by go_num, by omega, HS4⟩
        case measure => simp [intOf]; omega
      · have hkd : decide ((k : Int) < 64) = false := by simp; omega
        have hkd' : decide ((64 : Int) ≤ (k : Int)) = true := by simp; omega
        have hkb : (k : Int) ≤ 100 := by have := HT.out; omega
        have HK : Hid (64 ≤ k ∧ k < 100) := by have := HT.out; show _ ∧ _; omega
        have HS' : Hid (Ts w wr B mb (Se.fullS 64)) := by have := HS.out; rw [Nat.min_eq_right (by omega)] at this; exact this
        clear hk
        go_wp2_with fail
        refine (HN.out _ k HS'.out HK.out.1 HK.out.2).mono ?_
        rintro e w4 ⟨rfl, hM⟩
        have HS4 : Hid (Ts w w4 B mb (Se.fullS (min (k + 1) 64))) := by rw [Nat.min_eq_right (by have := HK.out; omega)]; exact hM
        clear hM
        go_wp2
        go_roundw
        case rel => exact ⟨k + 1, by go_num, by omega, HS4⟩
        case measure => simp [intOf]; omega
    · have HK : Hid (0 < min k 64) := by have := HT.out; show _ < _; omega
      go_wp2_with fail
      refine (HO.out _ _ HS.out HK.out).mono ?_
      rintro e w3 ⟨rfl, s3, h3⟩
      have H3 : Hid (Ts w w3 B mb s3) := h3
      have HL : Hid _ := h3.lenC
      have hln : (s3.length : Int) ≤ 64 := by have := h3.tb.len; omega
      clear h3
      go_wp2_with fail
      refine Calls.mono HL.out ?_
      rintro e w5 ⟨rfl, hw⟩
      subst hw
      go_wp2_with fail
      refine (HA.out _).mono ?_
      rintro e w6 ⟨rfl, hb6⟩
      have HB6 : Hid _ := hb6
      clear hb6
      go_wp2
      go_ret
      exact ⟨rfl, H3.out.old.trans (HB6.out.mono H3.out.old.size)⟩

theorem own : ownKnob Try.prog.godebug = none := by kernel_rfl

set_option maxRecDepth 100000 in
theorem lifted (os : Os) (started : os.Started) (H : Type) (enc : TypeId × Value → H) :
    ReturnsInHanded {} Try.checked os 4 .any (Rows.sessionFullSpec.pre6 enc Try.prog Try.f4 Rows.sessionFullRow.domain false) (Rows.sessionFullSpec.post enc Try.prog Try.f4 false true false false) := by
  refine returnsInHanded_of_change_sized (C := Try.checked) own started (by kernel_rfl) Try.func4
    (ChangeSpec.witness6 (enc := enc) (C := Try.checked) false ⟨#[], #[.int .i64 0], []⟩ 8 (by kernel_rfl) (by kernel_rfl) (by kernel_rfl) (by kernel_rfl)) ?_
  intro W base args ds gs before hval0 hW _ hsz0 _
  have hsz : (DataW.weightsEach Try.prog (Try.f4.params.toList ++ Rows.sessionFullSpec.plain.varTypes Try.prog) (ds ++ gs)).all (· ≤ reachBytes) = true := hsz0
  have hval : ∀ (j : Nat) t v, Try.f4.params[j]? = some t → args[j]? = some v → Value.okWide Try.prog W .any base t v := hval0
  have hW' := hW
  obtain ⟨p, q, hA0, hV, rfl, hfz, hnd⟩ := hW
  have hA : DataW.TrodAll enc Try.prog W 0 (fun _ => true) true Try.f4.params.toList args.toList ds p := hA0
  rw [Try.params4] at hA hval hsz
  obtain ⟨v0, vs0, d0, ds0, p0, q0, hargs, rfl, rfl, h0, r0⟩ := trodAll_cons hA
  obtain ⟨rfl, rfl, rfl⟩ := trodAll_nil r0
  obtain rfl : args = #[v0] := by cases args; simp_all
  obtain ⟨rfl, rfl⟩ := trodVars_none hV
  obtain ⟨a0, rfl, rfl, rfl, w0⟩ := open_int Try.underlying3 (hval 0 3 v0 rfl rfl) h0
  have b0 : -9223372036854775808 ≤ a0 ∧ a0 ≤ 9223372036854775807 := by simpa [Lit.wf, IntKind.min, IntKind.max, IntKind.signed, IntKind.bits] using w0
  clear hA0 hval0 hsz0
  refine (walk a0 W b0).mono fun e W' ⟨he, bel⟩ => ?_
  subst he
  exact ⟨_, rfl, _, _, _, [], _, [], hW', trodAll_mk1 (shut_bool Try.underlying4 _), (trodAll_cons_mk (shut_int Try.underlying3 w0) trodAll_mk0), rfl, bel.frame _, fun h => by cases h⟩

theorem over : Rows.sessionFullRow.holds Try.pinned (OpenSpec.ofChange Rows.sessionFullSpec) :=
  OpenClaim.holds_of_wide 4 Try.f4 rfl rfl rfl rfl rfl rfl rfl ⟨rfl, rfl, rfl, rfl, rfl⟩ rfl rfl rfl rfl rfl (by kernel_rfl) Try.func4 (by kernel_rfl)
    (of_decide_eq_true (by kernel_rfl)) (by unfold Func.isWrapper; first | (rw [if_pos (by decide +kernel)]; kernel_rfl) | (rw [if_neg (by decide +kernel)]; exact ⟨rfl, rfl⟩))
    (fun os started H enc _ => lifted os started H enc)


end Go.Proofs.Ytnfjfhjhofaodaa.sessionFull
namespace Go.Proofs.Ytnfjfhjhofaodaa
/-- The statement. -/
theorem sessionFull_holds : Rows.SessionFullSaid := sessionFull.over
end Go.Proofs.Ytnfjfhjhofaodaa
