/-
  For every two numbers m, n: BitsOrder answers true: four bytes of two numbers stand as the numbers do, the last byte first, and a number's bytes are as few as can be; the arguments read afterwards as before. No condition.
-/
import Derived.Test.YtncnfhpjdpkciabAwake
import Derived.Test.YtncnfhpjdpkciabFixed
import Derived.ProofKit
import Derived.OpenShut
import Derived.ShutString
import Derived.SizedLaws
import Derived.Deep.QuietTactic
import Derived.BigQuiet
namespace Go.Proofs.Ytncnfhpjdpkciab.bitsOrder
open Go.ChangeShapes Go.WideShapes Go.ChangeAt Go.RowKit
open Go.ChangeMaps (open_string shut_string)

theorem and32 (n : Int) : bits BinOp.and IntKind.i64 n 4294967295 = n % 4294967296 := by
  unfold bits
  simp only [BitVec.toNat_and]
  have e : (BitVec.ofInt IntKind.i64.bits 4294967295).toNat = 2 ^ 32 - 1 := by decide
  have e2 : (2 ^ IntKind.i64.bits : Nat) = 18446744073709551616 := by decide
  have e3 : (2 ^ 32 : Nat) = 4294967296 := by decide
  rw [e, Nat.and_two_pow_sub_one_eq_mod, BitVec.toNat_ofInt, e2, e3, IntWalk.i64_in _ (by omega)]
  omega

/-- The digits, one more: the last that parts decides. -/
theorem less_step (a b k : Nat) :
    decide (a % 256 ^ (k + 1) < b % 256 ^ (k + 1)) = if a / 256 ^ k % 256 = b / 256 ^ k % 256 then decide (a % 256 ^ k < b % 256 ^ k) else decide (a / 256 ^ k % 256 < b / 256 ^ k % 256) := by
  have h : ∀ x : Nat, x % 256 ^ (k + 1) = x % 256 ^ k + 256 ^ k * (x / 256 ^ k % 256) := fun x => by rw [Nat.pow_succ]; exact Nat.mod_mul
  have hp : 0 < 256 ^ k := Nat.pow_pos (by omega)
  have ha : a % 256 ^ k < 256 ^ k := Nat.mod_lt _ hp
  have hb : b % 256 ^ k < 256 ^ k := Nat.mod_lt _ hp
  rw [h a, h b]
  generalize a % 256 ^ k = x at *
  generalize b % 256 ^ k = y at *
  generalize a / 256 ^ k % 256 = p at *
  generalize b / 256 ^ k % 256 = q at *
  generalize 256 ^ k = z at *
  by_cases hpq : p = q
  · subst hpq
    rw [if_pos rfl, Bool.eq_iff_iff]
    simp
  · rw [if_neg hpq, Bool.eq_iff_iff]
    simp only [decide_eq_true_eq]
    constructor
    · intro h1
      apply Classical.byContradiction
      intro h2
      have h3 : q + 1 ≤ p := by omega
      have h4 := Nat.mul_le_mul_left z h3
      rw [Nat.mul_add] at h4
      omega
    · intro h1
      have h3 : p + 1 ≤ q := h1
      have h4 := Nat.mul_le_mul_left z h3
      rw [Nat.mul_add] at h4
      omega

theorem run_byte (n : Nat) (k : Nat) (hk : k < 4) (W : World) :
    (Instr.index 9 (.string ⟨(M.putFix 4 n).toArray⟩) (.int .i64 (k : Int))).run Try.prog W = .ok (.int .u8 ((n / 256 ^ k % 256 : Nat) : Int)) W := by
  have hsz : (⟨(M.putFix 4 n).toArray⟩ : ByteArray).size = 4 := by rw [size_of_list]; exact M.putFix_length 4 n
  have h := run_index_string (P := Try.prog) W 9 ⟨(M.putFix 4 n).toArray⟩ .i64 (k : Int) Try.underlying9
  rw [h, dif_pos (by rw [hsz]; omega)]
  have hg := M.putFix_get 4 n k hk
  have hl : k < (M.putFix 4 n).length := by rw [M.putFix_length]; exact hk
  rw [List.getElem?_eq_getElem hl] at hg
  have e : (⟨(M.putFix 4 n).toArray⟩ : ByteArray)[k]'(by rw [hsz]; exact hk) = (n / 256 ^ k % 256).toUInt8 := by
    have := Option.some.inj hg
    exact this
  have e2 : ((k : Int)).toNat = k := rfl
  simp only [e2]
  rw [e, byte_toNat (by omega)]

theorem putVar_bounds : ∀ (k n : Nat), n < 128 ^ (k + 1) → n < 128 ^ (M.putVar n).length ∧ ((M.putVar n).length = 1 ∨ 128 ^ ((M.putVar n).length - 1) ≤ n)
  | 0, n, h => by
    rw [M.putVar_lt (by simpa using h)]
    exact ⟨by simpa using h, Or.inl rfl⟩
  | k + 1, n, h => by
    by_cases hn : n < 128
    · rw [M.putVar_lt hn]
      exact ⟨by simpa using hn, Or.inl rfl⟩
    · have ih := putVar_bounds k (n / 128) (by rw [Nat.div_lt_iff_lt_mul (by omega)]; rw [Nat.pow_succ 128 (k + 1)] at h; exact h)
      rw [M.putVar_ge hn, List.length_cons]
      have hl : 1 ≤ (M.putVar (n / 128)).length := by
        have := M.putVar_ne (n / 128)
        exact List.length_pos_iff.2 this
      obtain ⟨L, hL⟩ : ∃ L, (M.putVar (n / 128)).length = L + 1 := ⟨(M.putVar (n / 128)).length - 1, by omega⟩
      rw [hL] at ih ⊢
      have e1 : 128 ^ (L + 1 + 1) = 128 ^ (L + 1) * 128 := Nat.pow_succ 128 (L + 1)
      have e2 : 128 ^ (L + 1) = 128 ^ L * 128 := Nat.pow_succ 128 L
      refine ⟨by omega, Or.inr ?_⟩
      rw [Nat.add_sub_cancel]
      rcases ih.2 with h1 | h1
      · have : L = 0 := by omega
        subst this
        simp
        omega
      · rw [Nat.add_sub_cancel] at h1
        omega

set_option maxHeartbeats 1000000 in
set_option maxRecDepth 20000 in
theorem walk0 (a0 a1 : Int) (a b : Nat) (w : World) (ha : a < 4294967296) (hb : b < 4294967296) (e0 : bits BinOp.and IntKind.i64 a0 4294967295 = (a : Int)) (e1 : bits BinOp.and IntKind.i64 a1 4294967295 = (b : Int)) :
    Calls Try.prog 4 #[.int .i64 a0, .int .i64 a1] w fun e w' => e = .returned (.bool true) ∧ Below w.heap.size w w' := by
  have z4 : (256 : Nat) ^ 4 = 4294967296 := by decide
  have zz : ∀ n : Nat, n < 4294967296 → ((n : Int) / 2 ^ (8 * 4) != 0) = false := by
    intro n hn
    have e : (n : Int) / 2 ^ (8 * 4) = ((n / 4294967296 : Nat) : Int) := by rw [show (2 : Int) ^ (8 * 4) = 4294967296 from by decide]; simp
    rw [e, Nat.div_eq_of_lt hn]; rfl
  have Ha : Hid (((a : Int) / 2 ^ (8 * 4) != 0) = false) := zz a ha
  have Hb : Hid (((b : Int) / 2 ^ (8 * 4) != 0) = false) := zz b hb
  have la : (M.putFix 4 a).length = 4 := M.putFix_length 4 a
  have lb : (M.putFix 4 b).length = 4 := M.putFix_length 4 b
  have HA : Hid (a < 4294967296) := ha
  have HB : Hid (b < 4294967296) := hb
  clear zz z4 ha hb
  go_enter Try.func4, Try.ntmps4
  go_wp2_with fail
  refine (bits_PutFixed_yes a 4 _ (by omega) (by omega) Ha.out).mono ?_
  rintro e w1 ⟨rfl, hb1⟩
  go_wp2_with fail
  refine (bits_PutFixed_yes b 4 _ (by omega) (by omega) Hb.out).mono ?_
  rintro e w2 ⟨rfl, hb2⟩
  go_wp2_with fail
  have hb12 : Below w.heap.size w w2 := hb1.trans (hb2.mono hb1.size)
  clear hb1 hb2
  go_loopw [11, 12] (fun v i wr => ∃ (k : Nat) (l : Bool), k ≤ 4 ∧ i = .int .i64 (k : Int) ∧ v = .bool l ∧ Hid (l = decide (a % 256 ^ k < b % 256 ^ k)) ∧ Below w.heap.size w wr) (fun _ i _ => 4 - (intOf i).toNat)
  case atStart => exact ⟨0, false, by omega, rfl, rfl, by unfold Hid; simp [Nat.mod_one], hb12⟩
  case round =>
    obtain ⟨k, l, hk, rfl, rfl, hl, hb⟩ := hrel
    clear hb12
    by_cases hk4 : k < 4
    · have hxa := run_byte a k hk4
      have hxb := run_byte b k hk4
      have hst := less_step a b k
      have hpa : a / 256 ^ k % 256 < 256 := Nat.mod_lt _ (by omega)
      have hpb : b / 256 ^ k % 256 < 256 := Nat.mod_lt _ (by omega)
      rw [← hl.out] at hst
      generalize a / 256 ^ k % 256 = p at hxa hst hpa
      generalize b / 256 ^ k % 256 = q at hxb hst hpb
      have hki : (k : Int) < 4 := by omega
      by_cases hpq : p = q
      · have hne : (((p : Nat) : Int) != ((q : Nat) : Int)) = false := by simp [hpq]
        rw [if_pos hpq] at hst
        have HS : Hid (l = decide (a % 256 ^ (k + 1) < b % 256 ^ (k + 1))) := hst.symm
        clear hst hpq
        go_wp2_with fail
        go_quiet (fail)
        go_wp2
        go_roundw
        case rel => exact ⟨k + 1, l, by omega, by go_num, rfl, HS, below_drewN hb _⟩
        case measure => simp [intOf]; omega
      · have hne : (((p : Nat) : Int) != ((q : Nat) : Int)) = true := by simp; omega
        rw [if_neg hpq] at hst
        have HS : Hid (decide (p < q) = decide (a % 256 ^ (k + 1) < b % 256 ^ (k + 1))) := hst.symm
        clear hst hpq
        go_wp2_with fail
        go_quiet (fail)
        go_wp2_with fail
        go_quiet (fail)
        go_wp2
        go_roundw
        case rel => exact ⟨k + 1, _, by omega, by go_num, rfl, HS, below_drewN hb _⟩
        case measure => simp [intOf]; omega
    · obtain rfl : k = 4 := by omega
      have z4 : (256 : Nat) ^ 4 = 4294967296 := by decide
      have hl' := hl.out
      rw [z4, Nat.mod_eq_of_lt HA.out, Nat.mod_eq_of_lt HB.out] at hl'
      obtain rfl := hl'
      have hlt : a < 9223372036854775808 := by have := HA.out; omega
      have hpb := putVar_bounds 8 a (by have e : (128 : Nat) ^ (8 + 1) = 9223372036854775808 := by decide
                                        rw [e]; exact hlt)
      have hle := M.putVar_length9 hlt
      have hne := List.length_pos_iff.2 (M.putVar_ne a)
      have HT : Hid (a < 9223372036854775808) := hlt
      obtain ⟨hp1, hp2⟩ := hpb
      have HP1 : Hid (((a : Int) / 2 ^ (7 * (M.putVar a).length) == 0) = true) := by
        unfold Hid
        have e : (a : Int) / 2 ^ (7 * (M.putVar a).length) = ((a / 128 ^ (M.putVar a).length : Nat) : Int) := by rw [Int.pow_mul]; simp
        rw [e, Nat.div_eq_of_lt hp1]; rfl
      have HP2 : Hid ((M.putVar a).length = 1 ∨ decide ((0 : Int) < (a : Int) / 2 ^ (7 * ((M.putVar a).length - 1))) = true) := by
        unfold Hid
        rcases hp2 with h1 | h1
        · exact Or.inl h1
        · right
          have e : (a : Int) / 2 ^ (7 * ((M.putVar a).length - 1)) = ((a / 128 ^ ((M.putVar a).length - 1) : Nat) : Int) := by rw [Int.pow_mul]; simp
          have hpos : 0 < a / 128 ^ ((M.putVar a).length - 1) := Nat.div_pos h1 (Nat.pow_pos (by omega))
          rw [e]
          exact decide_eq_true (by omega)
      clear hp1 hp2 z4 hl hlt
      generalize hL : (M.putVar a).length = L at *
      have HL : Hid ((M.putVar a).length = L) := hL
      go_wp2_with fail
      refine (bits_PutVar_yes a _ HT.out).mono ?_
      rintro e w3 ⟨rfl, hb3⟩
      by_cases h1 : L = 1
      · subst h1
        have hP1 : ((a : Int) / 128 == 0) = true := HP1.out
        go_wp2_with fail
        refine (awake _).mono ?_
        rintro e w4 ⟨rfl, hb4⟩
        go_wp2
        go_ret
        exact ⟨rfl, hb.trans ((hb3.trans (hb4.mono hb3.size)).mono hb.size)⟩
      · have hP1 := HP1.out
        have hP2 := HP2.out.resolve_left h1
        have hL1 : ((L : Int) == 1) = false := by simp; omega
        go_wp2_with fail
        refine (awake _).mono ?_
        rintro e w4 ⟨rfl, hb4⟩
        go_wp2
        go_ret
        exact ⟨rfl, hb.trans ((hb3.trans (hb4.mono hb3.size)).mono hb.size)⟩

theorem walk (a0 a1 : Int) (w : World) (_b0 : -9223372036854775808 ≤ a0 ∧ a0 ≤ 9223372036854775807) (_b1 : -9223372036854775808 ≤ a1 ∧ a1 ≤ 9223372036854775807) :
    Calls Try.prog 4 #[.int .i64 a0, .int .i64 a1] w fun e w' => e = .returned (.bool true) ∧ Below w.heap.size w w' := by
  obtain ⟨a, ha⟩ := Int.eq_ofNat_of_zero_le (show 0 ≤ a0 % 4294967296 by omega)
  obtain ⟨b, hb⟩ := Int.eq_ofNat_of_zero_le (show 0 ≤ a1 % 4294967296 by omega)
  have e0 := and32 a0
  have e1 := and32 a1
  rw [ha] at e0
  rw [hb] at e1
  exact walk0 a0 a1 a b w (by omega) (by omega) e0 e1

theorem own : ownKnob Try.prog.godebug = none := by kernel_rfl

set_option maxRecDepth 100000 in
theorem lifted (os : Os) (started : os.Started) (H : Type) (enc : TypeId × Value → H) :
    ReturnsInHanded {} Try.checked os 4 .any (Rows.bitsOrderSpec.pre6 enc Try.prog Try.f4 Rows.bitsOrderRow.domain false) (Rows.bitsOrderSpec.post enc Try.prog Try.f4 false true false false) := by
  refine returnsInHanded_of_change_sized (C := Try.checked) own started (by kernel_rfl) Try.func4
    (ChangeSpec.witness6 (enc := enc) (C := Try.checked) false ⟨#[], #[.int .i64 0, .int .i64 0], []⟩ 8 (by kernel_rfl) (by kernel_rfl) (by kernel_rfl) (by kernel_rfl)) ?_
  intro W base args ds gs before hval0 hW _ hsz0 _
  have hsz : (DataW.weightsEach Try.prog (Try.f4.params.toList ++ Rows.bitsOrderSpec.plain.varTypes Try.prog) (ds ++ gs)).all (· ≤ reachBytes) = true := hsz0
  have hval : ∀ (j : Nat) t v, Try.f4.params[j]? = some t → args[j]? = some v → Value.okWide Try.prog W .any base t v := hval0
  have hW' := hW
  obtain ⟨p, q, hA0, hV, rfl, hfz, hnd⟩ := hW
  have hA : DataW.TrodAll enc Try.prog W 0 (fun _ => true) true Try.f4.params.toList args.toList ds p := hA0
  rw [Try.params4] at hA hval hsz
  obtain ⟨v0, vs0, d0, ds0, p0, q0, hargs, rfl, rfl, h0, r0⟩ := trodAll_cons hA
  obtain ⟨v1, vs1, d1, ds1, p1, q1, rfl, rfl, rfl, h1, r1⟩ := trodAll_cons r0
  obtain ⟨rfl, rfl, rfl⟩ := trodAll_nil r1
  obtain rfl : args = #[v0, v1] := by cases args; simp_all
  obtain ⟨rfl, rfl⟩ := trodVars_none hV
  obtain ⟨a0, rfl, rfl, rfl, w0⟩ := open_int Try.underlying3 (hval 0 3 v0 rfl rfl) h0
  have b0 : -9223372036854775808 ≤ a0 ∧ a0 ≤ 9223372036854775807 := by simpa [Lit.wf, IntKind.min, IntKind.max, IntKind.signed, IntKind.bits] using w0
  obtain ⟨a1, rfl, rfl, rfl, w1⟩ := open_int Try.underlying3 (hval 1 3 v1 rfl rfl) h1
  have b1 : -9223372036854775808 ≤ a1 ∧ a1 ≤ 9223372036854775807 := by simpa [Lit.wf, IntKind.min, IntKind.max, IntKind.signed, IntKind.bits] using w1
  clear hA0 hval0 hsz0
  refine (walk a0 a1 W b0 b1).mono fun e W' ⟨he, bel⟩ => ?_
  subst he
  exact ⟨_, rfl, _, _, _, [], _, [], hW', trodAll_mk1 (shut_bool Try.underlying4 _), (trodAll_cons_mk (shut_int Try.underlying3 w0) (trodAll_cons_mk (shut_int Try.underlying3 w1) trodAll_mk0)), rfl, bel.frame _, fun h => by cases h⟩

theorem over : Rows.bitsOrderRow.holds Try.pinned (OpenSpec.ofChange Rows.bitsOrderSpec) :=
  OpenClaim.holds_of_wide 4 Try.f4 rfl rfl rfl rfl rfl rfl rfl ⟨rfl, rfl, rfl, rfl, rfl⟩ rfl rfl rfl rfl rfl (by kernel_rfl) Try.func4 (by kernel_rfl)
    (of_decide_eq_true (by kernel_rfl)) (by unfold Func.isWrapper; first | (rw [if_pos (by decide +kernel)]; kernel_rfl) | (rw [if_neg (by decide +kernel)]; exact ⟨rfl, rfl⟩))
    (fun os started H enc _ => lifted os started H enc)


end Go.Proofs.Ytncnfhpjdpkciab.bitsOrder
namespace Go.Proofs.Ytncnfhpjdpkciab
/-- The statement. -/
theorem bitsOrder_holds : Rows.BitsOrderSaid := bitsOrder.over
end Go.Proofs.Ytncnfhpjdpkciab
