/-
  For every two numbers n, bytes and every text tail: BitsFixes answers true: PutFixed answers as the document, and Fixed reads the number back; the arguments read afterwards as before. No condition.
-/
import Derived.Test.YtncnfhpjdpkciaaAwake
import Derived.Test.YtncnfhpjdpkciaaRdFixed
import Derived.ProofKit
import Derived.OpenShut
import Derived.ShutString
import Derived.SizedLaws
namespace Go.Proofs.Ytncnfhpjdpkciaa.bitsFixes
open Go.ChangeShapes Go.WideShapes Go.ChangeAt Go.RowKit
open Go.ChangeMaps (open_string shut_string)

theorem below3 {a b c d : World} (h1 : Below a.heap.size a b) (h2 : Below b.heap.size b c) (h3 : Below c.heap.size c d) : Below a.heap.size a d :=
  h1.trans ((h2.trans (h3.mono h2.size)).mono h1.size)

theorem both_no (n m : Int) (w : World) (hn : n ≤ 9223372036854775807) (h : m < 1 ∨ 8 < m ∨ n < 0 ∨ (256 ^ m.toNat : Nat) ≤ n.toNat) :
    (Calls Try.prog 16 #[.int .i64 n, .int .i64 m] w fun e w' => e = .returned (.tuple #[.string ⟨#[]⟩, .int .i64 1]) ∧ w' = w) ∧
    (Calls Try.prog 17 #[.int .i64 n, .int .i64 m] w fun e w' => e = .returned (.tuple #[.string ⟨#[]⟩, .int .i64 1]) ∧ w' = w) := by
  by_cases h1 : m < 1
  · exact ⟨bits_PutFixed_a n m w h1, ref_PutFixed_a n m w h1⟩
  · by_cases h8 : 8 < m
    · exact ⟨bits_PutFixed_b n m w h8, ref_PutFixed_b n m w h8⟩
    · by_cases h0 : n < 0
      · exact ⟨bits_PutFixed_c n m w (by omega) (by omega) h0, ref_PutFixed_c n m w (by omega) (by omega) h0⟩
      · obtain ⟨m, rfl⟩ := Int.eq_ofNat_of_zero_le (show 0 ≤ m by omega)
        obtain ⟨n, rfl⟩ := Int.eq_ofNat_of_zero_le (show 0 ≤ n by omega)
        have hle : 256 ^ m ≤ n := by
          rcases h with h | h | h | h
          · omega
          · omega
          · omega
          · simpa using h
        have hm8 : m < 8 := by
          apply Classical.byContradiction
          intro hc
          have e : m = 8 := by omega
          rw [e] at hle
          have e2 : (256 : Nat) ^ 8 = 18446744073709551616 := by decide
          omega
        have hp : 1 ≤ n / 256 ^ m := Nat.div_pos hle (Nat.pow_pos (by omega))
        have hd : (n : Int) / 2 ^ (8 * m) = ((n / 256 ^ m : Nat) : Int) := by rw [Int.pow_mul]; simp
        generalize n / 256 ^ m = q at hp hd
        exact ⟨bits_PutFixed_d n m w (by omega) (by omega) (by rw [hd]; simp; omega), ref_PutFixed_d n m w (by omega) hm8 (by rw [hd]; omega)⟩

theorem rd (n m : Nat) (t : ByteArray) (h1 : 1 ≤ m) (h8 : m ≤ 8) (h : n < 256 ^ m) (hn : n < 9223372036854775808) : M.rdFix ((⟨(M.putFix m n).toArray⟩ : ByteArray) ++ t).data.toList (m : Int) = (n, 0) := by
  have e : ((⟨(M.putFix m n).toArray⟩ : ByteArray) ++ t).data.toList = M.putFix m n ++ t.data.toList := by simp
  rw [e]
  exact M.rdFix_put m n t.data.toList h1 h8 h hn

set_option maxHeartbeats 400000 in
theorem walk (a0 a1 : Int) (a2 : ByteArray) (w : World) (b0 : -9223372036854775808 ≤ a0 ∧ a0 ≤ 9223372036854775807) (_b1 : -9223372036854775808 ≤ a1 ∧ a1 ≤ 9223372036854775807) (b2 : a2.size ≤ 140737488351232) :
    Calls Try.prog 5 #[.int .i64 a0, .int .i64 a1, .string a2] w fun e w' => e = .returned (.bool true) ∧ Below w.heap.size w w' := by
  by_cases h : a1 < 1 ∨ 8 < a1 ∨ a0 < 0 ∨ (256 ^ a1.toNat : Nat) ≤ a0.toNat
  · have HB : Hid (∀ w, _) := fun w => both_no a0 a1 w b0.2 h
    clear h
    go_enter Try.func5, Try.ntmps5
    go_wp2_with fail
    refine (HB.out _).1.mono ?_
    rintro e w1 ⟨rfl, hw1⟩
    go_wp2_with fail
    refine (HB.out _).2.mono ?_
    rintro e w2 ⟨rfl, hw2⟩
    go_wp2_with fail
    refine (awake _).mono ?_
    rintro e w3 ⟨rfl, hb3⟩
    go_wp2
    go_ret
    exact ⟨rfl, hb3⟩
  · obtain ⟨n, rfl⟩ := Int.eq_ofNat_of_zero_le (show 0 ≤ a0 by omega)
    obtain ⟨m, rfl⟩ := Int.eq_ofNat_of_zero_le (show 0 ≤ a1 by omega)
    have hm1 : 1 ≤ m := by omega
    have hm8 : m ≤ 8 := by omega
    have hn : n < 9223372036854775808 := by omega
    have hlt : n < 256 ^ m := by
      rw [Int.toNat_natCast, Int.toNat_natCast] at h
      omega
    have hd : (n : Int) / 2 ^ (8 * m) = 0 := by
      have e : (n : Int) / 2 ^ (8 * m) = ((n / 256 ^ m : Nat) : Int) := by rw [Int.pow_mul]; simp
      rw [e, Nat.div_eq_of_lt hlt]; rfl
    have H1 : Hid (((n : Int) / 2 ^ (8 * m) != 0) = false) := by unfold Hid; rw [hd]; rfl
    have H2 : Hid ((n : Int) / 2 ^ (8 * m) ≤ 0) := by unfold Hid; rw [hd]; omega
    have HN : Hid (n < 9223372036854775808) := hn
    have hlen := M.putFix_length m n
    have HR : Hid (M.rdFix ((⟨(M.putFix m n).toArray⟩ : ByteArray) ++ a2).data.toList (m : Int) = (n, 0)) := rd n m a2 hm1 hm8 hlt hn
    have hsz : (M.putFix m n).length ≤ 8 := by omega
    clear h hd hlt hlen
    go_enter Try.func5, Try.ntmps5
    go_wp2_with fail
    refine (bits_PutFixed_yes n m _ hm1 hm8 H1.out).mono ?_
    rintro e w1 ⟨rfl, hb1⟩
    go_wp2_with fail
    refine (ref_PutFixed_yes n m _ HN hm1 hm8 (Int.not_lt.2 H2.out)).mono ?_
    rintro e w2 ⟨rfl, hb2⟩
    go_wp2_with fail
    refine (bits_Fixed _ (m : Int) _).mono ?_
    rw [HR.out]
    rintro e w3 ⟨rfl, hw3⟩
    go_wp2_with fail
    refine (awake _).mono ?_
    rintro e w4 ⟨rfl, hb4⟩
    go_wp2
    go_ret
    exact ⟨rfl, below3 hb1 hb2 hb4⟩

theorem own : ownKnob Try.prog.godebug = none := by kernel_rfl

set_option maxRecDepth 100000 in
theorem lifted (os : Os) (started : os.Started) (H : Type) (enc : TypeId × Value → H) :
    ReturnsInHanded {} Try.checked os 5 .any (Rows.bitsFixesSpec.pre6 enc Try.prog Try.f5 Rows.bitsFixesRow.domain false) (Rows.bitsFixesSpec.post enc Try.prog Try.f5 false true false false) := by
  refine returnsInHanded_of_change_sized (C := Try.checked) own started (by kernel_rfl) Try.func5
    (ChangeSpec.witness6 (enc := enc) (C := Try.checked) false ⟨#[], #[.int .i64 0, .int .i64 0, .string ByteArray.empty], []⟩ 8 (by kernel_rfl) (by kernel_rfl) (by kernel_rfl) (by kernel_rfl)) ?_
  intro W base args ds gs before hval0 hW _ hsz0 _
  have hsz : (DataW.weightsEach Try.prog (Try.f5.params.toList ++ Rows.bitsFixesSpec.plain.varTypes Try.prog) (ds ++ gs)).all (· ≤ reachBytes) = true := hsz0
  have hval : ∀ (j : Nat) t v, Try.f5.params[j]? = some t → args[j]? = some v → Value.okWide Try.prog W .any base t v := hval0
  have hW' := hW
  obtain ⟨p, q, hA0, hV, rfl, hfz, hnd⟩ := hW
  have hA : DataW.TrodAll enc Try.prog W 0 (fun _ => true) true Try.f5.params.toList args.toList ds p := hA0
  rw [Try.params5] at hA hval hsz
  obtain ⟨v0, vs0, d0, ds0, p0, q0, hargs, rfl, rfl, h0, r0⟩ := trodAll_cons hA
  obtain ⟨v1, vs1, d1, ds1, p1, q1, rfl, rfl, rfl, h1, r1⟩ := trodAll_cons r0
  obtain ⟨v2, vs2, d2, ds2, p2, q2, rfl, rfl, rfl, h2, r2⟩ := trodAll_cons r1
  obtain ⟨rfl, rfl, rfl⟩ := trodAll_nil r2
  obtain rfl : args = #[v0, v1, v2] := by cases args; simp_all
  obtain ⟨rfl, rfl⟩ := trodVars_none hV
  obtain ⟨a0, rfl, rfl, rfl, w0⟩ := open_int Try.underlying3 (hval 0 3 v0 rfl rfl) h0
  have b0 : -9223372036854775808 ≤ a0 ∧ a0 ≤ 9223372036854775807 := by simpa [Lit.wf, IntKind.min, IntKind.max, IntKind.signed, IntKind.bits] using w0
  obtain ⟨a1, rfl, rfl, rfl, w1⟩ := open_int Try.underlying3 (hval 1 3 v1 rfl rfl) h1
  have b1 : -9223372036854775808 ≤ a1 ∧ a1 ≤ 9223372036854775807 := by simpa [Lit.wf, IntKind.min, IntKind.max, IntKind.signed, IntKind.bits] using w1
  obtain ⟨a2, rfl, rfl, rfl, w2⟩ := open_string Try.underlying9 (hval 2 9 v2 rfl rfl) h2
  have b2 : a2.size ≤ 140737488351232 := by have := sized_string hsz (j := 2) (t := 9) rfl rfl; simpa [reachBytes] using this
  clear hA0 hval0 hsz0
  refine (walk a0 a1 a2 W b0 b1 b2).mono fun e W' ⟨he, bel⟩ => ?_
  subst he
  exact ⟨_, rfl, _, _, _, [], _, [], hW', trodAll_mk1 (shut_bool Try.underlying4 _), (trodAll_cons_mk (shut_int Try.underlying3 w0) (trodAll_cons_mk (shut_int Try.underlying3 w1) (trodAll_cons_mk (shut_string Try.underlying9 w2) trodAll_mk0))), rfl, bel.frame _, fun h => by cases h⟩

theorem over : Rows.bitsFixesRow.holds Try.pinned (OpenSpec.ofChange Rows.bitsFixesSpec) :=
  OpenClaim.holds_of_wide 5 Try.f5 rfl rfl rfl rfl rfl rfl rfl ⟨rfl, rfl, rfl, rfl, rfl⟩ rfl rfl rfl rfl rfl (by kernel_rfl) Try.func5 (by kernel_rfl)
    (of_decide_eq_true (by kernel_rfl)) (by unfold Func.isWrapper; first | (rw [if_pos (by decide +kernel)]; kernel_rfl) | (rw [if_neg (by decide +kernel)]; exact ⟨rfl, rfl⟩))
    (fun os started H enc _ => lifted os started H enc)


end Go.Proofs.Ytncnfhpjdpkciaa.bitsFixes
namespace Go.Proofs.Ytncnfhpjdpkciaa
/-- The statement. -/
theorem bitsFixes_holds : Rows.BitsFixesSaid := bitsFixes.over
end Go.Proofs.Ytncnfhpjdpkciaa
