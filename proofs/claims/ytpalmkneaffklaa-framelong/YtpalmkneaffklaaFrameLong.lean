/-
  For every number: FrameLong answers true: a payload of up to 2^18 bytes has a record of nine bytes more, a longer one has none; the argument reads afterwards as before. No condition.
-/
import Derived.Test.YtpalmkneaffklaaFrAwake
import Derived.ProofKit
import Derived.OpenShut
import Derived.ShutString
import Derived.SizedLaws
namespace Go.Proofs.Ytpalmkneaffklaa.frameLong
open Go.ChangeShapes Go.WideShapes Go.ChangeAt Go.RowKit
open Go.ChangeMaps (open_string shut_string)

theorem and_15 (x : Int) : bits .and .i64 x 15 = x % 16 := by
  have h1 : (BitVec.ofInt 64 (15 : Int)).toNat = 2 ^ 4 - 1 := by decide
  have h2 : (BitVec.ofInt 64 x).toNat = (x % 18446744073709551616).toNat := by rw [BitVec.toNat_ofInt]; rfl
  show IntKind.i64.wrap ((BitVec.ofInt 64 x &&& BitVec.ofInt 64 15).toNat : Int) = _
  rw [BitVec.toNat_and, h1, h2, Nat.and_two_pow_sub_one_eq_mod, wraps_i64 _ (by omega) (by rw [pow63]; omega)]
  omega

/-- So many noughts. -/
def noughts (n : Nat) : ByteArray := ⟨(List.replicate n (0 : UInt8)).toArray⟩
theorem noughts_size (n : Nat) : (noughts n).size = n := by rw [← F.toL_length]; simp [noughts]
theorem made (n : Nat) : (madeCells (Value.int .u8 0).cells (n * 1)).toList = Lib.byteCells (List.replicate n (0 : UInt8)) := by
  have e : (Value.int .u8 0).cells = #[Value.int .u8 0] := rfl
  rw [e, toList_madeCells_one]
  simp [Lib.byteCells]
theorem own_made {w : World} {b n : Nat} (h : w.ownsRow b 5 1 (.slice (some ⟨b, 0, none⟩) n n) n (madeCells (Value.int .u8 0).cells (n * 1)).toList) (hn : n ≠ 0) :
    (convert 36 9 (.slice (some ⟨b, 0, none⟩) n n)).run Try.prog w = .ok (.string (noughts n)) w := by
  rw [made] at h
  have h' : OwnB w b 5 (.slice (some ⟨b, 0, none⟩) n n) (List.replicate n (0 : UInt8)) := by unfold OwnB; rw [List.length_replicate]; exact h
  exact h'.conv (P := Try.prog) (by intro e; have := congrArg List.length e; simp at this; exact hn this) 36 9 Try.underlying36 Try.underlying5 Try.underlying9

set_option maxHeartbeats 800000 in
set_option maxRecDepth 20000 in
theorem walk_no (a0 : Int) (m : Nat) (w : World) (hm : bits BinOp.and IntKind.i64 a0 15 = (m : Int)) (h16 : m < 16) (h : 8 < m) :
    Calls Try.prog 7 #[.int .i64 a0] w fun e w' => e = .returned (.bool true) ∧ Below w.heap.size w w' := by
  obtain ⟨i0, hi, hz0, hz1, hz2⟩ := info_parts info8
  obtain ⟨n, hn⟩ : ∃ n, n = 262136 + m := ⟨_, rfl⟩
  have HP : Hid _ := fun W => frame_Put_no (noughts n) W (by rw [noughts_size]; omega)
  have hd : decide ((262144 : Int) < 262136 + (m : Int)) = true := decide_eq_true (by omega)
  have HN : Hid (n = 262136 + m) := hn
  clear hn
  go_enter Try.func7, Try.ntmps7
  go_wp2_with (at_make; refine wpList_make_full _ rfl _ _ 36 rfl w.heap.size 5 i0 (.int .u8 0) 1 Try.underlying36 hi hz0 hz1 .i64 .i64 (262136 + (m : Int)) (262136 + (m : Int)) n rfl rfl (by have := HN.out; omega) (by have := HN.out; omega) (by have := HN.out; rw [hz2]; omega) (by have := HN.out; unfold maxLen; omega) (Nat.le_refl _) ?_; intro w1 ho1 hg1; have hcv := own_made ho1 (by have := HN.out; omega); have hb1 : Hid (Below w.heap.size w w1) := (Below.refl _ _).grown hg1 (Nat.le_refl _) (by intro k hk; cases hk); clear ho1 hg1)
  refine (HP.out _).mono ?_
  rintro e w2 ⟨rfl, hw⟩
  subst hw
  go_wp2_with fail
  refine (awake4 _).mono ?_
  rintro e w3 ⟨rfl, hb3⟩
  go_wp2
  go_ret
  exact ⟨rfl, hb1.out.trans (hb3.mono hb1.out.size)⟩

set_option maxHeartbeats 800000 in
set_option maxRecDepth 20000 in
theorem walk_yes (a0 : Int) (m : Nat) (w : World) (hm : bits BinOp.and IntKind.i64 a0 15 = (m : Int)) (h : m ≤ 8) :
    Calls Try.prog 7 #[.int .i64 a0] w fun e w' => e = .returned (.bool true) ∧ Below w.heap.size w w' := by
  obtain ⟨i0, hi, hz0, hz1, hz2⟩ := info_parts info8
  obtain ⟨n, hn⟩ : ∃ n, n = 262136 + m := ⟨_, rfl⟩
  have HP : Hid _ := fun W => frame_Put_yes (noughts n) W (by rw [noughts_size]; omega)
  have hrs : (F.record (noughts n)).size = 9 + n := by rw [F.record_size, noughts_size]
  obtain ⟨r, hr⟩ : ∃ r, r = F.record (noughts n) := ⟨_, rfl⟩
  rw [← hr] at HP hrs
  have hd : decide ((262144 : Int) < 262136 + (m : Int)) = false := decide_eq_false (by omega)
  have he : ((r.size : Int) == 262136 + (m : Int) + 9) = true := by rw [hrs, beq_iff_eq]; omega
  clear hr hrs
  have HN : Hid (n = 262136 + m) := hn
  clear hn
  go_enter Try.func7, Try.ntmps7
  go_wp2_with (at_make; refine wpList_make_full _ rfl _ _ 36 rfl w.heap.size 5 i0 (.int .u8 0) 1 Try.underlying36 hi hz0 hz1 .i64 .i64 (262136 + (m : Int)) (262136 + (m : Int)) n rfl rfl (by have := HN.out; omega) (by have := HN.out; omega) (by have := HN.out; rw [hz2]; omega) (by have := HN.out; unfold maxLen; omega) (Nat.le_refl _) ?_; intro w1 ho1 hg1; have hcv := own_made ho1 (by have := HN.out; omega); have hb1 : Hid (Below w.heap.size w w1) := (Below.refl _ _).grown hg1 (Nat.le_refl _) (by intro k hk; cases hk); clear ho1 hg1)
  refine (HP.out _).mono ?_
  rintro e w2 ⟨rfl, hb2⟩
  go_wp2_with fail
  refine (awake4 _).mono ?_
  rintro e w3 ⟨rfl, hb3⟩
  go_wp2
  go_ret
  exact ⟨rfl, hb1.out.trans ((hb2.trans (hb3.mono hb2.size)).mono hb1.out.size)⟩

theorem walk (a0 : Int) (w : World) (_b0 : -9223372036854775808 ≤ a0 ∧ a0 ≤ 9223372036854775807) :
    Calls Try.prog 7 #[.int .i64 a0] w fun e w' => e = .returned (.bool true) ∧ Below w.heap.size w w' := by
  obtain ⟨m, hm⟩ := Int.eq_ofNat_of_zero_le (show 0 ≤ a0 % 16 by omega)
  have h : bits BinOp.and IntKind.i64 a0 15 = (m : Int) := by rw [and_15, hm]
  by_cases h8 : m ≤ 8
  · exact walk_yes a0 m w h h8
  · exact walk_no a0 m w h (by omega) (by omega)

theorem own : ownKnob Try.prog.godebug = none := by kernel_rfl

set_option maxRecDepth 100000 in
theorem lifted (os : Os) (started : os.Started) (H : Type) (enc : TypeId × Value → H) :
    ReturnsInHanded {} Try.checked os 7 .any (Rows.frameLongSpec.pre6 enc Try.prog Try.f7 Rows.frameLongRow.domain false) (Rows.frameLongSpec.post enc Try.prog Try.f7 false true false false) := by
  refine returnsInHanded_of_change_sized (C := Try.checked) own started (by kernel_rfl) Try.func7
    (ChangeSpec.witness6 (enc := enc) (C := Try.checked) false ⟨#[], #[.int .i64 0], []⟩ 8 (by kernel_rfl) (by kernel_rfl) (by kernel_rfl) (by kernel_rfl)) ?_
  intro W base args ds gs before hval0 hW _ hsz0 _
  have hsz : (DataW.weightsEach Try.prog (Try.f7.params.toList ++ Rows.frameLongSpec.plain.varTypes Try.prog) (ds ++ gs)).all (· ≤ reachBytes) = true := hsz0
  have hval : ∀ (j : Nat) t v, Try.f7.params[j]? = some t → args[j]? = some v → Value.okWide Try.prog W .any base t v := hval0
  have hW' := hW
  obtain ⟨p, q, hA0, hV, rfl, hfz, hnd⟩ := hW
  have hA : DataW.TrodAll enc Try.prog W 0 (fun _ => true) true Try.f7.params.toList args.toList ds p := hA0
  rw [Try.params7] at hA hval hsz
  obtain ⟨v0, vs0, d0, ds0, p0, q0, hargs, rfl, rfl, h0, r0⟩ := trodAll_cons hA
  obtain ⟨rfl, rfl, rfl⟩ := trodAll_nil r0
  obtain rfl : args = #[v0] := by cases args; simp_all
  obtain ⟨rfl, rfl⟩ := trodVars_none hV
  obtain ⟨a0, rfl, rfl, rfl, w0⟩ := open_int Try.underlying3 (hval 0 3 v0 rfl rfl) h0
  have b0 : -9223372036854775808 ≤ a0 ∧ a0 ≤ 9223372036854775807 := by simpa [Lit.wf, IntKind.min, IntKind.max, IntKind.signed, IntKind.bits] using w0
  clear hA0 hval0 hsz0
  refine (walk a0 W b0).mono fun e W' ⟨he, bel⟩ => ?_
  subst he
  exact ⟨_, rfl, _, _, _, [], _, [], hW', trodAll_mk1 (shut_bool Try.underlying4 _), (trodAll_cons_mk (shut_int Try.underlying3 w0) trodAll_mk0), rfl, bel.frame _, fun h => by cases h⟩

theorem over : Rows.frameLongRow.holds Try.pinned (OpenSpec.ofChange Rows.frameLongSpec) :=
  OpenClaim.holds_of_wide 7 Try.f7 rfl rfl rfl rfl rfl rfl rfl ⟨rfl, rfl, rfl, rfl, rfl⟩ rfl rfl rfl rfl rfl (by kernel_rfl) Try.func7 (by kernel_rfl)
    (of_decide_eq_true (by kernel_rfl)) (by unfold Func.isWrapper; first | (rw [if_pos (by decide +kernel)]; kernel_rfl) | (rw [if_neg (by decide +kernel)]; exact ⟨rfl, rfl⟩))
    (fun os started H enc _ => lifted os started H enc)


end Go.Proofs.Ytpalmkneaffklaa.frameLong
namespace Go.Proofs.Ytpalmkneaffklaa
/-- The statement. -/
theorem frameLong_holds : Rows.FrameLongSaid := frameLong.over
end Go.Proofs.Ytpalmkneaffklaa
