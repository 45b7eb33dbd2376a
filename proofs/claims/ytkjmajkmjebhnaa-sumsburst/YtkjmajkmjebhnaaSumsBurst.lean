/-
  For every text s and all numbers at and by: SumsBurst answers true: a text of 4 to 4096 bytes of which four bytes in a row are others has another sum; the arguments read afterwards as before. No condition.
-/
import Derived.Test.YtkjmajkmjebhnaaSumAwake
import Derived.Test.YtkjmajkmjebhnaaSumRows
import Derived.Deep.RegionHeld3
import Derived.ProofKit
import Derived.OpenShut
import Derived.ShutString
import Derived.SizedLaws
namespace Go.Proofs.Ytkjmajkmjebhnaa.sumsBurst
open Go.ChangeShapes Go.WideShapes Go.ChangeAt Go.RowKit
open Go.ChangeMaps (open_string shut_string)

theorem and_all (x : Int) : bits .and .i64 x 4294967295 = x % 4294967296 := by
  have h1 : (BitVec.ofInt 64 (4294967295 : Int)).toNat = 2 ^ 32 - 1 := by decide
  have h2 : (BitVec.ofInt 64 x).toNat = (x % 18446744073709551616).toNat := by rw [BitVec.toNat_ofInt]; rfl
  show IntKind.i64.wrap ((BitVec.ofInt 64 x &&& BitVec.ofInt 64 4294967295).toNat : Int) = _
  rw [BitVec.toNat_and, h1, h2, Nat.and_two_pow_sub_one_eq_mod, wraps_i64 _ (by omega) (by rw [pow63]; omega)]
  omega

/-- The byte number i of a number, and the text of which so many of the four bytes from k on are others. -/
def part (x : Int) (i : Nat) : UInt8 := UInt8.ofNat (x / 2 ^ (8 * i) % 256).toNat
def upd (l : List UInt8) (x : Int) (k : Nat) : Nat → List UInt8
  | 0 => l
  | i + 1 => (upd l x k i).set (k + i) ((upd l x k i).getD (k + i) 0 ^^^ part x i)
theorem upd_length (l : List UInt8) (x : Int) (k : Nat) : ∀ i, (upd l x k i).length = l.length
  | 0 => rfl
  | i + 1 => by rw [upd, List.length_set, upd_length l x k i]

theorem and_byte (x : Int) : bits .and .i64 x 255 = x % 256 := by
  have h1 : (BitVec.ofInt 64 (255 : Int)).toNat = 2 ^ 8 - 1 := by decide
  have h2 : (BitVec.ofInt 64 x).toNat = (x % 18446744073709551616).toNat := by rw [BitVec.toNat_ofInt]; rfl
  show IntKind.i64.wrap ((BitVec.ofInt 64 x &&& BitVec.ofInt 64 255).toNat : Int) = _
  rw [BitVec.toNat_and, h1, h2, Nat.and_two_pow_sub_one_eq_mod, wraps_i64 _ (by omega) (by rw [pow63]; omega)]
  omega
theorem part_toNat (x : Int) (i : Nat) : ((part x i).toNat : Int) = x / 2 ^ (8 * i) % 256 := by
  unfold part
  generalize x / 2 ^ (8 * i) = y
  rw [UInt8.toNat_ofNat']
  omega
theorem xor_part (b : UInt8) (x : Int) (j : Nat) : bits BinOp.xor IntKind.u8 (b.toNat : Int) (bits BinOp.and IntKind.i64 (x / 2 ^ (8 * j)) 255 % 256) = ((b ^^^ part x j).toNat : Int) := by
  have h1 := b.toNat_lt
  have h2 := (part x j).toNat_lt
  rw [and_byte, Int.emod_emod_of_dvd _ (by decide), ← part_toNat, xor8 _ _ (by omega) (by omega), UInt8.toNat_xor]

theorem upd_four (p s : List UInt8) (a b c d : UInt8) (x : Int) : upd (p ++ [a, b, c, d] ++ s) x p.length 4 = p ++ [a ^^^ part x 0, b ^^^ part x 1, c ^^^ part x 2, d ^^^ part x 3] ++ s := by
  simp [upd, List.getD]
theorem cut_four (l : List UInt8) (k : Nat) (h : k + 4 ≤ l.length) : ∃ p s a b c d, l = p ++ [a, b, c, d] ++ s ∧ p.length = k := by
  refine ⟨l.take k, l.drop (k + 4), l[k], l[k + 1], l[k + 2], l[k + 3], ?_, by simp; omega⟩
  conv => lhs; rw [← List.take_append_drop k l]
  rw [List.append_assoc]
  congr 1
  rw [List.drop_eq_getElem_cons (by omega), List.drop_eq_getElem_cons (i := k + 1) (by omega), List.drop_eq_getElem_cons (i := k + 1 + 1) (by omega), List.drop_eq_getElem_cons (i := k + 1 + 1 + 1) (by omega)]
  rfl
theorem told (l : List UInt8) (x : Int) (k : Nat) (h : k + 4 ≤ l.length) (hx : (bits BinOp.and IntKind.i64 x 4294967295 == 0) = false) : ¬ S.crc l = S.crc (upd l x k 4) := by
  intro e
  obtain ⟨p, s, a, b, c, d, rfl, rfl⟩ := cut_four l k h
  rw [upd_four] at e
  have hz := S.crc_burst p s _ _ _ _ _ _ _ _ e
  have ca : ∀ u v : UInt8, u ^^^ (u ^^^ v) = v := fun u v => by rw [← UInt8.xor_assoc, UInt8.xor_self, UInt8.zero_xor]
  rw [ca, ca, ca, ca] at hz
  simp only [List.cons.injEq, and_true] at hz
  obtain ⟨h0, h1, h2, h3⟩ := hz
  have q0 := part_toNat x 0
  have q1 := part_toNat x 1
  have q2 := part_toNat x 2
  have q3 := part_toNat x 3
  rw [h0] at q0
  rw [h1] at q1
  rw [h2] at q2
  rw [h3] at q3
  rw [and_all] at hx
  have : x % 4294967296 = 0 := by
    have e0 : ((0 : UInt8).toNat : Int) = 0 := rfl
    rw [e0] at q0 q1 q2 q3
    have p0 : (2 : Int) ^ (8 * 0) = 1 := by decide
    have p1 : (2 : Int) ^ (8 * 1) = 256 := by decide
    have p2 : (2 : Int) ^ (8 * 2) = 65536 := by decide
    have p3 : (2 : Int) ^ (8 * 3) = 16777216 := by decide
    rw [p0] at q0
    rw [p1] at q1
    rw [p2] at q2
    rw [p3] at q3
    omega
  rw [this] at hx
  exact absurd hx (by decide)

/-- What stays: nothing of before is changed, and the bytes lie there. -/
def Good (w : World) (l : List UInt8) (W : World) : Prop := Lies W w.heap.size l ∧ Below w.heap.size w W
theorem Good.drew {w W : World} {l : List UInt8} (h : Good w l W) : Good w l W.drew := ⟨h.1.drew, h.2.drew⟩
theorem Good.below {w W W' : World} {l : List UInt8} (h : Good w l W) (hb : Below W.heap.size W W') : Good w l W' := ⟨h.1.below hb h.1.1, h.2.trans (hb.mono (Nat.le_of_lt h.1.1))⟩

set_option maxHeartbeats 1000000 in
set_option maxRecDepth 20000 in
theorem walk_main (a0 : ByteArray) (a1 a2 : Int) (k : Nat) (w : World) (b0 : 4 ≤ a0.size) (b1 : a0.size ≤ 4096) (hk : k + 4 ≤ a0.size) (h2 : (bits BinOp.and IntKind.i64 a2 4294967295 == 0) = false)
    (ht : Int.tmod a1 ((a0.size : Int) - 3) = (k : Int) ∨ Int.tmod a1 ((a0.size : Int) - 3) = -(k : Int) ∧ 0 < k) :
    Calls Try.prog 5 #[.string a0, .int .i64 a1, .int .i64 a2] w fun e w' => e = .returned (.bool true) ∧ Below w.heap.size w w' := by
  obtain ⟨cap, w1, hcv, hl1, hb1⟩ := lies_bytes (P := Try.prog) w a0 9 25 5 Try.underlying9 Try.underlying25 Try.underlying5
  have hd1 : decide ((4096 : Int) < (a0.size : Int)) = false := decide_eq_false (by omega)
  have hd2 : decide ((a0.size : Int) < 4) = false := decide_eq_false (by omega)
  have H2 : Hid ((bits BinOp.and IntKind.i64 a2 4294967295 == 0) = false) := h2
  have hpos : (0 : Int) ≤ (k : Int) := by omega
  rcases ht with ht | ⟨ht, h0⟩
  all_goals
    go_enter Try.func5, Try.ntmps5
    go_wp2
    go_loopw [9] (fun i wr => ∃ j : Nat, j ≤ 4 ∧ i = .int .i64 (j : Int) ∧ Good w (upd a0.data.toList a2 k j) wr) (fun i _ => 4 - (intOf i).toNat)
    case atStart => exact ⟨0, by omega, rfl, hl1, hb1⟩
    case round =>
      obtain ⟨j, hj, rfl, hl, hb⟩ := hrel
      clear hl1 hb1 hcv ht h2
      have hul : (upd a0.data.toList a2 k j).length = a0.size := by rw [upd_length]; simp
      by_cases hlt : j < 4
      · obtain ⟨b, hbe⟩ : ∃ b, b = (upd a0.data.toList a2 k j).getD (k + j) 0 := ⟨_, rfl⟩
        have hc := (hl.2 (k + j) (by rw [hul]; omega)).1
        have hf := (hl.2 (k + j) (by rw [hul]; omega)).2
        rw [show (upd a0.data.toList a2 k j)[k + j]'(by rw [hul]; omega) = b from by rw [hbe]; simp [List.getD, hul, show k + j < a0.size by omega]] at hc
        have HN : Hid (Good w (upd a0.data.toList a2 k (j + 1)) (wr.setCell ⟨w.heap.size, k + j, none⟩ (.int .u8 (bits BinOp.xor IntKind.u8 (b.toNat : Int) (bits BinOp.and IntKind.i64 (a2 / 2 ^ (8 * j)) 255 % 256)))).drew) := by
          unfold Hid
          rw [xor_part, upd, ← hbe]
          exact ⟨(hl.set _ _).drew, (hb.setCell (Nat.le_refl _) _).drew⟩
        clear hl hb hbe hul
        go_wp2
        go_region
        go_wp2
        go_roundw
        case rel => exact ⟨j + 1, by omega, by go_num, HN.out⟩
        case measure => simp [intOf]; omega
      · obtain rfl : j = 4 := by omega
        obtain ⟨l, hle⟩ : ∃ l, l = upd a0.data.toList a2 k 4 := ⟨_, rfl⟩
        rw [← hle] at hl hul
        have hgw : Good w l wr := ⟨hl, hb⟩
        have hgd : Good w l wr.drew := hgw.drew
        have HK : Hid (∀ W, Good w l W → (convert 25 9 (.slice (some ⟨w.heap.size, 0, none⟩) a0.size cap)).run Try.prog W = .ok (.string ⟨l.toArray⟩) W) :=
          fun W h => h.1.conv a0.size cap hul.symm 25 9 5 Try.underlying25 Try.underlying5 Try.underlying9
        obtain ⟨c1, hc1⟩ : ∃ c1 : Int, c1 = (S.crc a0.data.toList : Int) := ⟨_, rfl⟩
        obtain ⟨c2, hc2⟩ : ∃ c2 : Int, c2 = (S.crc l : Int) := ⟨_, rfl⟩
        have hne : ¬ c1 = c2 := by
          have h := told a0.data.toList a2 k (by simpa using hk) H2.out
          rw [← hle] at h
          rw [hc1, hc2]
          omega
        have hne2 : (c1 != c2) = true := by simpa using hne
        have HC1 : Hid (∀ W, Good w l W → Calls Try.prog 9 #[.string a0] W fun e w' => e = .returned (.int .i64 c1) ∧ Good w l w') := by
          intro W h
          rw [hc1]
          refine (sums_Crc a0 W (by unfold maxLen; omega)).mono ?_
          rintro e w' ⟨rfl, hb'⟩
          exact ⟨rfl, h.below hb'⟩
        have HC2 : Hid (∀ W, Good w l W → Calls Try.prog 9 #[.string ⟨l.toArray⟩] W fun e w' => e = .returned (.int .i64 c2) ∧ Good w l w') := by
          intro W h
          rw [hc2]
          refine (sums_Crc ⟨l.toArray⟩ W (by unfold maxLen; simp [ByteArray.size]; omega)).mono ?_
          rintro e w' ⟨rfl, hb'⟩
          exact ⟨rfl, h.below hb'⟩
        have HAW : Hid (∀ W, Good w l W → Calls Try.prog 8 #[] W fun e w' => e = .returned (.bool true) ∧ Good w l w') := by
          intro W h
          refine (awake2 W).mono ?_
          rintro e w' ⟨rfl, hb'⟩
          exact ⟨rfl, h.below hb'⟩
        clear hle hl hb hul hc1 hc2
        go_wp2
        go_region_held3 (fun W => (convert 25 9 (.slice (some ⟨w.heap.size, 0, none⟩) a0.size cap)).run Try.prog W = .ok (.string ⟨l.toArray⟩) W) (exact HK.out _ (by assumption))
          (first
            | (go_at_call_of 9 (Value.string a0); refine (HC1.out _ ?_).mono ?_; assumption; rintro e w' ⟨rfl, hg'⟩)
            | (go_at_call 9; refine (HC2.out _ ?_).mono ?_; assumption; rintro e w' ⟨rfl, hg'⟩)
            | (go_at_call 8; refine (HAW.out _ ?_).mono ?_; assumption; rintro e w' ⟨rfl, hg'⟩))
        all_goals go_wp2
        all_goals go_ret
        all_goals exact ⟨rfl, hg'.2⟩

set_option maxHeartbeats 400000 in
theorem walk_short (a0 : ByteArray) (a1 a2 : Int) (w : World) (h : (decide ((a0.size : Int) < 4) = true) ∨ (decide ((a0.size : Int) < 4) = false ∧ decide ((4096 : Int) < (a0.size : Int)) = true) ∨ (decide ((a0.size : Int) < 4) = false ∧ decide ((4096 : Int) < (a0.size : Int)) = false ∧ bits BinOp.and IntKind.i64 a2 4294967295 = 0)) :
    Calls Try.prog 5 #[.string a0, .int .i64 a1, .int .i64 a2] w fun e w' => e = .returned (.bool true) ∧ Below w.heap.size w w' := by
  rcases h with h | ⟨h, h'⟩ | ⟨h, h', h''⟩
  all_goals
    go_enter Try.func5, Try.ntmps5
    go_wp2_with fail
    refine (awake2 _).mono ?_
    rintro e w1 ⟨rfl, hb1⟩
    go_wp2
    go_ret
    exact ⟨rfl, hb1⟩

theorem walk (a0 : ByteArray) (a1 a2 : Int) (w : World) (_b0 : a0.size ≤ 140737488351232) (_b1 : -9223372036854775808 ≤ a1 ∧ a1 ≤ 9223372036854775807) (_b2 : -9223372036854775808 ≤ a2 ∧ a2 ≤ 9223372036854775807) :
    Calls Try.prog 5 #[.string a0, .int .i64 a1, .int .i64 a2] w fun e w' => e = .returned (.bool true) ∧ Below w.heap.size w w' := by
  by_cases h4 : a0.size < 4
  · exact walk_short a0 a1 a2 w (.inl (decide_eq_true (by omega)))
  · by_cases h5 : 4096 < a0.size
    · exact walk_short a0 a1 a2 w (.inr (.inl ⟨decide_eq_false (by omega), decide_eq_true (by omega)⟩))
    · by_cases hz : bits BinOp.and IntKind.i64 a2 4294967295 = 0
      · exact walk_short a0 a1 a2 w (.inr (.inr ⟨decide_eq_false (by omega), decide_eq_false (by omega), hz⟩))
      · obtain ⟨m, hm⟩ : ∃ m : Nat, (a0.size : Int) - 3 = (m : Int) := ⟨a0.size - 3, by omega⟩
        have hm0 : (0 : Int) < (m : Int) := by omega
        have h1 : Int.tmod a1 (m : Int) = ((Int.tmod a1 (m : Int)).natAbs : Int) ∨ Int.tmod a1 (m : Int) = -((Int.tmod a1 (m : Int)).natAbs : Int) ∧ 0 < (Int.tmod a1 (m : Int)).natAbs := by omega
        have h2 : (Int.tmod a1 (m : Int)).natAbs < m := by
          rw [Int.natAbs_tmod]
          exact Nat.mod_lt _ (by omega)
        refine walk_main a0 a1 a2 (Int.tmod a1 (m : Int)).natAbs w (by omega) (by omega) (by omega) (by simpa using hz) ?_
        rw [hm]
        exact h1

theorem own : ownKnob Try.prog.godebug = none := by kernel_rfl

set_option maxRecDepth 100000 in
theorem lifted (os : Os) (started : os.Started) (H : Type) (enc : TypeId × Value → H) :
    ReturnsInHanded {} Try.checked os 5 .any (Rows.sumsBurstSpec.pre6 enc Try.prog Try.f5 Rows.sumsBurstRow.domain false) (Rows.sumsBurstSpec.post enc Try.prog Try.f5 false true false false) := by
  refine returnsInHanded_of_change_sized (C := Try.checked) own started (by kernel_rfl) Try.func5
    (ChangeSpec.witness6 (enc := enc) (C := Try.checked) false ⟨#[], #[.string ByteArray.empty, .int .i64 0, .int .i64 0], []⟩ 8 (by kernel_rfl) (by kernel_rfl) (by kernel_rfl) (by kernel_rfl)) ?_
  intro W base args ds gs before hval0 hW _ hsz0 _
  have hsz : (DataW.weightsEach Try.prog (Try.f5.params.toList ++ Rows.sumsBurstSpec.plain.varTypes Try.prog) (ds ++ gs)).all (· ≤ reachBytes) = true := hsz0
  have hval : ∀ (j : Nat) t v, Try.f5.params[j]? = some t → args[j]? = some v → Value.okWide Try.prog W .any base t v := hval0
  have hW' := hW
  obtain ⟨p, q, hA0, hV, rfl, hfz, hnd⟩ := hW
  have hA : DataW.TrodAll enc Try.prog W 0 (fun _ => true) true Try.f5.params.toList args.toList ds p := hA0
  rw [Try.params5] at hA hval hsz
  obtain ⟨v0, vs0, d0, ds0, p0, q0, hargs, rfl, rfl, h0, r0⟩ := trodAll_cons hA
  obtain ⟨v1, vs1, d1, ds1, p1, q1, rfl, rfl, rfl, h1, r1⟩ := trodAll_cons r0
  obtain ⟨v2, vs2, d2, ds2, p2, q2, rfl, rfl, rfl, h2, r2⟩ := trodAll_cons r1
  obtain ⟨rfl, rfl, rfl⟩ := trodAll_nil r2
  obtain rfl : args = #[v0, v1, v2] := by cases args; simp_all
  obtain ⟨rfl, rfl⟩ := trodVars_none hV
  obtain ⟨a0, rfl, rfl, rfl, w0⟩ := open_string Try.underlying9 (hval 0 9 v0 rfl rfl) h0
  have b0 : a0.size ≤ 140737488351232 := by have := sized_string hsz (j := 0) (t := 9) rfl rfl; simpa [reachBytes] using this
  obtain ⟨a1, rfl, rfl, rfl, w1⟩ := open_int Try.underlying3 (hval 1 3 v1 rfl rfl) h1
  have b1 : -9223372036854775808 ≤ a1 ∧ a1 ≤ 9223372036854775807 := by simpa [Lit.wf, IntKind.min, IntKind.max, IntKind.signed, IntKind.bits] using w1
  obtain ⟨a2, rfl, rfl, rfl, w2⟩ := open_int Try.underlying3 (hval 2 3 v2 rfl rfl) h2
  have b2 : -9223372036854775808 ≤ a2 ∧ a2 ≤ 9223372036854775807 := by simpa [Lit.wf, IntKind.min, IntKind.max, IntKind.signed, IntKind.bits] using w2
  clear hA0 hval0 hsz0
  refine (walk a0 a1 a2 W b0 b1 b2).mono fun e W' ⟨he, bel⟩ => ?_
  subst he
  exact ⟨_, rfl, _, _, _, [], _, [], hW', trodAll_mk1 (shut_bool Try.underlying4 _), (trodAll_cons_mk (shut_string Try.underlying9 w0) (trodAll_cons_mk (shut_int Try.underlying3 w1) (trodAll_cons_mk (shut_int Try.underlying3 w2) trodAll_mk0))), rfl, bel.frame _, fun h => by cases h⟩

theorem over : Rows.sumsBurstRow.holds Try.pinned (OpenSpec.ofChange Rows.sumsBurstSpec) :=
  OpenClaim.holds_of_wide 5 Try.f5 rfl rfl rfl rfl rfl rfl rfl ⟨rfl, rfl, rfl, rfl, rfl⟩ rfl rfl rfl rfl rfl (by kernel_rfl) Try.func5 (by kernel_rfl)
    (of_decide_eq_true (by kernel_rfl)) (by unfold Func.isWrapper; first | (rw [if_pos (by decide +kernel)]; kernel_rfl) | (rw [if_neg (by decide +kernel)]; exact ⟨rfl, rfl⟩))
    (fun os started H enc _ => lifted os started H enc)


end Go.Proofs.Ytkjmajkmjebhnaa.sumsBurst
namespace Go.Proofs.Ytkjmajkmjebhnaa
/-- The statement. -/
theorem sumsBurst_holds : Rows.SumsBurstSaid := sumsBurst.over
end Go.Proofs.Ytkjmajkmjebhnaa
