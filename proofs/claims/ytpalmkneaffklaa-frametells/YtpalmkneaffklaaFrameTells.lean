/-
  For every text s and all numbers at and by: FrameTells answers true: a record of which one byte that is not of its length is another one is neither taken nor scanned; the arguments read afterwards as before. No condition.
-/
import Derived.Test.YtpalmkneaffklaaFrAwake
import Derived.Test.YtpalmkneaffklaaSumRows
import Derived.Test.YtpalmkneaffklaaDkMask
import Derived.ProofKit
import Derived.OpenShut
import Derived.ShutString
import Derived.SizedLaws
namespace Go.Proofs.Ytpalmkneaffklaa.frameTells
open Go.ChangeShapes Go.WideShapes Go.ChangeAt Go.RowKit
open Go.ChangeMaps (open_string shut_string)

set_option maxHeartbeats 400000 in
theorem walk_long (a0 : ByteArray) (a1 a2 : Int) (w : World) (h : decide ((4096 : Int) < (a0.size : Int)) = true ∨ (decide ((4096 : Int) < (a0.size : Int)) = false ∧ bits BinOp.and IntKind.i64 a2 255 = 0)) :
    Calls Try.prog 6 #[.string a0, .int .i64 a1, .int .i64 a2] w fun e w' => e = .returned (.bool true) ∧ Below w.heap.size w w' := by
  rcases h with h | ⟨h, h'⟩
  all_goals
    go_enter Try.func6, Try.ntmps6
    go_wp2_with fail
    refine (awake4 _).mono ?_
    rintro e w1 ⟨rfl, hb1⟩
    go_wp2
    go_ret
    exact ⟨rfl, hb1⟩

set_option maxHeartbeats 800000 in
set_option maxRecDepth 20000 in
theorem walk_mid (a0 : ByteArray) (a1 a2 : Int) (k : Nat) (w : World) (b0 : a0.size ≤ 4096) (c : Nat) (hc : bits BinOp.and IntKind.i64 a2 255 = (c : Int)) (hc0 : ((c : Int) == 0) = false)
    (ht : Int.tmod a1 ((F.record a0).size : Int) = (k : Int) ∨ Int.tmod a1 ((F.record a0).size : Int) = -(k : Int) ∧ 0 < k) (hk1 : 1 ≤ k) (hk5 : k < 5) :
    Calls Try.prog 6 #[.string a0, .int .i64 a1, .int .i64 a2] w fun e w' => e = .returned (.bool true) ∧ Below w.heap.size w w' := by
  have d0 : decide ((4096 : Int) < (a0.size : Int)) = false := decide_eq_false (by omega)
  have HP : Hid _ := fun W => frame_Put_yes a0 W (by omega)
  have hrs := F.record_size a0
  obtain ⟨r, hr⟩ : ∃ r, r = F.record a0 := ⟨_, rfl⟩
  rw [← hr] at HP hrs ht
  have h9 : 9 ≤ r.size := by omega
  have hub : r.size ≤ 4105 := by omega
  have HRS : Hid (r.size = 9 + a0.size) := hrs
  clear hrs hr
  rcases ht with ht | ⟨ht, h0⟩
  all_goals
    go_enter Try.func6, Try.ntmps6
    go_wp2_with fail
    refine (HP.out _).mono ?_
    rintro e w1 ⟨rfl, hb1⟩
    go_wp2_with fail
    refine (awake4 _).mono ?_
    rintro e w2 ⟨rfl, hb2⟩
    go_wp2
    go_ret
    exact ⟨rfl, hb1.trans (hb2.mono hb1.size)⟩

theorem xor_ne (x y : UInt8) (h : y ≠ 0) : x ^^^ y ≠ x := by
  intro e
  have : x ^^^ (x ^^^ y) = x ^^^ x := by rw [e]
  rw [← UInt8.xor_assoc, UInt8.xor_self, UInt8.zero_xor] at this
  exact h this

theorem below5 {a b c d e f : World} (h1 : Below a.heap.size a b) (h2 : Below b.heap.size b c) (h3 : Below c.heap.size c d) (h4 : Below d.heap.size d e) (h5 : Below e.heap.size e f) : Below a.heap.size a f :=
  h1.trans ((h2.trans ((h3.trans ((h4.trans (h5.mono h4.size)).mono h3.size)).mono h2.size)).mono h1.size)

set_option maxHeartbeats 1000000 in
set_option maxRecDepth 20000 in
theorem walk_main (a0 : ByteArray) (a1 a2 : Int) (k : Nat) (w : World) (b0 : a0.size ≤ 4096) (c : Nat) (hc : bits BinOp.and IntKind.i64 a2 255 = (c : Int)) (hc0 : ((c : Int) == 0) = false) (hcl : c < 256)
    (ht : Int.tmod a1 ((F.record a0).size : Int) = (k : Int) ∨ Int.tmod a1 ((F.record a0).size : Int) = -(k : Int) ∧ 0 < k) (hk : k < (F.record a0).size) (hk' : k < 1 ∨ 5 ≤ k) :
    Calls Try.prog 6 #[.string a0, .int .i64 a1, .int .i64 a2] w fun e w' => e = .returned (.bool true) ∧ Below w.heap.size w w' := by
  have d0 : decide ((4096 : Int) < (a0.size : Int)) = false := decide_eq_false (by omega)
  have HP : Hid _ := fun W => frame_Put_yes a0 W (by omega)
  have hrs := F.record_size a0
  have hkl : k < (F.record a0).data.toList.length := by rw [F.toL_length]; exact hk
  obtain ⟨x, hx⟩ : ∃ x, x = (F.record a0).data.toList[k] := ⟨_, rfl⟩
  obtain ⟨y, hy⟩ : ∃ y, y = x ^^^ c.toUInt8 := ⟨_, rfl⟩
  have hcn : c ≠ 0 := by intro e; rw [e] at hc0; exact absurd hc0 (by decide)
  have hcb : c.toUInt8.toNat = c := byte_toNat hcl
  have hyx : y ≠ x := by
    rw [hy]
    refine xor_ne x _ ?_
    intro e
    rw [e] at hcb
    exact hcn hcb.symm
  have hxor : bits BinOp.xor IntKind.u8 (x.toNat : Int) (c : Int) = (y.toNat : Int) := by
    have h1 := x.toNat_lt
    rw [xor8 _ _ (by omega) hcl, hy, UInt8.toNat_xor, hcb]
  have HXY : Hid (∀ s : ByteArray, s.data.toList = (F.record a0).data.toList.set k y → F.take s = (⟨#[]⟩, 0, 40)) := by
    intro s hs
    exact F.take_turned a0 k y s (by omega) hk hk' hs (by rw [← hx]; exact hyx)
  obtain ⟨r, hr⟩ : ∃ r, r = F.record a0 := ⟨_, rfl⟩
  have HX : Hid (∀ h : k < r.data.toList.length, r.data.toList[k]'h = x) := by subst hr; exact fun _ => hx.symm
  rw [← hr] at HP hrs ht HXY hk hkl
  have h9 : 9 ≤ r.size := by omega
  have hub : r.size ≤ 4105 := by omega
  obtain ⟨z, hz⟩ : ∃ z : ByteArray, z = ⟨(r.data.toList.set k y).toArray⟩ := ⟨_, rfl⟩
  have hzs : z.size = r.size := by rw [← F.toL_length, hz]; simp
  have hzt : F.take z = (⟨#[]⟩, 0, 40) := HXY.out z (by rw [hz])
  have HT : Hid (∀ W, Calls Try.prog 12 #[.string z] W fun e w' => e = .returned (.tuple #[.string ⟨#[]⟩, .int .i64 0, .int .i64 40]) ∧ Below W.heap.size W w') := by
    intro W
    have := frame_Take z W (by omega)
    rw [hzt] at this
    exact this
  have HS : Hid (∀ W, Calls Try.prog 14 #[.string z] W fun e w' => ∃ v, e = .returned (.tuple #[v, .int .i64 0]) ∧ Strs w' v [] ∧ Below W.heap.size W w') := by
    intro W
    have := frame_Scan z W (by omega)
    rw [F.scan_no (by rw [hzt]; decide)] at this
    exact this
  have HZ : Hid (z = ⟨(r.data.toList.set k y).toArray⟩) := hz
  clear hrs hr hz hzt hzs HXY hyx hy hcb hcn hx
  rcases hk' with hk1 | hk5
  · obtain rfl : k = 0 := by omega
    have ht : Int.tmod a1 (r.size : Int) = 0 := by rcases ht with h | ⟨_, h⟩ <;> omega
    go_enter Try.func6, Try.ntmps6
    go_wp2_with fail
    refine (HP.out _).mono ?_
    rintro e w1 ⟨rfl, hb1⟩
    obtain ⟨cap, w2, hcv, hl2, hb2⟩ := lies_bytes (P := Try.prog) w1 r 9 36 5 Try.underlying9 Try.underlying36 Try.underlying5
    have hce := (hl2.2 0 hkl).1
    have hfr := (hl2.2 0 hkl).2
    rw [HX.out hkl] at hce
    have hl3 : Lies (w2.setCell ⟨w1.heap.size, 0, none⟩ (.int .u8 (y.toNat : Int))) w1.heap.size (r.data.toList.set 0 y) := hl2.set 0 y
    have hb3 : Below w1.heap.size w1 (w2.setCell ⟨w1.heap.size, 0, none⟩ (.int .u8 (y.toNat : Int))) := hb2.setCell (Nat.le_refl _) _
    have hcv3 := hl3.conv (P := Try.prog) r.size cap (by simp) 36 9 5 Try.underlying36 Try.underlying5 Try.underlying9
    rw [← HZ.out] at hcv3
    have HL3 : Hid (Lies _ _ _) := hl3
    have HB3 : Hid _ := hb3
    have HB1 : Hid _ := hb1
    clear hl3 hl2 hb3 hb2 hb1
    go_wp2_with fail
    refine (HT.out _).mono ?_
    rintro e w4 ⟨rfl, hb4⟩
    have hl4 : Lies w4 w1.heap.size _ := Lies.below HL3.out hb4 HL3.out.1
    have hcv4 := hl4.conv (P := Try.prog) r.size cap (by simp) 36 9 5 Try.underlying36 Try.underlying5 Try.underlying9
    rw [← HZ.out] at hcv4
    have HB4 : Hid _ := hb4
    clear hb4 hl4 hcv3
    go_wp2_with fail
    refine (HS.out _).mono ?_
    rintro e w5 ⟨v, rfl, ⟨ao, cc, rfl, _⟩, hb5⟩
    go_wp2_with fail
    refine (awake4 _).mono ?_
    rintro e w6 ⟨rfl, hb6⟩
    go_wp2
    go_ret
    exact ⟨rfl, below5 HB1.out HB3.out HB4.out hb5 hb6⟩
  · rcases ht with ht | ⟨ht, h0⟩
    all_goals
      go_enter Try.func6, Try.ntmps6
      go_wp2_with fail
      refine (HP.out _).mono ?_
      rintro e w1 ⟨rfl, hb1⟩
      obtain ⟨cap, w2, hcv, hl2, hb2⟩ := lies_bytes (P := Try.prog) w1 r 9 36 5 Try.underlying9 Try.underlying36 Try.underlying5
      have hce := (hl2.2 k hkl).1
      have hfr := (hl2.2 k hkl).2
      rw [HX.out hkl] at hce
      have hl3 : Lies (w2.setCell ⟨w1.heap.size, k, none⟩ (.int .u8 (y.toNat : Int))) w1.heap.size (r.data.toList.set k y) := hl2.set k y
      have hb3 : Below w1.heap.size w1 (w2.setCell ⟨w1.heap.size, k, none⟩ (.int .u8 (y.toNat : Int))) := hb2.setCell (Nat.le_refl _) _
      have hcv3 := hl3.conv (P := Try.prog) r.size cap (by simp) 36 9 5 Try.underlying36 Try.underlying5 Try.underlying9
      rw [← HZ.out] at hcv3
      have HL3 : Hid (Lies _ _ _) := hl3
      have HB3 : Hid _ := hb3
      have HB1 : Hid _ := hb1
      clear hl3 hl2 hb3 hb2 hb1
      go_wp2_with fail
      refine (HT.out _).mono ?_
      rintro e w4 ⟨rfl, hb4⟩
      have hl4 : Lies w4 w1.heap.size _ := Lies.below HL3.out hb4 HL3.out.1
      have hcv4 := hl4.conv (P := Try.prog) r.size cap (by simp) 36 9 5 Try.underlying36 Try.underlying5 Try.underlying9
      rw [← HZ.out] at hcv4
      have HB4 : Hid _ := hb4
      clear hb4 hl4 hcv3
      go_wp2_with fail
      refine (HS.out _).mono ?_
      rintro e w5 ⟨v, rfl, ⟨ao, cc, rfl, _⟩, hb5⟩
      go_wp2_with fail
      refine (awake4 _).mono ?_
      rintro e w6 ⟨rfl, hb6⟩
      go_wp2
      go_ret
      exact ⟨rfl, below5 HB1.out HB3.out HB4.out hb5 hb6⟩

theorem walk (a0 : ByteArray) (a1 a2 : Int) (w : World) (_b0 : a0.size ≤ 140737488351232) (_b1 : -9223372036854775808 ≤ a1 ∧ a1 ≤ 9223372036854775807) (_b2 : -9223372036854775808 ≤ a2 ∧ a2 ≤ 9223372036854775807) :
    Calls Try.prog 6 #[.string a0, .int .i64 a1, .int .i64 a2] w fun e w' => e = .returned (.bool true) ∧ Below w.heap.size w w' := by
  by_cases h4 : a0.size ≤ 4096
  · obtain ⟨c, hcm⟩ := Int.eq_ofNat_of_zero_le (show 0 ≤ a2 % 256 by omega)
    have hc : bits BinOp.and IntKind.i64 a2 255 = (c : Int) := by rw [and_255, hcm]
    by_cases h0 : c = 0
    · exact walk_long a0 a1 a2 w (.inr ⟨decide_eq_false (by omega), by rw [hc, h0]; rfl⟩)
    · have hc0 : ((c : Int) == 0) = false := beq_eq_false_iff_ne.2 (by omega)
      have hrs := F.record_size a0
      generalize hm : (F.record a0).size = m at hrs
      have h1 : Int.tmod a1 (m : Int) = ((Int.tmod a1 (m : Int)).natAbs : Int) ∨ Int.tmod a1 (m : Int) = -((Int.tmod a1 (m : Int)).natAbs : Int) ∧ 0 < (Int.tmod a1 (m : Int)).natAbs := by omega
      have h2 : (Int.tmod a1 (m : Int)).natAbs < m := by
        rw [Int.natAbs_tmod]
        exact Nat.mod_lt _ (by omega)
      by_cases h5 : 1 ≤ (Int.tmod a1 (m : Int)).natAbs ∧ (Int.tmod a1 (m : Int)).natAbs < 5
      · exact walk_mid a0 a1 a2 _ w h4 c hc hc0 (by rw [hm]; exact h1) h5.1 h5.2
      · exact walk_main a0 a1 a2 _ w h4 c hc hc0 (by omega) (by rw [hm]; exact h1) (by rw [hm]; exact h2) (by omega)
  · exact walk_long a0 a1 a2 w (.inl (decide_eq_true (by omega)))

theorem own : ownKnob Try.prog.godebug = none := by kernel_rfl

set_option maxRecDepth 100000 in
theorem lifted (os : Os) (started : os.Started) (H : Type) (enc : TypeId × Value → H) :
    ReturnsInHanded {} Try.checked os 6 .any (Rows.frameTellsSpec.pre6 enc Try.prog Try.f6 Rows.frameTellsRow.domain false) (Rows.frameTellsSpec.post enc Try.prog Try.f6 false true false false) := by
  refine returnsInHanded_of_change_sized (C := Try.checked) own started (by kernel_rfl) Try.func6
    (ChangeSpec.witness6 (enc := enc) (C := Try.checked) false ⟨#[], #[.string ByteArray.empty, .int .i64 0, .int .i64 0], []⟩ 8 (by kernel_rfl) (by kernel_rfl) (by kernel_rfl) (by kernel_rfl)) ?_
  intro W base args ds gs before hval0 hW _ hsz0 _
  have hsz : (DataW.weightsEach Try.prog (Try.f6.params.toList ++ Rows.frameTellsSpec.plain.varTypes Try.prog) (ds ++ gs)).all (· ≤ reachBytes) = true := hsz0
  have hval : ∀ (j : Nat) t v, Try.f6.params[j]? = some t → args[j]? = some v → Value.okWide Try.prog W .any base t v := hval0
  have hW' := hW
  obtain ⟨p, q, hA0, hV, rfl, hfz, hnd⟩ := hW
  have hA : DataW.TrodAll enc Try.prog W 0 (fun _ => true) true Try.f6.params.toList args.toList ds p := hA0
  rw [Try.params6] at hA hval hsz
  obtain ⟨v0, vs0, d0, ds0, p0, q0, hargs, rfl, rfl, h0, r0⟩ := trodAll_cons hA
  obtain ⟨v1, vs1, d1, ds1, p1, q1, rfl, rfl, rfl, h1, r1⟩ := trodAll_cons r0
  obtain ⟨v2, vs2, d2, ds2, p2, q2, rfl, rfl, rfl, h2, r2⟩ := trodAll_cons r1
  obtain ⟨rfl, rfl, rfl⟩ := trodAll_nil r2
  obtain rfl : args = #[v0, v1, v2] := by cases args; simp_all
  obtain ⟨rfl, rfl⟩ := trodVars_none hV
  obtain ⟨a0, rfl, rfl, rfl, w0⟩ := open_string Try.underlying9 (hval 0 9 v0 rfl rfl) h0
  have b0 : a0.size ≤ 140737488351232 := by have := sized_string hsz (j := 0) (t := 9) rfl rfl; simpa [reachBytes] using this
  obtain ⟨a1, rfl, rfl, rfl, w1⟩ := open_int Try.underlying3 (hval 1 3 v1 rfl rfl) h1
  have b1 : -9223372036854775808 ≤ a1 ∧ a1 ≤ 9223372036854775807 := by simpa [Lit.wf, IntKind.min, IntKind.max, IntKind.signed, IntKind.bits] using w1
  obtain ⟨a2, rfl, rfl, rfl, w2⟩ := open_int Try.underlying3 (hval 2 3 v2 rfl rfl) h2
  have b2 : -9223372036854775808 ≤ a2 ∧ a2 ≤ 9223372036854775807 := by simpa [Lit.wf, IntKind.min, IntKind.max, IntKind.signed, IntKind.bits] using w2
  clear hA0 hval0 hsz0
  refine (walk a0 a1 a2 W b0 b1 b2).mono fun e W' ⟨he, bel⟩ => ?_
  subst he
  exact ⟨_, rfl, _, _, _, [], _, [], hW', trodAll_mk1 (shut_bool Try.underlying4 _), (trodAll_cons_mk (shut_string Try.underlying9 w0) (trodAll_cons_mk (shut_int Try.underlying3 w1) (trodAll_cons_mk (shut_int Try.underlying3 w2) trodAll_mk0))), rfl, bel.frame _, fun h => by cases h⟩

theorem over : Rows.frameTellsRow.holds Try.pinned (OpenSpec.ofChange Rows.frameTellsSpec) :=
  OpenClaim.holds_of_wide 6 Try.f6 rfl rfl rfl rfl rfl rfl rfl ⟨rfl, rfl, rfl, rfl, rfl⟩ rfl rfl rfl rfl rfl (by kernel_rfl) Try.func6 (by kernel_rfl)
    (of_decide_eq_true (by kernel_rfl)) (by unfold Func.isWrapper; first | (rw [if_pos (by decide +kernel)]; kernel_rfl) | (rw [if_neg (by decide +kernel)]; exact ⟨rfl, rfl⟩))
    (fun os started H enc _ => lifted os started H enc)


end Go.Proofs.Ytpalmkneaffklaa.frameTells
namespace Go.Proofs.Ytpalmkneaffklaa
/-- The statement. -/
theorem frameTells_holds : Rows.FrameTellsSaid := frameTells.over
end Go.Proofs.Ytpalmkneaffklaa
