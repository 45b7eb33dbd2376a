/-
  For all texts s and t and all three numbers: DiskSwaps answers true: a swap is whole, also behind a crash; the arguments read afterwards as before. No condition.
-/
import Derived.Test.YtjjkolbmhkkkhaaDkAwake
import Derived.Test.YtjjkolbmhkkkhaaDkMask
import Derived.Test.YtjjkolbmhkkkhaaArrS
import Derived.ProofKit
import Derived.OpenShut
import Derived.ShutString
import Derived.SizedLaws
namespace Go.Proofs.Ytjjkolbmhkkkhaa.diskSwaps
open Go.ChangeShapes Go.WideShapes Go.ChangeAt Go.RowKit
open Go.ChangeMaps (open_string shut_string)

/-- Behind so many swaps: what stands in the places i and j; all is sure. -/
def Stand (A : Nat → List UInt8) (S : Nat → Nat) (i j k : Nat) (s t : List UInt8) : Prop :=
  (∀ x, x < 256 → S x = (A x).length) ∧ (k % 2 = 0 → A i = s ∧ A j = t) ∧ (k % 2 = 1 → A i = t ∧ A j = s)
theorem Stand.next {A : Nat → List UInt8} {S : Nat → Nat} {i j k : Nat} {s t : List UInt8} (h : Stand A S i j k s t) (hi : i < 256) (hj : j < 256) (hne : i ≠ j) : Stand (swp A i j) (swp S i j) i j (k + 1) s t := by
  have e1 : swp A i j i = A j := by simp [swp]
  have q : ¬ j = i := fun e => hne e.symm
  have e2 : swp A i j j = A i := by simp [swp, q]
  refine ⟨fun x hx => by rw [swp_at, swp_at]; exact h.1 _ (swi_lt hi hj hx), fun hk => ?_, fun hk => ?_⟩
  · rw [e1, e2]; have := h.2.2 (by omega); exact ⟨this.2, this.1⟩
  · rw [e1, e2]; have := h.2.1 (by omega); exact ⟨this.2, this.1⟩
theorem Stand.crash {A : Nat → List UInt8} {S : Nat → Nat} {i j k : Nat} {s t : List UInt8} (h : Stand A S i j k s t) (c : UInt8) : crTo c ⟨A, S, []⟩ 256 = ⟨A, S, []⟩ :=
  crTo_rest c ⟨A, S, []⟩ ⟨A, S, []⟩ 0 rfl (fun i _ hi => (h.1 i hi).symm) 256 (by omega) (by omega)
theorem bytes_all (s : ByteArray) (l : List UInt8) (h : l = s.data.toList) : (⟨((l.drop 0).take s.size).toArray⟩ : ByteArray) = s := by
  subst h
  have : s.size = s.data.toList.length := by simp
  rw [List.drop_zero, this, List.take_length]

theorem Crash_nil {w : World} {b room i j k : Nat} {A : Nat → List UInt8} {S : Nat → Nat} {s t : List UInt8} (h : Dq w b room A S) (hs : Stand A S i j k s t) :
    Calls Try.prog 15 #[.pointer (some ⟨b, 0, none⟩), .slice none 0 0, .int .i64 0] w fun e w' => e = .returned (.int .i64 0) ∧ Dq w' b room A S ∧ Below b w w' := by
  have := Crash_yes h 0 (.slice none 0 0) [] 0 ⟨none, 0, rfl, Nat.le_refl _, by omega, by simp, .inl rfl⟩ (fun e => absurd rfl e)
  rw [hs.crash] at this
  refine this.mono ?_
  rintro e w' ⟨rfl, h1, h2⟩
  exact ⟨rfl, h1.q, h2.q h.lt⟩

theorem Swap_q {w : World} {b room i j : Nat} {A : Nat → List UInt8} {S : Nat → Nat} (h : Dq w b room A S) (hi : i < 256) (hj : j < 256) (hl : S i = (A i).length ∧ S j = (A j).length) (hne : i ≠ j) :
    Calls Try.prog 18 #[.pointer (some ⟨b, 0, none⟩), .int .i64 (i : Int), .int .i64 (j : Int)] w fun e w' => e = .returned (.int .i64 0) ∧ Dq w' b room (swp A i j) (swp S i j) ∧ Below b w w' := by
  refine (Swap_yes h i j hi hj hl hne).mono ?_
  rintro e w' ⟨rfl, h1, h2⟩
  exact ⟨rfl, h1, h2.q h.lt⟩

theorem Bytes_whole {w : World} {b room : Nat} {A : Nat → List UInt8} {S : Nat → Nat} (h : Dq w b room A S) (i : Nat) (hi : i < 256) (s : ByteArray) (hs : A i = s.data.toList) :
    Calls Try.prog 17 #[.pointer (some ⟨b, 0, none⟩), .int .i64 (i : Int), .int .i64 0, .int .i64 (s.size : Int)] w fun e w' => e = .returned (.tuple #[.string s, .int .i64 0]) ∧ w' = w := by
  have := Bytes_yes h i hi 0 s.size (by rw [hs]; simp)
  rw [bytes_all s (A i) hs] at this
  exact this

theorem start {i j : Nat} (hne : i ≠ j) (s t : ByteArray) (A : Nat → List UInt8) (hA : A = upd (upd (fun _ => []) i ([] ++ s.data.toList)) j (upd (fun _ => []) i ([] ++ s.data.toList) j ++ t.data.toList)) :
    Stand A (fun x => if x < 256 then (A x).length else 0) i j 0 s.data.toList t.data.toList := by
  refine ⟨fun x hx => if_pos hx, fun _ => ⟨?_, ?_⟩, fun h => by omega⟩
  · rw [hA, upd_other _ _ hne, upd_same]; rfl
  · rw [hA, upd_same, upd_other _ _ (fun e => hne e.symm)]; rfl

theorem tot_first {i : Nat} (hi : i < 256) (s : ByteArray) : tot (upd (fun _ => []) i ([] ++ s.data.toList)) = s.size := by
  have h1 := tot_upd (fun _ => []) hi ([] ++ s.data.toList)
  have h2 : tot (fun _ => []) = 0 := totTo_nil 256
  rw [h2] at h1
  simpa using h1

set_option maxHeartbeats 800000 in
set_option maxRecDepth 20000 in
theorem walk (a0 a1 : ByteArray) (a2 c2 e2 : Int) (w : World) (b0 : a0.size ≤ 140737488351232) (b1 : a1.size ≤ 140737488351232)
    (_b2 : (-9223372036854775808 ≤ a2 ∧ a2 ≤ 9223372036854775807) ∧ (-9223372036854775808 ≤ c2 ∧ c2 ≤ 9223372036854775807) ∧ (-9223372036854775808 ≤ e2 ∧ e2 ≤ 9223372036854775807)) :
    Calls Try.prog 5 #[.string a0, .string a1, .agg #[.int .i64 a2, .int .i64 c2, .int .i64 e2]] w fun e w' => e = .returned (.bool true) ∧ Below w.heap.size w w' := by
  have HA : Hid (∀ W : World, Calls Try.prog 10 #[] W fun e w' => e = .returned (.bool true) ∧ Below W.heap.size W w') := awake3
  obtain ⟨i, hi⟩ : ∃ i : Nat, (i : Int) = a2 % 256 := ⟨(a2 % 256).toNat, by omega⟩
  obtain ⟨j, hj⟩ : ∃ j : Nat, (j : Int) = c2 % 256 := ⟨(c2 % 256).toNat, by omega⟩
  obtain ⟨n, hn⟩ : ∃ n : Nat, (n : Int) = e2 % 8 := ⟨(e2 % 8).toNat, by omega⟩
  have hi4 : i < 256 := by omega
  have hj4 : j < 256 := by omega
  have hn4 : n < 8 := by omega
  have d1 : bits BinOp.and IntKind.i64 a2 255 = (i : Int) := by rw [and_255, hi]
  have d2 : bits BinOp.and IntKind.i64 c2 255 = (j : Int) := by rw [and_255, hj]
  have d3 : bits BinOp.and IntKind.i64 e2 7 = (n : Int) := by rw [and_7, hn]
  have d4 : bits BinOp.and IntKind.i64 (n : Int) 1 = ((n % 2 : Nat) : Int) := by rw [and_1]; omega
  clear hi hj hn _b2
  go_enter Try.func5, Try.ntmps5
  go_wp2_with fail
  obtain ⟨w0, hw0⟩ : ∃ w0, w0 = w.alloc (.cells #[.int .i64 a2, .int .i64 c2, .int .i64 e2] 49) := ⟨_, rfl⟩
  obtain ⟨p, hp⟩ : ∃ p, p = w.heap.size := ⟨_, rfl⟩
  have x0 : w0.cell? ⟨p, 0, none⟩ = some (.int .i64 a2) := by rw [hw0, hp, World.cell?_alloc_mark]; rfl
  have x1 : w0.cell? ⟨p, 1, none⟩ = some (.int .i64 c2) := by rw [hw0, hp, World.cell?_alloc_mark]; rfl
  have x2 : w0.cell? ⟨p, 2, none⟩ = some (.int .i64 e2) := by rw [hw0, hp, World.cell?_alloc_mark]; rfl
  have hb0 : Below p w w0 := by rw [hw0, hp]; exact (Below.refl _ _).alloc (Nat.le_refl _) _
  have hpb : p < w0.heap.size := by rw [hw0, hp]; simp
  rw [← hw0, ← hp]
  obtain ⟨b, hb⟩ : ∃ b, b = w0.heap.size := ⟨_, rfl⟩
  have hnew := New_q 1048576 w0 (by omega)
  rw [← hb] at hnew hpb
  have HNew : Hid _ := hnew
  have HB0 : Hid (Below p w w0) := hb0
  have HP : Hid (p = w.heap.size) := hp
  have X : Hid (∀ W : World, Below b w0 W → W.cell? ⟨p, 0, none⟩ = some (.int .i64 a2) ∧ W.cell? ⟨p, 1, none⟩ = some (.int .i64 c2) ∧ W.cell? ⟨p, 2, none⟩ = some (.int .i64 e2)) := by
    intro W hW
    exact ⟨by rw [hW.cell (p := ⟨p, 0, none⟩) hpb]; exact x0, by rw [hW.cell (p := ⟨p, 1, none⟩) hpb]; exact x1, by rw [hW.cell (p := ⟨p, 2, none⟩) hpb]; exact x2⟩
  have HE : Hid (∀ W W' : World, Below b w0 W → Below W.heap.size W W' → b ≤ W.heap.size → Below w.heap.size w W') := by
    intro W W' h1 h2 h3
    rw [← HP.out]
    exact HB0.out.trans ((h1.mono (Nat.le_of_lt hpb)).trans (h2.mono (by omega)))
  clear hw0 hp x0 x1 x2 hb0 hb hnew
  refine Calls.mono HNew.out ?_
  rintro e w1 ⟨rfl, h1, hb1⟩
  obtain ⟨x0, x1, x2⟩ := X.out w1 hb1
  have H1 : Hid (Dq w1 b 1048576 (fun _ => []) (fun _ => 0)) := h1
  have B1 : Hid (Below b w0 w1) := hb1
  clear h1 hb1 HNew
  by_cases hbig : 65536 < a0.size + a1.size
  · have t1 : decide (65536 < (a0.size : Int) + (a1.size : Int)) = true := by simp; omega
    clear hbig
    go_wp2_with fail
    refine (HA.out _).mono ?_
    rintro e w3 ⟨rfl, hb3⟩
    have HB3 : Hid _ := hb3
    clear hb3
    go_wp2
    go_ret
    exact ⟨rfl, HE.out _ _ B1.out HB3.out (Nat.le_of_lt H1.out.lt)⟩
  · have t1 : decide (65536 < (a0.size : Int) + (a1.size : Int)) = false := by simp; omega
    have hs1 : a0.size ≤ 65536 := by omega
    have hs2 : a1.size ≤ 65536 := by omega
    clear b0 b1
    by_cases hij : i = j
    · subst hij
      go_wp2
      go_region
      go_wp2_with fail
      refine (HA.out _).mono ?_
      rintro e w3 ⟨rfl, hb3⟩
      have HB3 : Hid _ := hb3
      clear hb3
      go_wp2
      go_ret
      exact ⟨rfl, HE.out _ _ B1.out.drew HB3.out (Nat.le_of_lt H1.out.lt)⟩
    · have t2 : ((i : Int) == (j : Int)) = false := by simp; omega
      have HI : Hid (i ≠ j) := hij
      have hadd := Add_q (Dk.drew H1.out) i hi4 a0 (by rw [show tot (fun _ => []) = 0 from totTo_nil 256]; omega)
      have HAdd : Hid _ := hadd
      clear hadd hbig
      go_wp2
      go_region
      go_wp2_with fail
      refine Calls.mono HAdd.out ?_
      rintro e w2 ⟨rfl, h2, hb2⟩
      have H2 : Hid (Dq w2 b 1048576 (upd (fun _ => []) i ([] ++ a0.data.toList)) (fun _ => 0)) := h2
      have B2 : Hid (Below b w0 w2) := B1.out.drew.trans hb2
      clear h2 hb2
      go_wp2_with fail
      refine (Add_q H2.out j hj4 a1 (by rw [tot_first hi4]; omega)).mono ?_
      rintro e w3 ⟨rfl, h3, hb3⟩
      obtain ⟨A, hA⟩ : ∃ A, A = upd (upd (fun _ => []) i ([] ++ a0.data.toList)) j (upd (fun _ => []) i ([] ++ a0.data.toList) j ++ a1.data.toList) := ⟨_, rfl⟩
      rw [← hA] at h3
      have H3 : Hid (Dq w3 b 1048576 A (fun _ => 0)) := h3
      have B3 : Hid (Below b w0 w3) := B2.out.trans hb3
      have HS : Hid (Stand A (fun x => if x < 256 then (A x).length else 0) i j 0 a0.data.toList a1.data.toList) := start HI.out a0 a1 A hA
      clear h3 hb3 hA
      go_wp2_with fail
      refine (Sync_q H3.out).mono ?_
      rintro e w4 ⟨rfl, h4, hb4⟩
      have H4 : Hid (Dq w4 b 1048576 A (fun x => if x < 256 then (A x).length else 0)) := h4
      have B4 : Hid (Below b w0 w4) := B3.out.trans hb4
      clear h4 hb4
      go_wp2
      go_loopw [12] (fun x wr => ∃ (k : Nat) (A : Nat → List UInt8) (S : Nat → Nat), k ≤ n ∧ x = .int .i64 (k : Int) ∧ Hid (Stand A S i j k a0.data.toList a1.data.toList) ∧ Hid (Dq wr b 1048576 A S) ∧ Hid (Below b w0 wr)) (fun x _ => n - (intOf x).toNat)
      case atStart => exact ⟨0, A, _, by omega, rfl, HS, H4, B4⟩
      case round =>
        clear HS H4 B4 H3 B3 H2 B2 H1 B1
        obtain ⟨k, A, S, hk, rfl, HS, HD, HW⟩ := hrel
        by_cases hlt : k < n
        · have HSw : Hid _ := Swap_q HD.out hi4 hj4 ⟨HS.out.1 i hi4, HS.out.1 j hj4⟩ HI.out
          go_wp2_with fail
          refine Calls.mono HSw.out ?_
          rintro e w5 ⟨rfl, h5, hb5⟩
          have H5 : Hid _ := h5
          have B5 : Hid _ := HW.out.trans hb5
          clear h5 hb5
          go_wp2
          go_roundw
          case rel => exact ⟨k + 1, _, _, by omega, by go_num, HS.out.next hi4 hj4 HI.out, H5.out, B5.out⟩
          case measure => simp [intOf]; omega
        · have e : k = n := by omega
          subst e
          have HCr : Hid _ := Crash_nil HD.out HS.out
          go_wp2_with fail
          refine Calls.mono HCr.out ?_
          rintro e w5 ⟨rfl, h5, hb5⟩
          have H5 : Hid (Dq w5 b 1048576 A S) := h5
          have B5 : Hid (Below b w0 w5) := HW.out.trans hb5
          clear h5 hb5
          by_cases hpar : k % 2 = 1
          · have d5 : bits BinOp.and IntKind.i64 (k : Int) 1 = 1 := by rw [d4, hpar]; rfl
            clear d4
            have q1 := (HS.out.2.2 (by omega))
            have HBa : Hid _ := Bytes_whole H5.out j hj4 a0 q1.2
            have HBb : Hid _ := Bytes_whole H5.out i hi4 a1 q1.1
            clear q1
            go_wp2_with fail
            refine Calls.mono HBa.out ?_
            rintro e w6 ⟨rfl, rfl⟩
            go_wp2_with fail
            refine Calls.mono HBb.out ?_
            rintro e w6 ⟨rfl, rfl⟩
            go_wp2_with fail
            refine (HA.out _).mono ?_
            rintro e w7 ⟨rfl, hb7⟩
            have HB7 : Hid _ := hb7
            clear hb7
            go_wp2
            go_ret
            exact ⟨rfl, HE.out _ _ B5.out HB7.out (Nat.le_of_lt H5.out.lt)⟩
          · have d5 : bits BinOp.and IntKind.i64 (k : Int) 1 = 0 := by rw [d4, show k % 2 = 0 by omega]; rfl
            clear d4
            have q1 := (HS.out.2.1 (by omega))
            have HBa : Hid _ := Bytes_whole H5.out i hi4 a0 q1.1
            have HBb : Hid _ := Bytes_whole H5.out j hj4 a1 q1.2
            clear q1
            go_wp2_with fail
            refine Calls.mono HBa.out ?_
            rintro e w6 ⟨rfl, rfl⟩
            go_wp2_with fail
            refine Calls.mono HBb.out ?_
            rintro e w6 ⟨rfl, rfl⟩
            go_wp2_with fail
            refine (HA.out _).mono ?_
            rintro e w7 ⟨rfl, hb7⟩
            have HB7 : Hid _ := hb7
            clear hb7
            go_wp2
            go_ret
            exact ⟨rfl, HE.out _ _ B5.out HB7.out (Nat.le_of_lt H5.out.lt)⟩

theorem laidOut : laidOutB Try.prog = true := by kernel_rfl

theorem own : ownKnob Try.prog.godebug = none := by kernel_rfl

set_option maxRecDepth 100000 in
theorem lifted (os : Os) (started : os.Started) (H : Type) (enc : TypeId × Value → H) :
    ReturnsInHanded {} Try.checked os 5 .any (Rows.diskSwapsSpec.pre6 enc Try.prog Try.f5 Rows.diskSwapsRow.domain false) (Rows.diskSwapsSpec.post enc Try.prog Try.f5 false true false false) := by
  refine returnsInHanded_of_change_sized (C := Try.checked) own started (by kernel_rfl) Try.func5
    (ChangeSpec.witness6 (enc := enc) (C := Try.checked) false ⟨#[], #[.string ByteArray.empty, .string ByteArray.empty, .agg #[.int .i64 0, .int .i64 0, .int .i64 0]], []⟩ 8 (by kernel_rfl) (by kernel_rfl) (by kernel_rfl) (by kernel_rfl)) ?_
  intro W base args ds gs before hval0 hW _ hsz0 _
  have hsz : (DataW.weightsEach Try.prog (Try.f5.params.toList ++ Rows.diskSwapsSpec.plain.varTypes Try.prog) (ds ++ gs)).all (· ≤ reachBytes) = true := hsz0
  have hval : ∀ (j : Nat) t v, Try.f5.params[j]? = some t → args[j]? = some v → Value.okWide Try.prog W .any base t v := hval0
  have hW' := hW
  obtain ⟨p, q, hA0, hV, rfl, hfz, hnd⟩ := hW
  have hA : DataW.TrodAll enc Try.prog W 0 (fun _ => true) true Try.f5.params.toList args.toList ds p := hA0
  rw [Try.params5] at hA hval hsz
  obtain ⟨v0, vs0, d0, ds0, p0, q0, hargs, rfl, rfl, h0, r0⟩ := trodAll_cons hA
  obtain ⟨v1, vs1, d1, ds1, p1, q1, rfl, rfl, rfl, h1, r1⟩ := trodAll_cons r0
  obtain ⟨v2, vs2, d2, ds2, p2, q2, rfl, rfl, rfl, h2, r2⟩ := trodAll_cons r1
  obtain ⟨rfl, rfl, rfl⟩ := trodAll_nil r2
  obtain rfl : args = #[v0, v1, v2] := by cases args; simp_all
  obtain ⟨rfl, rfl⟩ := trodVars_none hV
  obtain ⟨a0, rfl, rfl, rfl, w0⟩ := open_string Try.underlying9 (hval 0 9 v0 rfl rfl) h0
  have b0 : a0.size ≤ 140737488351232 := by have := sized_string hsz (j := 0) (t := 9) rfl rfl; simpa [reachBytes] using this
  obtain ⟨a1, rfl, rfl, rfl, w1⟩ := open_string Try.underlying9 (hval 1 9 v1 rfl rfl) h1
  have b1 : a1.size ≤ 140737488351232 := by have := sized_string hsz (j := 1) (t := 9) rfl rfl; simpa [reachBytes] using this
  have k2 := h2
  have lt2 : ∀ x ∈ p2, x.block < W.heap.size := by obtain ⟨m, hm⟩ := k2; exact DataW.trod_lt m _ _ _ hm
  obtain ⟨a2, c2, e2, rfl, b2⟩ := open_arr3 Try.underlying49 Try.underlying3 (by kernel_rfl) (by kernel_rfl) (hval 2 49 v2 rfl rfl) h2
  clear hA0 hval0 hsz0
  refine (walk a0 a1 a2 c2 e2 W b0 b1 b2).mono fun e W' ⟨he, bel⟩ => ?_
  subst he
  exact ⟨_, rfl, _, _, _, [], _, [], hW', trodAll_mk1 (shut_bool Try.underlying4 _), (trodAll_cons_mk (shut_string Try.underlying9 w0) (trodAll_cons_mk (shut_string Try.underlying9 w1) (trodAll_cons_mk (Below.trod laidOut (by kernel_rfl) (of_decide_eq_true (by kernel_rfl)) k2 bel lt2) trodAll_mk0))), rfl, bel.frame _, fun h => by cases h⟩

theorem over : Rows.diskSwapsRow.holds Try.pinned (OpenSpec.ofChange Rows.diskSwapsSpec) :=
  OpenClaim.holds_of_wide 5 Try.f5 rfl rfl rfl rfl rfl rfl rfl ⟨rfl, rfl, rfl, rfl, rfl⟩ rfl rfl rfl rfl rfl (by kernel_rfl) Try.func5 (by kernel_rfl)
    (of_decide_eq_true (by kernel_rfl)) (by unfold Func.isWrapper; first | (rw [if_pos (by decide +kernel)]; kernel_rfl) | (rw [if_neg (by decide +kernel)]; exact ⟨rfl, rfl⟩))
    (fun os started H enc _ => lifted os started H enc)


end Go.Proofs.Ytjjkolbmhkkkhaa.diskSwaps
namespace Go.Proofs.Ytjjkolbmhkkkhaa
/-- The statement. -/
theorem diskSwaps_holds : Rows.DiskSwapsSaid := diskSwaps.over
end Go.Proofs.Ytjjkolbmhkkkhaa
