/-
  For every list of texts and every number: FrameCuts answers true: payloads put one behind the other and cut anywhere are scanned as those whose records are whole; the arguments read afterwards as before. No condition.
-/
import Derived.Test.YtpalmkneaffklaaFrCuts
import Derived.ProofKit
import Derived.OpenShut
import Derived.ShutString
import Derived.SizedLaws
namespace Go.Proofs.Ytpalmkneaffklaa.frameCuts
open Go.ChangeShapes Go.WideShapes Go.ChangeAt Go.RowKit Go.Deep
open Go.ChangeMaps (open_string shut_string)

theorem below4 {a b c d e : World} (h1 : Below a.heap.size a b) (h2 : Below b.heap.size b c) (h3 : Below c.heap.size c d) (h4 : Below d.heap.size d e) : Below a.heap.size a e :=
  h1.trans ((h2.trans ((h3.trans (h4.mono h3.size)).mono h2.size)).mono h1.size)

set_option maxHeartbeats 2000000 in
set_option maxRecDepth 20000 in
theorem walk (v0 : Value) (a0 : List ByteArray) (a1 : Int) (w : World) (b0 : Strs w v0 a0) (_b1 : -9223372036854775808 ≤ a1 ∧ a1 ≤ 9223372036854775807) :
    Calls Try.prog 5 #[v0, .int .i64 a1] w fun e w' => e = .returned (.bool true) ∧ Below w.heap.size w w' := by
  have HS0 : Hid (Strs w v0 a0) := b0
  obtain ⟨ao, c, rfl, hlc, hcm, hts, hcells⟩ := b0
  have hmx : a0.length ≤ 9223372036854775807 := by unfold maxLen at hcm; omega
  have hcx : c ≤ 9223372036854775807 := by unfold maxLen at hcm; omega
  have HC : Hid _ := hcells
  clear hcells hts hcm
  go_enter Try.func5, Try.ntmps5
  go_wp2
  go_loopw [5, 6, 7] (fun x v i wr => ∃ k : Nat, k ≤ a0.length ∧ k ≤ 40 ∧ i = .int .i64 (k : Int) ∧ x = .string (F.all (a0.take k)) ∧ Hid (Ce w wr a0 k v)) (fun _ _ i _ => 40 - (intOf i).toNat)
  case atStart => exact ⟨0, Nat.zero_le _, Nat.zero_le _, rfl, rfl, Ce.start w a0⟩
  case round =>
    obtain ⟨k, hk, hk40, rfl, rfl, hce⟩ := hrel
    obtain ⟨x, hx⟩ : ∃ x, x = F.all (a0.take k) := ⟨_, rfl⟩
    have hxs : x.size ≤ 41320 := by
      rw [hx, F.all_size]
      have := ended_le (a0.take k) hce.out.small
      rw [List.length_take] at this
      omega
    rw [← hx]
    by_cases hlt : k < a0.length ∧ k < 40
    · obtain ⟨hl1, hl2⟩ := hlt
      obtain ⟨g, o, e, hg, hcl⟩ := Strs.at (c := c) HC.out hl1 (by omega)
      subst e
      have hc1 : wr.cell? ⟨g, o + k, none⟩ = some (.string a0[k]) := by rw [hce.out.below.cell (p := ⟨g, o + k, none⟩) hg]; exact hcl k hl1
      obtain ⟨t, ht⟩ : ∃ t, t = a0[k] := ⟨_, rfl⟩
      rw [← ht] at hc1
      clear hcl
      by_cases h1024 : t.size ≤ 1024
      · have hd : decide ((1024 : Int) < (t.size : Int)) = false := decide_eq_false (by omega)
        have HP : Hid _ := frame_Put_yes t wr (by omega)
        have hrs := F.record_size t
        obtain ⟨r, hr⟩ : ∃ r, r = F.record t := ⟨_, rfl⟩
        rw [← hr] at HP hrs
        have hrb : r.size ≤ 1033 := by omega
        have HN : Hid (x ++ r = F.all (a0.take (k + 1))) := by
          unfold Hid
          rw [hx, hr, ht]; exact all_next a0 k hl1
        have HE : Hid ((x.size : Int) + (r.size : Int) = (F.ended (a0.take (k + 1)) : Int)) := by
          unfold Hid
          rw [← F.all_size, ← HN.out, ByteArray.size_append]; omega
        have HT : Hid (a0[k].size ≤ 1024) := by rw [← ht]; exact h1024
        have HK : Hid (k < a0.length) := hl1
        clear hr hx ht hrs
        go_wp2_with fail
        refine Calls.mono HP.out ?_
        rintro e w1 ⟨rfl, hb1⟩
        have HC1 : Hid _ := hce.out.below' hb1
        have hsz := HC1.out.below.size
        clear hb1
        go_wp2_with (at_builtin; refine wpList_append_cell rfl (.tmp 45) (.tmp 48) 34 3 rfl Try.underlying34 (.int .i64 0) 8 (by kernel_rfl) rfl w.heap.size u6 (endsRow a0 k) (by simp [Act.eval]) HC1.out.row (.int .i64 ((x.size : Int) + (r.size : Int))) rfl (by simp [Act.eval]) (by rw [endsRow_len]; omega) (by rw [endsRow_len]; unfold maxLen; omega) hsz ?_; intro v' w2 ho hg _; rw [HE.out] at ho; have HC2 : Hid _ := HC1.out.push hg HK.out HT.out ho; clear ho hg)
        go_roundw
        case rel => exact ⟨k + 1, by omega, by omega, by go_num, by rw [HN.out], HC2⟩
        case measure => simp [intOf]; omega
      · have hd : decide ((1024 : Int) < (t.size : Int)) = true := decide_eq_true (by omega)
        clear ht hx
        go_wp2_with fail
        refine (awake4 _).mono ?_
        rintro e w2 ⟨rfl, hb2⟩
        have HB2 : Hid _ := hb2
        clear hb2
        go_wp2
        go_ret
        exact ⟨rfl, hce.out.below.trans (HB2.out.mono hce.out.below.size)⟩
    · obtain ⟨va, vc, rfl, hends⟩ := hce.out.reads
      have hkk : (Int.tmod a1 ((x.size : Int) + 1)).natAbs < x.size + 1 := by
        rw [Int.natAbs_tmod]
        exact Nat.mod_lt _ (by omega)
      obtain ⟨y, hy⟩ : ∃ y, y = (Int.tmod a1 ((x.size : Int) + 1)).natAbs := ⟨_, rfl⟩
      have hsgn : Int.tmod a1 ((x.size : Int) + 1) = (y : Int) ∨ Int.tmod a1 ((x.size : Int) + 1) = -(y : Int) ∧ 0 < y := by omega
      have hyx : y ≤ x.size := by omega
      obtain ⟨n, hnk, hscan, hiff⟩ := cuts_scan a0 k y hce.out.small (by rw [← hx]; exact hyx) hk
      rw [← hx] at hscan
      obtain ⟨En, hEn⟩ : ∃ En, En = F.ended (a0.take n) := ⟨_, rfl⟩
      have HSc : Hid (∀ W, Calls Try.prog 14 #[.string (x.extract 0 y)] W fun e w' => ∃ v, e = .returned (.tuple #[v, .int .i64 (En : Int)]) ∧ Strs w' v (a0.take n) ∧ Below W.heap.size W w') := by
        intro W
        rw [hEn]
        have hb : (x.extract 0 y).size ≤ 1000000000 := by rw [← F.toL_length, F.toL_extract, List.length_take]; omega
        have h := frame_Scan (x.extract 0 y) W hb
        rw [hscan] at h
        exact h
      have HI : Hid _ := hiff
      have HEn : Hid _ := hends
      have HS1 : Hid (Strs wr (.slice ao n c) (a0.take n)) := (HS0.out.first n (by omega)).below (hce.out.below.mono (Nat.le_refl _))
      have hsz : Hid (Below w.heap.size w wr) := hce.out.below
      clear hkk hy hx hscan hiff hends hce
      have hE0 : n = 0 → (En : Int) = 0 := fun e => by rw [hEn, e]; rfl
      have HEE : Hid (0 < n → F.ended (a0.take (n - 1 + 1)) = En) := fun e => by rw [hEn, Nat.sub_add_cancel e]
      have HE0 : Hid _ := hE0
      clear hE0 hEn
      have hor : a0.length ≤ k ∨ (k < a0.length ∧ 40 ≤ k) := by omega
      clear hlt
      rcases hor with hor | ⟨hor, hor'⟩
      all_goals
        rcases hsgn with hsg | ⟨hsg, hy0⟩
        all_goals
          go_wp2_with fail
          refine (HSc.out _).mono ?_
          rintro e w1 ⟨v1, rfl, hs1, hb1⟩
          have HV : Hid _ := hs1
          have HB1 : Hid (Below wr.heap.size wr w1) := hb1
          have HEn1 : Hid (k = 0 ∨ ∃ g, va = some ⟨g, 0, none⟩ ∧ ∀ j, j < k → w1.cell? ⟨g, j, none⟩ = some (Value.int .i64 (F.ended (a0.take (j + 1)) : Int))) := by
            rcases HEn.out with h | ⟨g, e, hg, hcl⟩
            · exact .inl h
            · exact .inr ⟨g, e, fun j hj => by rw [hb1.cell (p := ⟨g, j, none⟩) hg]; exact hcl j hj⟩
          have HS2 : Hid (Strs w1 (.slice ao n c) (a0.take n)) := HS1.out.below hb1
          clear hs1 hb1
          go_wp2
          go_loopw [13] (fun i wx => ∃ j : Nat, j ≤ n ∧ i = .int .i64 (j : Int) ∧ wx = w1) (fun i _ => n - (intOf i).toNat)
          case atStart => exact ⟨0, Nat.zero_le _, rfl, rfl⟩
          case round =>
            obtain ⟨j, hj, rfl, hwx⟩ := hrel
            have hwy := hwx.symm
            subst hwy
            by_cases hjn : j < n
            · obtain ⟨g, e, hcl⟩ : ∃ g, va = some ⟨g, 0, none⟩ ∧ ∀ j, j < k → w1.cell? ⟨g, j, none⟩ = some (Value.int .i64 (F.ended (a0.take (j + 1)) : Int)) := by
                rcases HEn1.out with h | h
                · omega
                · exact h
              subst e
              have hc := hcl j (by omega)
              have hdec : F.ended (a0.take (j + 1)) ≤ y := (HI.out j (by omega)).2 hjn
              obtain ⟨E, hE⟩ : ∃ E, E = F.ended (a0.take (j + 1)) := ⟨_, rfl⟩
              rw [← hE] at hc hdec
              clear hcl hE
              go_wp2
              go_roundw
              case rel => exact ⟨j + 1, by omega, by go_num, trivial⟩
              case measure => simp [intOf]; omega
            · have hnj : n = j := by omega
              subst hnj
              rcases Nat.lt_or_ge n k with hnk2 | hnk2
              · obtain ⟨g, e, hcl⟩ : ∃ g, va = some ⟨g, 0, none⟩ ∧ ∀ j, j < k → w1.cell? ⟨g, j, none⟩ = some (Value.int .i64 (F.ended (a0.take (j + 1)) : Int)) := by
                  rcases HEn1.out with h | h
                  · omega
                  · exact h
                subst e
                have hc := hcl n hnk2
                have hdec : y < F.ended (a0.take (n + 1)) := by have := (HI.out n hnk2).1; omega
                obtain ⟨E, hE⟩ : ∃ E, E = F.ended (a0.take (n + 1)) := ⟨_, rfl⟩
                rw [← hE] at hc hdec
                clear hE
                rcases Nat.eq_zero_or_pos n with hn0 | hn0
                · have hE := HE0.out hn0
                  subst hn0
                  clear hcl
                  go_wp2_with fail
                  refine (ref_Same_yes w1 v1 _ (a0.take 0) HV.out HS2.out).mono ?_
                  rintro e w2 ⟨rfl, hb2⟩
                  have HB2 : Hid (Below w1.heap.size w1 w2) := hb2
                  clear hb2
                  go_wp2_with fail
                  refine (awake4 _).mono ?_
                  rintro e w3 ⟨rfl, hb3⟩
                  have HB3 : Hid (Below w2.heap.size w2 w3) := hb3
                  clear hb3
                  go_wp2
                  go_ret
                  exact ⟨rfl, below4 hsz.out HB1.out HB2.out HB3.out⟩
                · have hc2 := hcl (n - 1) (by omega)
                  rw [HEE.out hn0] at hc2
                  clear hcl
                  go_wp2_with fail
                  refine (ref_Same_yes w1 v1 _ (a0.take n) HV.out HS2.out).mono ?_
                  rintro e w2 ⟨rfl, hb2⟩
                  have HB2 : Hid (Below w1.heap.size w1 w2) := hb2
                  clear hb2
                  go_wp2_with fail
                  refine (awake4 _).mono ?_
                  rintro e w3 ⟨rfl, hb3⟩
                  have HB3 : Hid (Below w2.heap.size w2 w3) := hb3
                  clear hb3
                  go_wp2
                  go_ret
                  exact ⟨rfl, below4 hsz.out HB1.out HB2.out HB3.out⟩
              · have hkn : n = k := by omega
                rcases Nat.eq_zero_or_pos n with hn0 | hn0
                · have hE := HE0.out hn0
                  clear hkn
                  subst hn0
                  first | (exfalso; omega) | skip
                  all_goals go_wp2_with fail
                  all_goals refine (ref_Same_yes w1 v1 _ (a0.take 0) HV.out HS2.out).mono ?_
                  all_goals rintro e w2 ⟨rfl, hb2⟩
                  all_goals have HB2 : Hid (Below w1.heap.size w1 w2) := hb2
                  all_goals clear hb2
                  all_goals go_wp2_with fail
                  all_goals refine (awake4 _).mono ?_
                  all_goals rintro e w3 ⟨rfl, hb3⟩
                  all_goals have HB3 : Hid (Below w2.heap.size w2 w3) := hb3
                  all_goals clear hb3
                  all_goals go_wp2
                  all_goals go_ret
                  all_goals exact ⟨rfl, below4 hsz.out HB1.out HB2.out HB3.out⟩
                · obtain ⟨g, e, hcl⟩ : ∃ g, va = some ⟨g, 0, none⟩ ∧ ∀ j, j < k → w1.cell? ⟨g, j, none⟩ = some (Value.int .i64 (F.ended (a0.take (j + 1)) : Int)) := by
                    rcases HEn1.out with h | h
                    · omega
                    · exact h
                  subst e
                  have hc2 := hcl (n - 1) (by omega)
                  rw [HEE.out hn0] at hc2
                  clear hcl hkn
                  go_wp2_with fail
                  refine (ref_Same_yes w1 v1 _ (a0.take n) HV.out HS2.out).mono ?_
                  rintro e w2 ⟨rfl, hb2⟩
                  have HB2 : Hid (Below w1.heap.size w1 w2) := hb2
                  clear hb2
                  go_wp2_with fail
                  refine (awake4 _).mono ?_
                  rintro e w3 ⟨rfl, hb3⟩
                  have HB3 : Hid (Below w2.heap.size w2 w3) := hb3
                  clear hb3
                  go_wp2
                  go_ret
                  exact ⟨rfl, below4 hsz.out HB1.out HB2.out HB3.out⟩

theorem laidOut : laidOutB Try.prog = true := by kernel_rfl

theorem own : ownKnob Try.prog.godebug = none := by kernel_rfl

set_option maxRecDepth 100000 in
theorem lifted (os : Os) (started : os.Started) (H : Type) (enc : TypeId × Value → H) :
    ReturnsInHanded {} Try.checked os 5 .any (Rows.frameCutsSpec.pre6 enc Try.prog Try.f5 Rows.frameCutsRow.domain false) (Rows.frameCutsSpec.post enc Try.prog Try.f5 false true false false) := by
  refine returnsInHanded_of_change_sized (C := Try.checked) own started (by kernel_rfl) Try.func5
    (ChangeSpec.witness6 (enc := enc) (C := Try.checked) false ⟨#[], #[.slice none 0 0, .int .i64 0], []⟩ 8 (by kernel_rfl) (by kernel_rfl) (by kernel_rfl) (by kernel_rfl)) ?_
  intro W base args ds gs before hval0 hW _ hsz0 _
  have hsz : (DataW.weightsEach Try.prog (Try.f5.params.toList ++ Rows.frameCutsSpec.plain.varTypes Try.prog) (ds ++ gs)).all (· ≤ reachBytes) = true := hsz0
  have hval : ∀ (j : Nat) t v, Try.f5.params[j]? = some t → args[j]? = some v → Value.okWide Try.prog W .any base t v := hval0
  have hW' := hW
  obtain ⟨p, q, hA0, hV, rfl, hfz, hnd⟩ := hW
  have hA : DataW.TrodAll enc Try.prog W 0 (fun _ => true) true Try.f5.params.toList args.toList ds p := hA0
  rw [Try.params5] at hA hval hsz
  obtain ⟨v0, vs0, d0, ds0, p0, q0, hargs, rfl, rfl, h0, r0⟩ := trodAll_cons hA
  obtain ⟨v1, vs1, d1, ds1, p1, q1, rfl, rfl, rfl, h1, r1⟩ := trodAll_cons r0
  obtain ⟨rfl, rfl, rfl⟩ := trodAll_nil r1
  obtain rfl : args = #[v0, v1] := by cases args; simp_all
  obtain ⟨rfl, rfl⟩ := trodVars_none hV
  have k0 := h0
  have lt0 : ∀ x ∈ p0, x.block < W.heap.size := by obtain ⟨m, hm⟩ := k0; exact DataW.trod_lt m _ _ _ hm
  obtain ⟨a0, b0⟩ := open_strsV Try.underlying29 Try.underlying9 (by kernel_rfl) (hval 0 29 v0 rfl rfl) h0
  obtain ⟨a1, rfl, rfl, rfl, w1⟩ := open_int Try.underlying3 (hval 1 3 v1 rfl rfl) h1
  have b1 : -9223372036854775808 ≤ a1 ∧ a1 ≤ 9223372036854775807 := by simpa [Lit.wf, IntKind.min, IntKind.max, IntKind.signed, IntKind.bits] using w1
  clear hA0 hval0 hsz0
  refine (walk v0 a0 a1 W b0 b1).mono fun e W' ⟨he, bel⟩ => ?_
  subst he
  exact ⟨_, rfl, _, _, _, [], _, [], hW', trodAll_mk1 (shut_bool Try.underlying4 _), (trodAll_cons_mk (Below.trod laidOut (by kernel_rfl) (of_decide_eq_true (by kernel_rfl)) k0 bel lt0) (trodAll_cons_mk (shut_int Try.underlying3 w1) trodAll_mk0)), rfl, bel.frame _, fun h => by cases h⟩

theorem over : Rows.frameCutsRow.holds Try.pinned (OpenSpec.ofChange Rows.frameCutsSpec) :=
  OpenClaim.holds_of_wide 5 Try.f5 rfl rfl rfl rfl rfl rfl rfl ⟨rfl, rfl, rfl, rfl, rfl⟩ rfl rfl rfl rfl rfl (by kernel_rfl) Try.func5 (by kernel_rfl)
    (of_decide_eq_true (by kernel_rfl)) (by unfold Func.isWrapper; first | (rw [if_pos (by decide +kernel)]; kernel_rfl) | (rw [if_neg (by decide +kernel)]; exact ⟨rfl, rfl⟩))
    (fun os started H enc _ => lifted os started H enc)


end Go.Proofs.Ytpalmkneaffklaa.frameCuts
namespace Go.Proofs.Ytpalmkneaffklaa
/-- The statement. -/
theorem frameCuts_holds : Rows.FrameCutsSaid := frameCuts.over
end Go.Proofs.Ytpalmkneaffklaa
