/-
  For every number room and all texts: DiskRoom answers true: the bytes of all files are never more than the room, and what does not fit changes nothing; the arguments read afterwards as before. No condition.
-/
import Derived.Test.YtjjkolbmhkkkhaaDkAwake
import Derived.Test.YtjjkolbmhkkkhaaDkMask
import Derived.Test.YtjjkolbmhkkkhaaArrS
import Derived.ProofKit
import Derived.OpenShut
import Derived.ShutString
import Derived.SizedLaws
namespace Go.Proofs.Ytjjkolbmhkkkhaa.diskRoom
open Go.ChangeShapes Go.WideShapes Go.ChangeAt Go.RowKit
open Go.ChangeMaps (open_string shut_string)

set_option maxHeartbeats 800000 in
set_option maxRecDepth 20000 in
theorem walk (a0 : Int) (v1 : Value) (a1 : List ByteArray) (w : World) (_b0 : -9223372036854775808 ≤ a0 ∧ a0 ≤ 9223372036854775807) (b1 : Strs w v1 a1) :
    Calls Try.prog 6 #[.int .i64 a0, v1] w fun e w' => e = .returned (.bool true) ∧ Below w.heap.size w w' := by
  have HA : Hid (∀ W : World, Calls Try.prog 10 #[] W fun e w' => e = .returned (.bool true) ∧ Below W.heap.size W w') := awake3
  obtain ⟨m, hm⟩ : ∃ m : Nat, (m : Int) = a0 % 1024 := ⟨(a0 % 1024).toNat, by omega⟩
  have hand : bits BinOp.and IntKind.i64 a0 1023 = (m : Int) := by rw [and_1023, hm]
  have hm4 : m ≤ 1023 := by omega
  obtain ⟨ao, c, hv, hc1, hc2, hsz, hcell⟩ := b1
  obtain ⟨n, hn⟩ : ∃ n, n = a1.length := ⟨_, rfl⟩
  rw [← hn] at hv
  subst hv
  have hnew := New_q (1 + m) w (by omega)
  rw [show ((1 + m : Nat) : Int) = 1 + (m : Int) by omega] at hnew
  obtain ⟨b, hb⟩ : ∃ b, b = w.heap.size := ⟨_, rfl⟩
  rw [← hb] at hnew ⊢
  have HNew : Hid _ := hnew
  have HN : Hid (n = a1.length) := hn
  have HC : Hid (a1 = [] ∨ ∃ g o, ao = some ⟨g, o, none⟩ ∧ g < b ∧ ∀ j (h : j < a1.length), w.cell? ⟨g, o + j, none⟩ = some (.string a1[j])) := by show _ ∨ _; rw [hb]; exact hcell
  have HS : Hid (∀ s ∈ a1, s.size ≤ maxLen) := hsz
  have HB : Hid (b = w.heap.size) := hb
  unfold maxLen at hc2
  have hn63 : n ≤ 9223372036854775807 := by omega
  clear hm hn hnew hb hcell hsz _b0 hc1 hc2
  go_enter Try.func6, Try.ntmps6
  go_wp2_with fail
  refine Calls.mono HNew.out ?_
  rintro e w0 ⟨rfl, h1, hb1⟩
  have H1 : Hid (Dq w0 b (1 + m) (fun _ => []) (fun _ => 0)) := h1
  have B1 : Hid (Below b w w0) := hb1
  clear h1 hb1 HNew hand
  go_wp2
  go_loopw [8, 9] (fun u i wr => ∃ (k t : Nat) (A : Nat → List UInt8) (S : Nat → Nat), k ≤ n ∧ k ≤ 100 ∧ i = .int .i64 (k : Int) ∧ u = .int .i64 (t : Int) ∧ t ≤ 1 + m ∧ Hid (t = tot A) ∧ Hid (Dq wr b (1 + m) A S) ∧ Hid (Below b w wr)) (fun _ i _ => 100 - (intOf i).toNat)
  case atStart => exact ⟨0, 0, fun _ => [], fun _ => 0, by omega, by omega, rfl, rfl, by omega, (totTo_nil 256).symm, H1, B1⟩
  case round =>
    clear H1 B1
    obtain ⟨k, t, A, S, hk, hk1, rfl, rfl, ht, HT, HD, HW⟩ := hrel
    by_cases hlt : k < n
    · by_cases hlt2 : k < 100
      · have hk1' : k < a1.length := by rw [← HN.out]; exact hlt
        obtain ⟨s, hs⟩ : ∃ s, s = a1[k] := ⟨_, rfl⟩
        rcases HC.out with e0 | ⟨g, o, hao, hg, hcell⟩
        · exfalso; rw [e0] at hk1'; simp at hk1'
        have hck : wr.cell? ⟨g, o + k, none⟩ = some (.string s) := by rw [HW.out.cell (p := ⟨g, o + k, none⟩) hg, hcell k hk1', hs]
        have hs63 : s.size ≤ 9223372036854775807 := by have := HS.out s (by rw [hs]; exact List.getElem_mem _); unfold maxLen at this; omega
        subst hao
        obtain ⟨l, hl⟩ : ∃ l, l = (A k).length := ⟨_, rfl⟩
        have hsize := Size_yes HD.out k (by omega)
        rw [← hl] at hsize
        obtain ⟨s0, hs0⟩ : ∃ s0, s0 = S k := ⟨_, rfl⟩
        rw [← hs0] at hsize
        have HSize : Hid _ := hsize
        clear hcell hs hsize hk1'
        have hlr : l ≤ 1 + m := by rw [hl]; obtain ⟨V, hV⟩ := HD.out; exact (hV.len (by omega)).1
        by_cases hfit : t + s.size ≤ 1 + m
        · have HAdd : Hid _ := Add_q (Dk.drew HD.out) k (by omega) s (by rw [← HT.out]; exact hfit)
          have HLn : Hid (l = (A k).length) := hl
          have hsr : s.size ≤ 1 + m := by omega
          clear hl hs63
          go_wp2_with fail
          refine Calls.mono HSize.out ?_
          rintro e w1 ⟨rfl, rfl⟩
          go_wp2_with fail
          refine Calls.mono HAdd.out ?_
          rintro e w1 ⟨rfl, h2, hb2⟩
          have H2 : Hid (Dq w1 b (1 + m) (upd A k (A k ++ s.data.toList)) S) := h2
          have B2 : Hid (Below b w w1) := HW.out.drew.trans hb2
          have hck1 : w1.cell? ⟨g, o + k, none⟩ = some (.string s) := by rw [hb2.cell (p := ⟨g, o + k, none⟩) hg]; exact hck
          have hsl : s.data.toList.length = s.size := by simp
          have htot := tot_upd A (by omega : k < 256) (A k ++ s.data.toList)
          rw [List.length_append, hsl, ← HT.out] at htot
          have HT2 : Hid (tot (upd A k (A k ++ s.data.toList)) = t + s.size) := by show _ = _; omega
          have hz2 := Size_yes H2.out k (by omega)
          rw [upd_same, List.length_append, hsl, ← HLn.out, Int.natCast_add, ← hs0] at hz2
          have hu2 := Used_yes (Dk.drew H2.out)
          rw [HT2.out, Int.natCast_add] at hu2
          have HZ2 : Hid _ := hz2
          have HU2 : Hid _ := hu2
          clear h2 hb2 hck hsl htot hz2 hu2
          go_wp2_with fail
          refine Calls.mono HZ2.out ?_
          rintro e w2 ⟨rfl, rfl⟩
          go_wp2_with fail
          refine Calls.mono HU2.out ?_
          rintro e w2 ⟨rfl, rfl⟩
          go_wp2
          go_roundw
          case rel => exact ⟨k + 1, t + s.size, _, S, by omega, by omega, by go_num, by go_num, by omega, HT2.out.symm, Dk.drew H2.out, B2.out.drew⟩
          case measure => simp [intOf]; omega
        · have HAdd : Hid _ := Add_full (Dk.drew HD.out) k (by omega) s (by rw [← HT.out]; omega)
          have hz2 := Size_yes (Dk.drew (Dk.drew HD.out)) k (by omega)
          rw [← hl, ← hs0] at hz2
          have hu2 := Used_yes (Dk.drew (Dk.drew (Dk.drew HD.out)))
          rw [← HT.out] at hu2
          have HZ2 : Hid _ := hz2
          have HU2 : Hid _ := hu2
          have hnf : 1 + m < t + s.size := by omega
          clear hl hz2 hu2 hs0 hfit
          by_cases hmn : 1 + m + 1 < s.size
          · go_wp2_with fail
            refine Calls.mono HSize.out ?_
            rintro e w1 ⟨rfl, rfl⟩
            go_wp2_with fail
            refine Calls.mono HAdd.out ?_
            rintro e w1 ⟨rfl, rfl⟩
            go_wp2_with fail
            refine Calls.mono HZ2.out ?_
            rintro e w2 ⟨rfl, rfl⟩
            go_wp2_with fail
            refine Calls.mono HU2.out ?_
            rintro e w2 ⟨rfl, rfl⟩
            go_wp2
            go_roundw
            case rel => exact ⟨k + 1, t, _, S, by omega, by omega, by go_num, rfl, by omega, HT, Dk.drew (Dk.drew (Dk.drew HD.out)), HW.out.drew.drew.drew⟩
            case measure => simp [intOf]; omega
          · go_wp2_with fail
            refine Calls.mono HSize.out ?_
            rintro e w1 ⟨rfl, rfl⟩
            go_wp2_with fail
            refine Calls.mono HAdd.out ?_
            rintro e w1 ⟨rfl, rfl⟩
            go_wp2_with fail
            refine Calls.mono HZ2.out ?_
            rintro e w2 ⟨rfl, rfl⟩
            go_wp2_with fail
            refine Calls.mono HU2.out ?_
            rintro e w2 ⟨rfl, rfl⟩
            go_wp2
            go_roundw
            case rel => exact ⟨k + 1, t, _, S, by omega, by omega, by go_num, rfl, by omega, HT, Dk.drew (Dk.drew (Dk.drew HD.out)), HW.out.drew.drew.drew⟩
            case measure => simp [intOf]; omega
      · have e : k = 100 := by omega
        subst e
        go_wp2_with fail
        refine (HA.out _).mono ?_
        rintro e w3 ⟨rfl, hb3⟩
        have HB3 : Hid _ := hb3
        clear hb3
        go_wp2
        go_ret
        exact ⟨rfl, HW.out.trans (HB3.out.mono (by have := (Dk.lt HD.out); omega))⟩
    · have e : k = n := by omega
      subst e
      go_wp2_with fail
      refine (HA.out _).mono ?_
      rintro e w3 ⟨rfl, hb3⟩
      have HB3 : Hid _ := hb3
      clear hb3
      go_wp2
      go_ret
      exact ⟨rfl, HW.out.trans (HB3.out.mono (by have := (Dk.lt HD.out); omega))⟩

theorem laidOut : laidOutB Try.prog = true := by kernel_rfl

theorem own : ownKnob Try.prog.godebug = none := by kernel_rfl

set_option maxRecDepth 100000 in
theorem lifted (os : Os) (started : os.Started) (H : Type) (enc : TypeId × Value → H) :
    ReturnsInHanded {} Try.checked os 6 .any (Rows.diskRoomSpec.pre6 enc Try.prog Try.f6 Rows.diskRoomRow.domain false) (Rows.diskRoomSpec.post enc Try.prog Try.f6 false true false false) := by
  refine returnsInHanded_of_change_sized (C := Try.checked) own started (by kernel_rfl) Try.func6
    (ChangeSpec.witness6 (enc := enc) (C := Try.checked) false ⟨#[], #[.int .i64 0, .slice none 0 0], []⟩ 8 (by kernel_rfl) (by kernel_rfl) (by kernel_rfl) (by kernel_rfl)) ?_
  intro W base args ds gs before hval0 hW _ hsz0 _
  have hsz : (DataW.weightsEach Try.prog (Try.f6.params.toList ++ Rows.diskRoomSpec.plain.varTypes Try.prog) (ds ++ gs)).all (· ≤ reachBytes) = true := hsz0
  have hval : ∀ (j : Nat) t v, Try.f6.params[j]? = some t → args[j]? = some v → Value.okWide Try.prog W .any base t v := hval0
  have hW' := hW
  obtain ⟨p, q, hA0, hV, rfl, hfz, hnd⟩ := hW
  have hA : DataW.TrodAll enc Try.prog W 0 (fun _ => true) true Try.f6.params.toList args.toList ds p := hA0
  rw [Try.params6] at hA hval hsz
  obtain ⟨v0, vs0, d0, ds0, p0, q0, hargs, rfl, rfl, h0, r0⟩ := trodAll_cons hA
  obtain ⟨v1, vs1, d1, ds1, p1, q1, rfl, rfl, rfl, h1, r1⟩ := trodAll_cons r0
  obtain ⟨rfl, rfl, rfl⟩ := trodAll_nil r1
  obtain rfl : args = #[v0, v1] := by cases args; simp_all
  obtain ⟨rfl, rfl⟩ := trodVars_none hV
  obtain ⟨a0, rfl, rfl, rfl, w0⟩ := open_int Try.underlying3 (hval 0 3 v0 rfl rfl) h0
  have b0 : -9223372036854775808 ≤ a0 ∧ a0 ≤ 9223372036854775807 := by simpa [Lit.wf, IntKind.min, IntKind.max, IntKind.signed, IntKind.bits] using w0
  have k1 := h1
  have lt1 : ∀ x ∈ p1, x.block < W.heap.size := by obtain ⟨m, hm⟩ := k1; exact DataW.trod_lt m _ _ _ hm
  obtain ⟨a1, b1⟩ := open_strsV Try.underlying27 Try.underlying9 (by kernel_rfl) (hval 1 27 v1 rfl rfl) h1
  clear hA0 hval0 hsz0
  refine (walk a0 v1 a1 W b0 b1).mono fun e W' ⟨he, bel⟩ => ?_
  subst he
  exact ⟨_, rfl, _, _, _, [], _, [], hW', trodAll_mk1 (shut_bool Try.underlying4 _), (trodAll_cons_mk (shut_int Try.underlying3 w0) (trodAll_cons_mk (Below.trod laidOut (by kernel_rfl) (of_decide_eq_true (by kernel_rfl)) k1 bel lt1) trodAll_mk0)), rfl, bel.frame _, fun h => by cases h⟩

theorem over : Rows.diskRoomRow.holds Try.pinned (OpenSpec.ofChange Rows.diskRoomSpec) :=
  OpenClaim.holds_of_wide 6 Try.f6 rfl rfl rfl rfl rfl rfl rfl ⟨rfl, rfl, rfl, rfl, rfl⟩ rfl rfl rfl rfl rfl (by kernel_rfl) Try.func6 (by kernel_rfl)
    (of_decide_eq_true (by kernel_rfl)) (by unfold Func.isWrapper; first | (rw [if_pos (by decide +kernel)]; kernel_rfl) | (rw [if_neg (by decide +kernel)]; exact ⟨rfl, rfl⟩))
    (fun os started H enc _ => lifted os started H enc)


end Go.Proofs.Ytjjkolbmhkkkhaa.diskRoom
namespace Go.Proofs.Ytjjkolbmhkkkhaa
/-- The statement. -/
theorem diskRoom_holds : Rows.DiskRoomSaid := diskRoom.over
end Go.Proofs.Ytjjkolbmhkkkhaa
