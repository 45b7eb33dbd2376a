/-
  For every number n and every text s: DiskNobody answers true: a disk that nobody made answers nothing; the arguments read afterwards as before. No condition.
-/
import Derived.Test.YtjjkolbmhkkkhaaDkAwake
import Derived.Test.YtjjkolbmhkkkhaaDkTrim
import Derived.ProofKit
import Derived.OpenShut
import Derived.ShutString
import Derived.SizedLaws
namespace Go.Proofs.Ytjjkolbmhkkkhaa.diskNobody
open Go.ChangeShapes Go.WideShapes Go.ChangeAt Go.RowKit
open Go.ChangeMaps (open_string shut_string)

set_option maxHeartbeats 800000 in
set_option maxRecDepth 20000 in
theorem walk (a0 : Int) (a1 : ByteArray) (w : World) (_b0 : -9223372036854775808 ≤ a0 ∧ a0 ≤ 9223372036854775807) (_b1 : a1.size ≤ 140737488351232) :
    Calls Try.prog 7 #[.int .i64 a0, .string a1] w fun e w' => e = .returned (.bool true) ∧ Below w.heap.size w w' := by
  have HA : Hid (∀ W : World, Calls Try.prog 10 #[] W fun e w' => e = .returned (.bool true) ∧ Below W.heap.size W w') := awake3
  go_enter Try.func7, Try.ntmps7
  go_wp2_with (refine wpList_build_zero rfl rfl ?_)
  obtain ⟨w0, hw0⟩ : ∃ w0, w0 = (w.alloc (.cells (newCells 0) 59)).alloc (.cells #[.pointer none, .pointer (some ⟨w.heap.size, 0, none⟩)] 23) := ⟨_, rfl⟩
  have hbel : Below w.heap.size w w0 := by rw [hw0]; exact ((Below.refl _ _).alloc (Nat.le_refl _) _).alloc (by simp) _
  obtain ⟨b, hb⟩ : ∃ b, b = w.heap.size := ⟨_, rfl⟩
  have c0 : w0.cell? ⟨b + 1, 0, none⟩ = some (.pointer none) := by rw [hw0, hb, show w.heap.size + 1 = (w.alloc (.cells (newCells 0) 59)).heap.size by simp, World.cell?_alloc_mark]; rfl
  have c1 : w0.cell? ⟨b + 1, 1, none⟩ = some (.pointer (some ⟨b, 0, none⟩)) := by rw [hw0, hb, show w.heap.size + 1 = (w.alloc (.cells (newCells 0) 59)).heap.size by simp, World.cell?_alloc_mark]; rfl
  have n1 : w0.cell? ⟨b, 0, none⟩ = some (.int .i64 0) := by
    rw [hw0, hb, ((Below.refl (w.alloc (.cells (newCells 0) 59)).heap.size (w.alloc (.cells (newCells 0) 59))).alloc (Nat.le_refl _) _).cell (p := ⟨w.heap.size, 0, none⟩) (by simp), World.cell?_alloc_mark]
    kernel_rfl
  rw [← hw0, ← hb]
  have HBel : Hid (Below w.heap.size w w0) := hbel
  have HN0 : Hid (NotMade w0 (.pointer none)) := .inl rfl
  have HN1 : Hid (NotMade w0 (.pointer (some ⟨b, 0, none⟩))) := .inr ⟨b, rfl, n1⟩
  clear hw0 hbel hb n1
  go_loop [6] (fun i => ∃ k : Nat, k ≤ 2 ∧ i = .int .i64 (k : Int)) (fun i => 2 - (intOf i).toNat)
  case atStart => exact ⟨0, by omega, rfl⟩
  case round =>
    obtain ⟨k, hk, rfl⟩ := hrel
    by_cases e0 : k = 0
    · subst e0
      have hn := HN0.out
      have HB : Hid _ := Bytes_no w0 (.pointer none) a0 a0 a0 hn
      have HS : Hid _ := Size_no w0 (.pointer none) a0 hn
      have HAdd : Hid _ := Add_no w0 (.pointer none) a0 a1 hn
      have HTrim : Hid _ := Trim_no w0 (.pointer none) a0 a0 hn
      have HSync : Hid _ := Sync_no w0 (.pointer none) hn
      have HSwap : Hid _ := Swap_no w0 (.pointer none) a0 a0 hn
      have HUsed : Hid _ := Used_no w0 (.pointer none) hn
      have HCrash : Hid _ := Crash_no w0 (.pointer none) (.slice none 0 0) a0 hn
      clear hn
      go_wp2_with fail
      refine Calls.mono HB.out ?_
      rintro e w1 ⟨rfl, rfl⟩
      go_wp2_with fail
      refine Calls.mono HS.out ?_
      rintro e w1 ⟨rfl, rfl⟩
      go_wp2_with fail
      refine Calls.mono HAdd.out ?_
      rintro e w1 ⟨rfl, rfl⟩
      go_wp2_with fail
      refine Calls.mono HTrim.out ?_
      rintro e w1 ⟨rfl, rfl⟩
      go_wp2_with fail
      refine Calls.mono HSync.out ?_
      rintro e w1 ⟨rfl, rfl⟩
      go_wp2_with fail
      refine Calls.mono HSwap.out ?_
      rintro e w1 ⟨rfl, rfl⟩
      go_wp2_with fail
      refine Calls.mono HUsed.out ?_
      rintro e w1 ⟨rfl, rfl⟩
      go_wp2_with fail
      refine Calls.mono HCrash.out ?_
      rintro e w1 ⟨rfl, rfl⟩
      go_wp2
      go_round
      case rel => exact ⟨0 + 1, by omega, by go_num⟩
      case measure => simp [intOf]
    · by_cases e1 : k = 1
      · subst e1
        have hn := HN1.out
        have HB : Hid _ := Bytes_no w0 (.pointer (some ⟨b, 0, none⟩)) a0 a0 a0 hn
        have HS : Hid _ := Size_no w0 (.pointer (some ⟨b, 0, none⟩)) a0 hn
        have HAdd : Hid _ := Add_no w0 (.pointer (some ⟨b, 0, none⟩)) a0 a1 hn
        have HTrim : Hid _ := Trim_no w0 (.pointer (some ⟨b, 0, none⟩)) a0 a0 hn
        have HSync : Hid _ := Sync_no w0 (.pointer (some ⟨b, 0, none⟩)) hn
        have HSwap : Hid _ := Swap_no w0 (.pointer (some ⟨b, 0, none⟩)) a0 a0 hn
        have HUsed : Hid _ := Used_no w0 (.pointer (some ⟨b, 0, none⟩)) hn
        have HCrash : Hid _ := Crash_no w0 (.pointer (some ⟨b, 0, none⟩)) (.slice none 0 0) a0 hn
        clear hn
        go_wp2_with fail
        refine Calls.mono HB.out ?_
        rintro e w1 ⟨rfl, rfl⟩
        go_wp2_with fail
        refine Calls.mono HS.out ?_
        rintro e w1 ⟨rfl, rfl⟩
        go_wp2_with fail
        refine Calls.mono HAdd.out ?_
        rintro e w1 ⟨rfl, rfl⟩
        go_wp2_with fail
        refine Calls.mono HTrim.out ?_
        rintro e w1 ⟨rfl, rfl⟩
        go_wp2_with fail
        refine Calls.mono HSync.out ?_
        rintro e w1 ⟨rfl, rfl⟩
        go_wp2_with fail
        refine Calls.mono HSwap.out ?_
        rintro e w1 ⟨rfl, rfl⟩
        go_wp2_with fail
        refine Calls.mono HUsed.out ?_
        rintro e w1 ⟨rfl, rfl⟩
        go_wp2_with fail
        refine Calls.mono HCrash.out ?_
        rintro e w1 ⟨rfl, rfl⟩
        go_wp2
        go_round
        case rel => exact ⟨1 + 1, by omega, by go_num⟩
        case measure => simp [intOf]
      · have e2 : k = 2 := by omega
        subst e2
        go_wp2_with fail
        refine (HA.out _).mono ?_
        rintro e w3 ⟨rfl, hb3⟩
        have HB3 : Hid _ := hb3
        clear hb3
        go_wp2
        go_ret
        exact ⟨rfl, HBel.out.trans (HB3.out.mono HBel.out.size)⟩

theorem own : ownKnob Try.prog.godebug = none := by kernel_rfl

set_option maxRecDepth 100000 in
theorem lifted (os : Os) (started : os.Started) (H : Type) (enc : TypeId × Value → H) :
    ReturnsInHanded {} Try.checked os 7 .any (Rows.diskNobodySpec.pre6 enc Try.prog Try.f7 Rows.diskNobodyRow.domain false) (Rows.diskNobodySpec.post enc Try.prog Try.f7 false true false false) := by
  refine returnsInHanded_of_change_sized (C := Try.checked) own started (by kernel_rfl) Try.func7
    (ChangeSpec.witness6 (enc := enc) (C := Try.checked) false ⟨#[], #[.int .i64 0, .string ByteArray.empty], []⟩ 8 (by kernel_rfl) (by kernel_rfl) (by kernel_rfl) (by kernel_rfl)) ?_
  intro W base args ds gs before hval0 hW _ hsz0 _
  have hsz : (DataW.weightsEach Try.prog (Try.f7.params.toList ++ Rows.diskNobodySpec.plain.varTypes Try.prog) (ds ++ gs)).all (· ≤ reachBytes) = true := hsz0
  have hval : ∀ (j : Nat) t v, Try.f7.params[j]? = some t → args[j]? = some v → Value.okWide Try.prog W .any base t v := hval0
  have hW' := hW
  obtain ⟨p, q, hA0, hV, rfl, hfz, hnd⟩ := hW
  have hA : DataW.TrodAll enc Try.prog W 0 (fun _ => true) true Try.f7.params.toList args.toList ds p := hA0
  rw [Try.params7] at hA hval hsz
  obtain ⟨v0, vs0, d0, ds0, p0, q0, hargs, rfl, rfl, h0, r0⟩ := trodAll_cons hA
  obtain ⟨v1, vs1, d1, ds1, p1, q1, rfl, rfl, rfl, h1, r1⟩ := trodAll_cons r0
  obtain ⟨rfl, rfl, rfl⟩ := trodAll_nil r1
  obtain rfl : args = #[v0, v1] := by cases args; simp_all
  obtain ⟨rfl, rfl⟩ := trodVars_none hV
  obtain ⟨a0, rfl, rfl, rfl, w0⟩ := open_int Try.underlying3 (hval 0 3 v0 rfl rfl) h0
  have b0 : -9223372036854775808 ≤ a0 ∧ a0 ≤ 9223372036854775807 := by simpa [Lit.wf, IntKind.min, IntKind.max, IntKind.signed, IntKind.bits] using w0
  obtain ⟨a1, rfl, rfl, rfl, w1⟩ := open_string Try.underlying9 (hval 1 9 v1 rfl rfl) h1
  have b1 : a1.size ≤ 140737488351232 := by have := sized_string hsz (j := 1) (t := 9) rfl rfl; simpa [reachBytes] using this
  clear hA0 hval0 hsz0
  refine (walk a0 a1 W b0 b1).mono fun e W' ⟨he, bel⟩ => ?_
  subst he
  exact ⟨_, rfl, _, _, _, [], _, [], hW', trodAll_mk1 (shut_bool Try.underlying4 _), (trodAll_cons_mk (shut_int Try.underlying3 w0) (trodAll_cons_mk (shut_string Try.underlying9 w1) trodAll_mk0)), rfl, bel.frame _, fun h => by cases h⟩

theorem over : Rows.diskNobodyRow.holds Try.pinned (OpenSpec.ofChange Rows.diskNobodySpec) :=
  OpenClaim.holds_of_wide 7 Try.f7 rfl rfl rfl rfl rfl rfl rfl ⟨rfl, rfl, rfl, rfl, rfl⟩ rfl rfl rfl rfl rfl (by kernel_rfl) Try.func7 (by kernel_rfl)
    (of_decide_eq_true (by kernel_rfl)) (by unfold Func.isWrapper; first | (rw [if_pos (by decide +kernel)]; kernel_rfl) | (rw [if_neg (by decide +kernel)]; exact ⟨rfl, rfl⟩))
    (fun os started H enc _ => lifted os started H enc)


end Go.Proofs.Ytjjkolbmhkkkhaa.diskNobody
namespace Go.Proofs.Ytjjkolbmhkkkhaa
/-- The statement. -/
theorem diskNobody_holds : Rows.DiskNobodySaid := diskNobody.over
end Go.Proofs.Ytjjkolbmhkkkhaa
