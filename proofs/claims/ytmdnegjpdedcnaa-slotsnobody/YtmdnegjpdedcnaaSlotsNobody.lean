/-
  For all numbers a and b: SlotsNobody answers true: a map that nobody made answers nothing; the arguments read afterwards as before. No condition.
-/
import Derived.Test.YtmdnegjpdedcnaaSlAwake
import Derived.ProofKit
import Derived.OpenShut
import Derived.ShutString
import Derived.SizedLaws
namespace Go.Proofs.Ytmdnegjpdedcnaa.slotsNobody
open Go.ChangeShapes Go.WideShapes Go.ChangeAt Go.RowKit
open Go.ChangeMaps (open_string shut_string)

/-- What stays while a map that is none is asked. -/
structure Good (w X : World) (bs : Nat) (l0 l1 : Value) : Prop where
  old : Below w.heap.size w X
  ls : bs < X.heap.size
  s : ∀ j, X.cell? ⟨bs, j, none⟩ = (#[l0, l1] : Array Value)[j]?
  n0 : NoM X l0
  n1 : NoM X l1

set_option maxHeartbeats 1600000 in
set_option maxRecDepth 20000 in
theorem walk (a0 a1 : Int) (w : World) (_b0 : -9223372036854775808 ≤ a0 ∧ a0 ≤ 9223372036854775807) (_b1 : -9223372036854775808 ≤ a1 ∧ a1 ≤ 9223372036854775807) :
    Calls Try.prog 8 #[.int .i64 a0, .int .i64 a1] w fun e w' => e = .returned (.bool true) ∧ Below w.heap.size w w' := by
  have HA : Hid (∀ u : World, Calls Try.prog 13 #[] u fun e w' => e = .returned (.bool true) ∧ Below u.heap.size u w') := awake_c
  clear _b0 _b1
  go_enter Try.func8, Try.ntmps8
  go_wp2_with (refine wpList_build10 rfl rfl ?_)
  obtain ⟨u, hu⟩ : ∃ u, u = (w.alloc (.cells newCells10 60)).alloc (.cells #[.pointer none, .pointer (some ⟨w.heap.size, 0, none⟩)] 32) := ⟨_, rfl⟩
  obtain ⟨bs, hbs⟩ : ∃ bs, bs = w.heap.size + 1 := ⟨_, rfl⟩
  have hBu : Below w.heap.size w u := by rw [hu]; exact (below_alloc _ _).trans ((below_alloc _ _).mono (by simp))
  have hcl : u.cell? ⟨w.heap.size, 1, none⟩ = some (.int .i64 0) := by
    rw [hu, World.cell?_alloc_lt _ _ _ (by simp), World.cell?_alloc_mark]
    exact newCells10_at 1 (by omega)
  have HG : Hid (Good w u bs (.pointer none) (.pointer (some ⟨w.heap.size, 0, none⟩))) := by
    refine ⟨hBu, by rw [hu, hbs]; simp, fun j => ?_, .inl rfl, .inr ⟨_, rfl, hcl⟩⟩
    have e := World.cell?_alloc_mark (w.alloc (.cells newCells10 60)) #[.pointer none, .pointer (some ⟨w.heap.size, 0, none⟩)] 32 (0, 0) j
    rw [← e, hu, hbs]
    simp
  rw [← hu, ← hbs]
  obtain ⟨l1, hl1⟩ : ∃ l1, l1 = Value.pointer (some ⟨w.heap.size, 0, none⟩) := ⟨_, rfl⟩
  rw [← hl1] at HG
  obtain ⟨l0, hl0⟩ : ∃ l0, l0 = Value.pointer none := ⟨_, rfl⟩
  rw [← hl0] at HG
  clear hu hbs hBu hcl hl1 hl0
  go_loop [6] (fun x => ∃ k : Nat, x = .int .i64 (k : Int) ∧ k ≤ 2) (fun x => 2 - (intOf x).toNat)
  case atStart => exact ⟨0, rfl, by omega⟩
  case round =>
    obtain ⟨k, rfl, hk2⟩ := hrel
    by_cases hlt : k < 2
    · obtain ⟨lk, hlk, hno⟩ : ∃ lk, u.cell? ⟨bs, k, none⟩ = some lk ∧ NoM u lk := by
        match k, hlt with
        | 0, _ => exact ⟨l0, HG.out.s 0, HG.out.n0⟩
        | 1, _ => exact ⟨l1, HG.out.s 1, HG.out.n1⟩
      have HO : Hid _ := Owner_noM hno a0
      have HBy : Hid _ := Bytes_noM hno
      have HGi : Hid _ := Give_noM hno a0 a1
      have HR : Hid _ := Ranges_noM hno
      have hk0 : (0 : Int) ≤ (k : Int) := by omega
      have hk1 : (k : Int) < 2 := by omega
      clear hno
      go_wp2_with fail
      refine Calls.mono HO.out ?_
      rintro e w2 ⟨rfl, hw⟩
      subst hw
      go_wp2_with fail
      refine Calls.mono HBy.out ?_
      rintro e w2 ⟨rfl, hw⟩
      subst hw
      go_wp2_with fail
      refine Calls.mono HGi.out ?_
      rintro e w2 ⟨rfl, hw⟩
      subst hw
      go_wp2_with fail
      refine Calls.mono HR.out ?_
      rintro e w2 ⟨rfl, hw⟩
      subst hw
      go_wp2
      go_round
      case rel => exact ⟨k + 1, by go_num, by omega⟩
      case measure => simp [intOf]; omega
    · obtain rfl : k = 2 := by omega
      go_wp2_with fail
      refine (HA.out _).mono ?_
      rintro e w3 ⟨rfl, hb3⟩
      have HB3 : Hid _ := hb3
      clear hb3
      go_wp2
      go_ret
      exact ⟨rfl, HG.out.old.trans (HB3.out.mono HG.out.old.size)⟩

theorem own : ownKnob Try.prog.godebug = none := by kernel_rfl

set_option maxRecDepth 100000 in
theorem lifted (os : Os) (started : os.Started) (H : Type) (enc : TypeId × Value → H) :
    ReturnsInHanded {} Try.checked os 8 .any (Rows.slotsNobodySpec.pre6 enc Try.prog Try.f8 Rows.slotsNobodyRow.domain false) (Rows.slotsNobodySpec.post enc Try.prog Try.f8 false true false false) := by
  refine returnsInHanded_of_change_sized (C := Try.checked) own started (by kernel_rfl) Try.func8
    (ChangeSpec.witness6 (enc := enc) (C := Try.checked) false ⟨#[], #[.int .i64 0, .int .i64 0], []⟩ 8 (by kernel_rfl) (by kernel_rfl) (by kernel_rfl) (by kernel_rfl)) ?_
  intro W base args ds gs before hval0 hW _ hsz0 _
  have hsz : (DataW.weightsEach Try.prog (Try.f8.params.toList ++ Rows.slotsNobodySpec.plain.varTypes Try.prog) (ds ++ gs)).all (· ≤ reachBytes) = true := hsz0
  have hval : ∀ (j : Nat) t v, Try.f8.params[j]? = some t → args[j]? = some v → Value.okWide Try.prog W .any base t v := hval0
  have hW' := hW
  obtain ⟨p, q, hA0, hV, rfl, hfz, hnd⟩ := hW
  have hA : DataW.TrodAll enc Try.prog W 0 (fun _ => true) true Try.f8.params.toList args.toList ds p := hA0
  rw [Try.params8] at hA hval hsz
  obtain ⟨v0, vs0, d0, ds0, p0, q0, hargs, rfl, rfl, h0, r0⟩ := trodAll_cons hA
  obtain ⟨v1, vs1, d1, ds1, p1, q1, rfl, rfl, rfl, h1, r1⟩ := trodAll_cons r0
  obtain ⟨rfl, rfl, rfl⟩ := trodAll_nil r1
  obtain rfl : args = #[v0, v1] := by cases args; simp_all
  obtain ⟨rfl, rfl⟩ := trodVars_none hV
  obtain ⟨a0, rfl, rfl, rfl, w0⟩ := open_int Try.underlying3 (hval 0 3 v0 rfl rfl) h0
  have b0 : -9223372036854775808 ≤ a0 ∧ a0 ≤ 9223372036854775807 := by simpa [Lit.wf, IntKind.min, IntKind.max, IntKind.signed, IntKind.bits] using w0
  obtain ⟨a1, rfl, rfl, rfl, w1⟩ := open_int Try.underlying3 (hval 1 3 v1 rfl rfl) h1
  have b1 : -9223372036854775808 ≤ a1 ∧ a1 ≤ 9223372036854775807 := by simpa [Lit.wf, IntKind.min, IntKind.max, IntKind.signed, IntKind.bits] using w1
  clear hA0 hval0 hsz0
  refine (walk a0 a1 W b0 b1).mono fun e W' ⟨he, bel⟩ => ?_
  subst he
  exact ⟨_, rfl, _, _, _, [], _, [], hW', trodAll_mk1 (shut_bool Try.underlying4 _), (trodAll_cons_mk (shut_int Try.underlying3 w0) (trodAll_cons_mk (shut_int Try.underlying3 w1) trodAll_mk0)), rfl, bel.frame _, fun h => by cases h⟩

theorem over : Rows.slotsNobodyRow.holds Try.pinned (OpenSpec.ofChange Rows.slotsNobodySpec) :=
  OpenClaim.holds_of_wide 8 Try.f8 rfl rfl rfl rfl rfl rfl rfl ⟨rfl, rfl, rfl, rfl, rfl⟩ rfl rfl rfl rfl rfl (by kernel_rfl) Try.func8 (by kernel_rfl)
    (of_decide_eq_true (by kernel_rfl)) (by unfold Func.isWrapper; first | (rw [if_pos (by decide +kernel)]; kernel_rfl) | (rw [if_neg (by decide +kernel)]; exact ⟨rfl, rfl⟩))
    (fun os started H enc _ => lifted os started H enc)


end Go.Proofs.Ytmdnegjpdedcnaa.slotsNobody
namespace Go.Proofs.Ytmdnegjpdedcnaa
/-- The statement. -/
theorem slotsNobody_holds : Rows.SlotsNobodySaid := slotsNobody.over
end Go.Proofs.Ytmdnegjpdedcnaa
