/-
  For every number k and every text s: NetNobody answers true: a net that nobody made answers nothing; the arguments read afterwards as before. No condition.
-/
import Derived.Test.YtfkhnbikobjpfaaNnNo
import Derived.Test.YtfkhnbikobjpfaaNnArgs
import Derived.ProofKit
import Derived.OpenShut
import Derived.ShutString
import Derived.SizedLaws
import Derived.Deep.RegionHeld
namespace Go.Proofs.Ytfkhnbikobjpfaa.netNobody
open Go.ChangeShapes Go.WideShapes Go.ChangeAt Go.RowKit
open Go.ChangeMaps (open_string shut_string)

/-- What stays while a net that is none is asked. -/
structure Good (w X : World) (bs : Nat) (l0 l1 : Value) : Prop where
  old : Below w.heap.size w X
  ls : bs < X.heap.size
  s : ∀ j, X.cell? ⟨bs, j, none⟩ = (#[l0, l1] : Array Value)[j]?
  n0 : NoQ X l0
  n1 : NoQ X l1
theorem Good.below {w X Y : World} {bs : Nat} {l0 l1 : Value} (h : Good w X bs l0 l1) (hb : Below X.heap.size X Y) : Good w Y bs l0 l1 :=
  ⟨h.old.trans (hb.mono h.old.size), Nat.lt_of_lt_of_le h.ls hb.size, fun j => (hb.cell (p := ⟨bs, j, none⟩) h.ls).trans (h.s j), h.n0.below hb, h.n1.below hb⟩

set_option maxHeartbeats 1600000 in
set_option maxRecDepth 20000 in
theorem walk (a0 : Int) (a1 : ByteArray) (w : World) (_b0 : -9223372036854775808 ≤ a0 ∧ a0 ≤ 9223372036854775807) (_b1 : a1.size ≤ 140737488351232) :
    Calls Try.prog 5 #[.int .i64 a0, .string a1] w fun e w' => e = .returned (.bool true) ∧ Below w.heap.size w w' := by
  have HA : Hid (∀ u : World, Calls Try.prog 9 #[] u fun e w' => e = .returned (.bool true) ∧ Below u.heap.size u w') := awake_c
  clear _b0 _b1
  go_enter Try.func5, Try.ntmps5
  go_wp2
  obtain ⟨u, hu⟩ : ∃ u, u = (w.alloc (.cells #[.int .i64 0, .slice none 0 0, .map none, .int .i64 0] 51)).alloc (.cells #[.pointer none, .pointer (some ⟨w.heap.size, 0, none⟩)] 23) := ⟨_, rfl⟩
  obtain ⟨bs, hbs⟩ : ∃ bs, bs = w.heap.size + 1 := ⟨_, rfl⟩
  have hBu : Below w.heap.size w u := by rw [hu]; exact (below_alloc _ _).trans ((below_alloc _ _).mono (by simp))
  have hcl : u.cell? ⟨w.heap.size, 0, none⟩ = some (.int .i64 0) := by
    rw [hu, World.cell?_alloc_lt _ _ _ (by simp)]
    exact World.cell?_alloc_mark w _ _ _ 0
  have HG : Hid (Good w u bs (.pointer none) (.pointer (some ⟨w.heap.size, 0, none⟩))) := by
    refine ⟨hBu, by rw [hu, hbs]; simp, fun j => ?_, .inl rfl, .inr ⟨_, rfl, hcl⟩⟩
    have e := World.cell?_alloc_mark (w.alloc (.cells #[.int .i64 0, .slice none 0 0, .map none, .int .i64 0] 51)) #[.pointer none, .pointer (some ⟨w.heap.size, 0, none⟩)] 23 (0, 0) j
    rw [← e, hu, hbs]
    simp
  rw [← hu, ← hbs]
  obtain ⟨l1, hl1⟩ : ∃ l1, l1 = Value.pointer (some ⟨w.heap.size, 0, none⟩) := ⟨_, rfl⟩
  rw [← hl1] at HG
  obtain ⟨l0, hl0⟩ : ∃ l0, l0 = Value.pointer none := ⟨_, rfl⟩
  rw [← hl0] at HG
  clear hu hbs hBu hcl hl1 hl0
  go_loopw [6] (fun x wr => ∃ k : Nat, x = .int .i64 (k : Int) ∧ k ≤ 2 ∧ Hid (Good w wr bs l0 l1)) (fun x _ => 2 - (intOf x).toNat)
  case atStart => exact ⟨0, rfl, by omega, HG⟩
  case round =>
    clear HG
    obtain ⟨k, rfl, hk2, HG⟩ := hrel
    by_cases hlt : k < 2
    · obtain ⟨lk, hlk, hno⟩ : ∃ lk, (∀ X, Good w X bs l0 l1 → X.cell? ⟨bs, k, none⟩ = some lk) ∧ (∀ X, Good w X bs l0 l1 → NoQ X lk) := by
        match k, hlt with
        | 0, _ => exact ⟨l0, fun X hX => hX.s 0, fun X hX => hX.n0⟩
        | 1, _ => exact ⟨l1, fun X hX => hX.s 1, fun X hX => hX.n1⟩
      have HLk : Hid _ := hlk
      have c0 := hlk wr HG.out
      have HT : Hid _ := TakeQ_no (hno wr HG.out) a0
      have hk0 : (0 : Int) ≤ (k : Int) := by omega
      have hk1 : (k : Int) < 2 := by omega
      have HP : Hid (∀ X, Good w X bs l0 l1 → Calls Try.prog 12 #[lk, .agg #[.int .i64 0, .int .i64 0, .string a1]] X fun e w' => e = .returned (.int .i64 1) ∧ Below X.heap.size X w') := fun X hX => Put_no (hno X hX) 0 0 a1
      have HTw : Hid (∀ X, Good w X bs l0 l1 → Calls Try.prog 14 #[lk, .int .i64 a0] X fun e w' => e = .returned (.bool false) ∧ w' = X) := fun X hX => Twice_no (hno X hX) a0
      have HLe : Hid (∀ X, Good w X bs l0 l1 → Calls Try.prog 11 #[lk] X fun e w' => e = .returned (.int .i64 0) ∧ w' = X) := fun X hX => Len_no (hno X hX)
      have HBe : Hid (∀ X, Good w X bs l0 l1 → Calls Try.prog 15 #[lk, .int .i64 a0, .int .i64 a0] X fun e w' => e = .returned (.int .i64 0) ∧ w' = X) := fun X hX => Between_no (hno X hX) a0 a0
      have HCu : Hid (∀ X, Good w X bs l0 l1 → Calls Try.prog 16 #[lk, .int .i64 a0] X fun e w' => e = .returned (.int .i64 0) ∧ Below X.heap.size X w') := fun X hX => Cut_no (hno X hX) a0
      clear hno hlk
      go_wp2_with fail
      refine Calls.mono HT.out ?_
      rintro e w2 ⟨rfl, hb⟩
      have HG2 : Hid (Good w w2 bs l0 l1) := HG.out.below hb
      have c0 := HLk.out _ HG2.out
      have HG3 : Hid (Good w (w2.alloc (.cells #[.int .i64 0, .int .i64 0, .string ⟨#[]⟩] 43)) bs l0 l1) := HG2.out.below (below_alloc _ _)
      have c3 := HLk.out _ HG3.out
      obtain ⟨v, hv⟩ : ∃ v, v = w2.alloc (.cells #[.int .i64 0, .int .i64 0, .string ⟨#[]⟩] 43) := ⟨_, rfl⟩
      obtain ⟨b9, hb9⟩ : ∃ b9, b9 = w2.heap.size := ⟨_, rfl⟩
      have HL9 : Hid (b9 < v.heap.size ∧ ∀ j, v.cell? ⟨b9, j, none⟩ = (#[.int .i64 0, .int .i64 0, .string ⟨#[]⟩] : Array Value)[j]?) := ⟨by rw [hv, hb9]; simp, fun j => by rw [hv, hb9]; exact World.cell?_alloc_mark w2 _ _ _ j⟩
      clear hb
      go_wp2_with fail
      rw [← hv]
      try rw [← hb9]
      rw [← hv] at HG3 c3
      clear hv hb9
      refine (HP.out _ HG3.out).mono ?_
      rintro e w4 ⟨rfl, hb⟩
      have HG4 : Hid (Good w w4 bs l0 l1) := HG3.out.below hb
      have c4 := HLk.out _ HG4.out
      have t0 : w4.cell? ⟨b9, 0, none⟩ = some (.int .i64 0) := (hb.cell (p := ⟨b9, 0, none⟩) HL9.out.1).trans (HL9.out.2 0)
      have t1 : w4.cell? ⟨b9, 1, none⟩ = some (.int .i64 0) := (hb.cell (p := ⟨b9, 1, none⟩) HL9.out.1).trans (HL9.out.2 1)
      have t2 : w4.cell? ⟨b9, 2, none⟩ = some (.string ⟨#[]⟩) := (hb.cell (p := ⟨b9, 2, none⟩) HL9.out.1).trans (HL9.out.2 2)
      clear hb
      go_wp2_with fail
      refine (HTw.out _ HG4.out).mono ?_
      rintro e w5 ⟨rfl, hw⟩
      subst hw
      go_wp2_with fail
      refine (HLe.out _ HG4.out).mono ?_
      rintro e w6 ⟨rfl, hw⟩
      subst hw
      go_wp2_with fail
      refine (HBe.out _ HG4.out).mono ?_
      rintro e w7 ⟨rfl, hw⟩
      subst hw
      go_wp2_with fail
      refine (HCu.out _ HG4.out).mono ?_
      rintro e w8 ⟨rfl, hb⟩
      have HG8 : Hid (Good w w8 bs l0 l1) := HG4.out.below hb
      clear hb
      go_wp2
      go_roundw
      case rel => exact ⟨k + 1, by go_num, by omega, HG8⟩
      case measure => simp [intOf]; omega
    · obtain rfl : k = 2 := by omega
      go_wp2_with fail
      refine (HA.out _).mono ?_
      rintro e w3 ⟨rfl, hb3⟩
      have HB3 : Hid _ := hb3
      clear hb3
      go_wp2
      go_ret
      exact ⟨rfl, HG.out.old.trans (HB3.out.mono HG.out.old.size)⟩

theorem own : ownKnob Try.prog.godebug = none := by kernel_rfl

set_option maxRecDepth 100000 in
theorem lifted (os : Os) (started : os.Started) (H : Type) (enc : TypeId × Value → H) :
    ReturnsInHanded {} Try.checked os 5 .any (Rows.netNobodySpec.pre6 enc Try.prog Try.f5 Rows.netNobodyRow.domain false) (Rows.netNobodySpec.post enc Try.prog Try.f5 false true false false) := by
  refine returnsInHanded_of_change_sized (C := Try.checked) own started (by kernel_rfl) Try.func5
    (ChangeSpec.witness6 (enc := enc) (C := Try.checked) false ⟨#[], #[.int .i64 0, .string ByteArray.empty], []⟩ 8 (by kernel_rfl) (by kernel_rfl) (by kernel_rfl) (by kernel_rfl)) ?_
  intro W base args ds gs before hval0 hW _ hsz0 _
  have hsz : (DataW.weightsEach Try.prog (Try.f5.params.toList ++ Rows.netNobodySpec.plain.varTypes Try.prog) (ds ++ gs)).all (· ≤ reachBytes) = true := hsz0
  have hval : ∀ (j : Nat) t v, Try.f5.params[j]? = some t → args[j]? = some v → Value.okWide Try.prog W .any base t v := hval0
  have hW' := hW
  obtain ⟨p, q, hA0, hV, rfl, hfz, hnd⟩ := hW
  have hA : DataW.TrodAll enc Try.prog W 0 (fun _ => true) true Try.f5.params.toList args.toList ds p := hA0
  rw [Try.params5] at hA hval hsz
  obtain ⟨v0, vs0, d0, ds0, p0, q0, hargs, rfl, rfl, h0, r0⟩ := trodAll_cons hA
  obtain ⟨v1, vs1, d1, ds1, p1, q1, rfl, rfl, rfl, h1, r1⟩ := trodAll_cons r0
  obtain ⟨rfl, rfl, rfl⟩ := trodAll_nil r1
  obtain rfl : args = #[v0, v1] := by cases args; simp_all
  obtain ⟨rfl, rfl⟩ := trodVars_none hV
  obtain ⟨a0, rfl, rfl, rfl, w0⟩ := open_int Try.underlying3 (hval 0 3 v0 rfl rfl) h0
  have b0 : -9223372036854775808 ≤ a0 ∧ a0 ≤ 9223372036854775807 := by simpa [Lit.wf, IntKind.min, IntKind.max, IntKind.signed, IntKind.bits] using w0
  obtain ⟨a1, rfl, rfl, rfl, w1⟩ := open_string Try.underlying9 (hval 1 9 v1 rfl rfl) h1
  have b1 : a1.size ≤ 140737488351232 := by have := sized_string hsz (j := 1) (t := 9) rfl rfl; simpa [reachBytes] using this
  clear hA0 hval0 hsz0
  refine (walk a0 a1 W b0 b1).mono fun e W' ⟨he, bel⟩ => ?_
  subst he
  exact ⟨_, rfl, _, _, _, [], _, [], hW', trodAll_mk1 (shut_bool Try.underlying4 _), (trodAll_cons_mk (shut_int Try.underlying3 w0) (trodAll_cons_mk (shut_string Try.underlying9 w1) trodAll_mk0)), rfl, bel.frame _, fun h => by cases h⟩

theorem over : Rows.netNobodyRow.holds Try.pinned (OpenSpec.ofChange Rows.netNobodySpec) :=
  OpenClaim.holds_of_wide 5 Try.f5 rfl rfl rfl rfl rfl rfl rfl ⟨rfl, rfl, rfl, rfl, rfl⟩ rfl rfl rfl rfl rfl (by kernel_rfl) Try.func5 (by kernel_rfl)
    (of_decide_eq_true (by kernel_rfl)) (by unfold Func.isWrapper; first | (rw [if_pos (by decide +kernel)]; kernel_rfl) | (rw [if_neg (by decide +kernel)]; exact ⟨rfl, rfl⟩))
    (fun os started H enc _ => lifted os started H enc)


end Go.Proofs.Ytfkhnbikobjpfaa.netNobody
namespace Go.Proofs.Ytfkhnbikobjpfaa
/-- The statement. -/
theorem netNobody_holds : Rows.NetNobodySaid := netNobody.over
end Go.Proofs.Ytfkhnbikobjpfaa
