/-
  For every number n and every entry x: RlogNobody answers true: a log that nobody made answers nothing; the arguments read afterwards as before. No condition.
-/
import Derived.Test.YtamoapbbkaagdaaRlAwake
import Derived.Test.YtamoapbbkaagdaaRlNo
import Derived.Test.YtamoapbbkaagdaaRlArgs
import Derived.ProofKit
import Derived.OpenShut
import Derived.ShutString
import Derived.SizedLaws
import Derived.Deep.RegionHeld
namespace Go.Proofs.Ytamoapbbkaagdaa.rlogNobody
open Go.ChangeShapes Go.WideShapes Go.ChangeAt Go.RowKit
open Go.ChangeMaps (open_string shut_string)

/-- What stays while a log that is none is asked. -/
structure Good (w X : World) (bx bs : Nat) (t : Int) (d : ByteArray) (l0 l1 : Value) : Prop where
  old : Below w.heap.size w X
  lx : bx < X.heap.size
  ls : bs < X.heap.size
  r : ∀ j, X.cell? ⟨bx, j, none⟩ = (#[.int .i64 t, .string d] : Array Value)[j]?
  s : ∀ j, X.cell? ⟨bs, j, none⟩ = (#[l0, l1] : Array Value)[j]?
  n0 : NoL X l0
  n1 : NoL X l1
theorem Good.below {w X Y : World} {bx bs : Nat} {t : Int} {d : ByteArray} {l0 l1 : Value} (h : Good w X bx bs t d l0 l1) (hb : Below X.heap.size X Y) : Good w Y bx bs t d l0 l1 :=
  ⟨h.old.trans (hb.mono h.old.size), Nat.lt_of_lt_of_le h.lx hb.size, Nat.lt_of_lt_of_le h.ls hb.size, fun j => (hb.cell (p := ⟨bx, j, none⟩) h.lx).trans (h.r j), fun j => (hb.cell (p := ⟨bs, j, none⟩) h.ls).trans (h.s j), h.n0.below hb, h.n1.below hb⟩

/-- What Entry answered lies in block b9. -/
structure Good9 (w X : World) (bx bs b9 : Nat) (t : Int) (d : ByteArray) (l0 l1 : Value) : Prop where
  g : Good w X bx bs t d l0 l1
  l9 : b9 < X.heap.size
  t9 : ∀ j, X.cell? ⟨b9, j, none⟩ = (#[.int .i64 0, .string ⟨#[]⟩] : Array Value)[j]?
theorem Good9.below {w X Y : World} {bx bs b9 : Nat} {t : Int} {d : ByteArray} {l0 l1 : Value} (h : Good9 w X bx bs b9 t d l0 l1) (hb : Below X.heap.size X Y) : Good9 w Y bx bs b9 t d l0 l1 :=
  ⟨h.g.below hb, Nat.lt_of_lt_of_le h.l9 hb.size, fun j => (hb.cell (p := ⟨b9, j, none⟩) h.l9).trans (h.t9 j)⟩

set_option maxHeartbeats 1600000 in
set_option maxRecDepth 20000 in
theorem walk (a0 : Int) (a1 : Int × ByteArray) (w : World) (_b0 : -9223372036854775808 ≤ a0 ∧ a0 ≤ 9223372036854775807) (_b1 : EntIn a1) :
    Calls Try.prog 6 #[.int .i64 a0, entV a1] w fun e w' => e = .returned (.bool true) ∧ Below w.heap.size w w' := by
  have HA : Hid (∀ u : World, Calls Try.prog 8 #[] u fun e w' => e = .returned (.bool true) ∧ Below u.heap.size u w') := awake_c
  unfold entV
  obtain ⟨t, d⟩ := a1
  dsimp only
  clear _b0 _b1
  go_enter Try.func6, Try.ntmps6
  go_wp2
  obtain ⟨u, hu⟩ : ∃ u, u = ((w.alloc (.cells #[.int .i64 t, .string d] 34)).alloc (.cells #[.bool false, .int .i64 0, .int .i64 0, .slice none 0 0, .int .i64 0] 53)).alloc (.cells #[.pointer none, .pointer (some ⟨w.heap.size + 1, 0, none⟩)] 24) := ⟨_, rfl⟩
  obtain ⟨bx, hbx⟩ : ∃ bx, bx = w.heap.size := ⟨_, rfl⟩
  obtain ⟨bs, hbs⟩ : ∃ bs, bs = w.heap.size + 1 + 1 := ⟨_, rfl⟩
  have hBu : Below w.heap.size w u := by rw [hu]; exact ((below_alloc _ _).trans ((below_alloc _ _).mono (by simp))).trans ((below_alloc _ _).mono (by simp; omega))
  have hcl : u.cell? ⟨w.heap.size + 1, 0, none⟩ = some (.bool false) := by
    have e := World.cell?_alloc_mark (w.alloc (.cells #[.int .i64 t, .string d] 34)) #[.bool false, .int .i64 0, .int .i64 0, .slice none 0 0, .int .i64 0] 53 (0, 0) 0
    rw [hu, World.cell?_alloc_lt _ _ _ (by simp)]
    have e2 : (w.alloc (.cells #[.int .i64 t, .string d] 34)).heap.size = w.heap.size + 1 := by simp
    rw [e2] at e
    exact e
  have HG : Hid (Good w u bx bs t d (.pointer none) (.pointer (some ⟨bx + 1, 0, none⟩))) := by
    refine ⟨hBu, by rw [hu, hbx]; simp; omega, by rw [hu, hbs]; simp, fun j => ?_, fun j => ?_, .inl rfl, .inr ⟨_, rfl, by rw [hbx]; exact hcl⟩⟩
    · rw [hu, hbx, World.cell?_alloc_lt _ _ _ (by simp; omega), World.cell?_alloc_lt _ _ _ (by simp)]
      exact World.cell?_alloc_mark w _ _ _ j
    · have e := World.cell?_alloc_mark ((w.alloc (.cells #[.int .i64 t, .string d] 34)).alloc (.cells #[.bool false, .int .i64 0, .int .i64 0, .slice none 0 0, .int .i64 0] 53)) #[.pointer none, .pointer (some ⟨w.heap.size + 1, 0, none⟩)] 24 (0, 0) j
      rw [hbx, ← e, hu, hbs]
      simp
  rw [← hu, ← hbs, ← hbx]
  obtain ⟨l1, hl1⟩ : ∃ l1, l1 = Value.pointer (some ⟨bx + 1, 0, none⟩) := ⟨_, rfl⟩
  rw [← hl1] at HG
  obtain ⟨l0, hl0⟩ : ∃ l0, l0 = Value.pointer none := ⟨_, rfl⟩
  rw [← hl0] at HG
  clear hu hbs hbx hBu hcl hl1 hl0
  go_loopw [6] (fun x wr => ∃ k : Nat, x = .int .i64 (k : Int) ∧ k ≤ 2 ∧ Hid (Good w wr bx bs t d l0 l1)) (fun x _ => 2 - (intOf x).toNat)
  case atStart => exact ⟨0, rfl, by omega, HG⟩
  case round =>
    clear HG
    obtain ⟨k, rfl, hk2, HG⟩ := hrel
    by_cases hlt : k < 2
    · obtain ⟨lk, hlk, hno⟩ : ∃ lk, (∀ X, Good w X bx bs t d l0 l1 → X.cell? ⟨bs, k, none⟩ = some lk) ∧ (∀ X, Good w X bx bs t d l0 l1 → NoL X lk) := by
        match k, hlt with
        | 0, _ => exact ⟨l0, fun X hX => hX.s 0, fun X hX => hX.n0⟩
        | 1, _ => exact ⟨l1, fun X hX => hX.s 1, fun X hX => hX.n1⟩
      have HNo : Hid _ := hno
      have HLk : Hid _ := hlk
      have c0 := hlk wr HG.out
      have HT : Hid _ := Term_no (hno wr HG.out) a0
      have HE : Hid _ := Entry_no (hno wr HG.out) a0
      have hk0 : (0 : Int) ≤ (k : Int) := by omega
      have hk1 : (k : Int) < 2 := by omega
      have KA : Hid (∀ X b9, Good9 w X bx bs b9 t d l0 l1 → Calls Try.prog 13 #[lk, .agg #[.int .i64 t, .string d]] X fun e w' => e = .returned (.tuple #[.int .i64 0, .int .i64 1]) ∧ Good9 w w' bx bs b9 t d l0 l1) := by
        intro X b9 hX
        refine (Append_no (hno X hX.g) t d).mono ?_
        rintro e w' ⟨rfl, hb⟩
        exact ⟨rfl, hX.below hb⟩
      have HK : Hid (∀ X, Good w X bx bs t d l0 l1 → X.cell? ⟨bs, k, none⟩ = some lk ∧ X.cell? ⟨bx, 0, none⟩ = some (.int .i64 t) ∧ X.cell? ⟨bx, 1, none⟩ = some (.string d)) := fun X hX => ⟨hlk X hX, hX.r 0, hX.r 1⟩
      have HSl : Hid (∀ X, Good w X bx bs t d l0 l1 → Calls Try.prog 21 #[lk, .int .i64 a0, .int .i64 a0] X fun e w' => e = .returned (.tuple #[.slice none 0 0, .int .i64 1]) ∧ w' = X) := fun X hX => Slice_no (hno X hX) a0 a0
      have HCu : Hid (∀ X, Good w X bx bs t d l0 l1 → Calls Try.prog 14 #[lk, .int .i64 a0] X fun e w' => e = .returned (.int .i64 1) ∧ w' = X) := fun X hX => Cut_no (hno X hX) a0
      have HCo : Hid (∀ X, Good w X bx bs t d l0 l1 → Calls Try.prog 15 #[lk, .int .i64 a0] X fun e w' => e = .returned (.int .i64 1) ∧ w' = X) := fun X hX => Compact_no (hno X hX) a0
      have HBa : Hid (∀ X, Good w X bx bs t d l0 l1 → Calls Try.prog 17 #[lk] X fun e w' => e = .returned (.int .i64 0) ∧ w' = X) := fun X hX => Base_no (hno X hX)
      have HLa : Hid (∀ X, Good w X bx bs t d l0 l1 → Calls Try.prog 16 #[lk] X fun e w' => e = .returned (.int .i64 0) ∧ w' = X) := fun X hX => Last_no (hno X hX)
      have HNe : Hid (∀ X, Good w X bx bs t d l0 l1 → Calls Try.prog 19 #[lk, .int .i64 a0, .int .i64 a0] X fun e w' => e = .returned (.bool false) ∧ w' = X) := fun X hX => Newer_no (hno X hX) a0 a0
      clear hno hlk
      go_wp2_with fail
      refine Calls.mono HT.out ?_
      rintro e w1 ⟨rfl, hw⟩
      subst hw
      go_wp2_with fail
      refine Calls.mono HE.out ?_
      rintro e w2 ⟨rfl, hb⟩
      have HG2 : Hid (Good w w2 bx bs t d l0 l1) := HG.out.below hb
      clear hb c0
      go_wp2
      obtain ⟨v, hv⟩ : ∃ v, v = w2.alloc (.cells #[.int .i64 0, .string ⟨#[]⟩] 34) := ⟨_, rfl⟩
      obtain ⟨b9, hb9⟩ : ∃ b9, b9 = w2.heap.size := ⟨_, rfl⟩
      have hg9 : Good9 w v bx bs b9 t d l0 l1 := ⟨by rw [hv]; exact HG2.out.below (below_alloc _ _), by rw [hv, hb9]; simp, fun j => by rw [hv, hb9]; exact World.cell?_alloc_mark w2 _ _ _ j⟩
      rw [← hv, ← hb9]
      clear hv hb9 HG2
      have hgd : Good9 w v.drew bx bs b9 t d l0 l1 := hg9.below (Below.refl _ _).drew
      clear hg9
      go_region_held (fun X => X.cell? ⟨bs, k, none⟩ = some lk ∧ X.cell? ⟨bx, 0, none⟩ = some (.int .i64 t) ∧ X.cell? ⟨bx, 1, none⟩ = some (.string d))
        (exact HK.out _ (Good9.g (b9 := b9) (by assumption)))
        (first
          | (go_at_call 13; refine (KA.out _ b9 ?_).mono ?_; assumption; rintro e w6 ⟨rfl, hg6⟩))
      have HG6 : Hid _ := hg6.g
      have c6 := HLk.out _ hg6.g
      have y0 : w6.cell? ⟨b9, 0, none⟩ = some (.int .i64 0) := hg6.t9 0
      have y1 : w6.cell? ⟨b9, 1, none⟩ = some (.string ⟨#[]⟩) := hg6.t9 1
      clear hg6 hgd
      go_wp2_with fail
      refine Calls.mono (HSl.out _ HG6.out) ?_
      rintro e w7 ⟨rfl, hw⟩
      subst hw
      go_wp2_with fail
      refine Calls.mono (HCu.out _ HG6.out) ?_
      rintro e w8 ⟨rfl, hw⟩
      subst hw
      go_wp2_with fail
      refine Calls.mono (HCo.out _ HG6.out) ?_
      rintro e w9 ⟨rfl, hw⟩
      subst hw
      go_wp2_with fail
      refine Calls.mono (HBa.out _ HG6.out) ?_
      rintro e w10 ⟨rfl, hw⟩
      subst hw
      go_wp2_with fail
      refine Calls.mono (HLa.out _ HG6.out) ?_
      rintro e w11 ⟨rfl, hw⟩
      subst hw
      go_wp2_with fail
      refine Calls.mono (HNe.out _ HG6.out) ?_
      rintro e w12 ⟨rfl, hw⟩
      subst hw
      go_wp2
      go_roundw
      case rel => exact ⟨k + 1, by go_num, by omega, HG6⟩
      case measure => simp [intOf]; omega
    · obtain rfl : k = 2 := by omega
      go_wp2_with fail
      refine (HA.out _).mono ?_
      rintro e w3 ⟨rfl, hb3⟩
      have HB3 : Hid _ := hb3
      clear hb3
      go_wp2
      go_ret
      exact ⟨rfl, HG.out.old.trans (HB3.out.mono HG.out.old.size)⟩

theorem laidOut : laidOutB Try.prog = true := by kernel_rfl

theorem own : ownKnob Try.prog.godebug = none := by kernel_rfl

set_option maxRecDepth 100000 in
theorem lifted (os : Os) (started : os.Started) (H : Type) (enc : TypeId × Value → H) :
    ReturnsInHanded {} Try.checked os 6 .any (Rows.rlogNobodySpec.pre6 enc Try.prog Try.f6 Rows.rlogNobodyRow.domain false) (Rows.rlogNobodySpec.post enc Try.prog Try.f6 false true false false) := by
  refine returnsInHanded_of_change_sized (C := Try.checked) own started (by kernel_rfl) Try.func6
    (ChangeSpec.witness6 (enc := enc) (C := Try.checked) false ⟨#[], #[.int .i64 0, .agg #[.int .i64 0, .string ByteArray.empty]], []⟩ 8 (by kernel_rfl) (by kernel_rfl) (by kernel_rfl) (by kernel_rfl)) ?_
  intro W base args ds gs before hval0 hW _ hsz0 _
  have hsz : (DataW.weightsEach Try.prog (Try.f6.params.toList ++ Rows.rlogNobodySpec.plain.varTypes Try.prog) (ds ++ gs)).all (· ≤ reachBytes) = true := hsz0
  have hval : ∀ (j : Nat) t v, Try.f6.params[j]? = some t → args[j]? = some v → Value.okWide Try.prog W .any base t v := hval0
  have hW' := hW
  obtain ⟨p, q, hA0, hV, rfl, hfz, hnd⟩ := hW
  have hA : DataW.TrodAll enc Try.prog W 0 (fun _ => true) true Try.f6.params.toList args.toList ds p := hA0
  rw [Try.params6] at hA hval hsz
  obtain ⟨v0, vs0, d0, ds0, p0, q0, hargs, rfl, rfl, h0, r0⟩ := trodAll_cons hA
  obtain ⟨v1, vs1, d1, ds1, p1, q1, rfl, rfl, rfl, h1, r1⟩ := trodAll_cons r0
  obtain ⟨rfl, rfl, rfl⟩ := trodAll_nil r1
  obtain rfl : args = #[v0, v1] := by cases args; simp_all
  obtain ⟨rfl, rfl⟩ := trodVars_none hV
  obtain ⟨a0, rfl, rfl, rfl, w0⟩ := open_int Try.underlying3 (hval 0 3 v0 rfl rfl) h0
  have b0 : -9223372036854775808 ≤ a0 ∧ a0 ≤ 9223372036854775807 := by simpa [Lit.wf, IntKind.min, IntKind.max, IntKind.signed, IntKind.bits] using w0
  have k1 := h1
  have lt1 : ∀ x ∈ p1, x.block < W.heap.size := by obtain ⟨m, hm⟩ := k1; exact DataW.trod_lt m _ _ _ hm
  obtain ⟨a1, rfl, b1⟩ := open_ent (hval 1 34 v1 rfl rfl) h1
  clear hA0 hval0 hsz0
  refine (walk a0 a1 W b0 b1).mono fun e W' ⟨he, bel⟩ => ?_
  subst he
  exact ⟨_, rfl, _, _, _, [], _, [], hW', trodAll_mk1 (shut_bool Try.underlying4 _), (trodAll_cons_mk (shut_int Try.underlying3 w0) (trodAll_cons_mk (Below.trod laidOut (by kernel_rfl) (of_decide_eq_true (by kernel_rfl)) k1 bel lt1) trodAll_mk0)), rfl, bel.frame _, fun h => by cases h⟩

theorem over : Rows.rlogNobodyRow.holds Try.pinned (OpenSpec.ofChange Rows.rlogNobodySpec) :=
  OpenClaim.holds_of_wide 6 Try.f6 rfl rfl rfl rfl rfl rfl rfl ⟨rfl, rfl, rfl, rfl, rfl⟩ rfl rfl rfl rfl rfl (by kernel_rfl) Try.func6 (by kernel_rfl)
    (of_decide_eq_true (by kernel_rfl)) (by unfold Func.isWrapper; first | (rw [if_pos (by decide +kernel)]; kernel_rfl) | (rw [if_neg (by decide +kernel)]; exact ⟨rfl, rfl⟩))
    (fun os started H enc _ => lifted os started H enc)


end Go.Proofs.Ytamoapbbkaagdaa.rlogNobody
namespace Go.Proofs.Ytamoapbbkaagdaa
/-- The statement. -/
theorem rlogNobody_holds : Rows.RlogNobodySaid := rlogNobody.over
end Go.Proofs.Ytamoapbbkaagdaa
