/-
  For every record r and every number n: WalNobody answers true: a log that nobody opened answers nothing; the arguments read afterwards as before. No condition.
-/
import Derived.Test.YtedcnnmkbenehaaWlAwake
import Derived.Test.YtedcnnmkbenehaaWlNo
import Derived.Test.YtedcnnmkbenehaaWlSame
import Derived.Test.YtedcnnmkbenehaaWlArgs
import Derived.ProofKit
import Derived.OpenShut
import Derived.ShutString
import Derived.SizedLaws
import Derived.Deep.RegionHeld
namespace Go.Proofs.Ytedcnnmkbenehaa.walNobody
open Go.ChangeShapes Go.WideShapes Go.ChangeAt Go.RowKit
open Go.ChangeMaps (open_string shut_string)

/-- The cells of a log that nobody opened. -/
def zeroLog : Array Value := #[.pointer none, .int .i64 0, .map none] ++ ((List.range 9).flatMap fun _ => [Value.int .i64 0, .int .i64 0, .int .i64 0, .int .i64 0, .string ⟨#[]⟩, .slice none 0 0]).toArray ++ #[.int .i64 0, .int .i64 0]
theorem run_zero (w : World) : (Instr.build 66 #[]).run Try.prog w = .ok (.agg zeroLog) w := by kernel_rfl
theorem wpList_zero {w : World} {ops : Array Oper} {rest : List Oper} {o : Oper} {a : Act} {Q : Exit → Act → World → Prop} (hgd : o.guard = none)
    (ho : o.op = .build 66 #[]) (h : wpList Try.prog ops Q rest (a.put o.dst (.agg zeroLog)) w) : wpList Try.prog ops Q (o :: rest) a w := by
  refine wpList_plain hgd fun _ hK => ?_
  unfold Oper.wp execOp
  simp only [ho, List.map_toArray, List.map_nil, Sem.run_bind, Sem.run_pure, Result.andThen_ok, run_zero]
  exact hK _ _ h

/-- What stays while a log that is none is asked: the record, the two logs. -/
structure Good (w X : World) (bx bs : Nat) (r : W.Rec) (l0 l1 : Value) : Prop where
  old : Below w.heap.size w X
  lx : bx < X.heap.size
  ls : bs < X.heap.size
  r : ∀ j, X.cell? ⟨bx, j, none⟩ = (recO r)[j]?
  s : ∀ j, X.cell? ⟨bs, j, none⟩ = (#[l0, l1] : Array Value)[j]?
  n0 : NoLog X l0
  n1 : NoLog X l1
theorem Good.below {w X Y : World} {bx bs : Nat} {r : W.Rec} {l0 l1 : Value} (h : Good w X bx bs r l0 l1) (hb : Below X.heap.size X Y) : Good w Y bx bs r l0 l1 :=
  ⟨h.old.trans (hb.mono h.old.size), Nat.lt_of_lt_of_le h.lx hb.size, Nat.lt_of_lt_of_le h.ls hb.size, fun j => (hb.cell (p := ⟨bx, j, none⟩) h.lx).trans (h.r j), fun j => (hb.cell (p := ⟨bs, j, none⟩) h.ls).trans (h.s j), h.n0.below hb, h.n1.below hb⟩
/-- What Saved answered lies in block b9. -/
structure Good9 (w X : World) (bx bs b9 : Nat) (r : W.Rec) (l0 l1 : Value) : Prop where
  g : Good w X bx bs r l0 l1
  l9 : b9 < X.heap.size
  t : ∀ j, X.cell? ⟨b9, j, none⟩ = (#[.int .i64 0, .int .i64 0, .int .i64 0, .int .i64 0, .string ⟨#[]⟩, .slice none 0 0] : Array Value)[j]?
theorem Good9.below {w X Y : World} {bx bs b9 : Nat} {r : W.Rec} {l0 l1 : Value} (h : Good9 w X bx bs b9 r l0 l1) (hb : Below X.heap.size X Y) : Good9 w Y bx bs b9 r l0 l1 :=
  ⟨h.g.below hb, Nat.lt_of_lt_of_le h.l9 hb.size, fun j => (hb.cell (p := ⟨b9, j, none⟩) h.l9).trans (h.t j)⟩

set_option maxHeartbeats 1600000 in
set_option maxRecDepth 20000 in
theorem walk (a0 : W.Rec) (a1 : Int) (w : World) (_b0 : RecIn a0) (_b1 : -9223372036854775808 ≤ a1 ∧ a1 ≤ 9223372036854775807) :
    Calls Try.prog 7 #[recV a0, .int .i64 a1] w fun e w' => e = .returned (.bool true) ∧ Below w.heap.size w w' := by
  have HA : Hid (∀ u : World, Calls Try.prog 10 #[] u fun e w' => e = .returned (.bool true) ∧ Below u.heap.size u w') := awake_c
  have HOp : Hid (∀ u : World, Calls Try.prog 12 #[.pointer none, .int .i64 9] u fun e w' => e = .returned (.tuple #[.pointer none, .int .i64 1]) ∧ w' = u) := fun u => Open_bad (.pointer none) u 9 (.inl rfl)
  have HR : Hid (∀ u l, NoLog u l → Calls Try.prog 17 #[l, recV a0] u fun e w' => e = .returned (.int .i64 1) ∧ Below u.heap.size u w') := fun u l h => Append_nolog h a0
  have HSy : Hid (∀ u l, NoLog u l → Calls Try.prog 19 #[l] u fun e w' => e = .returned (.int .i64 1) ∧ w' = u) := fun u l h => Sync_nolog h
  have HCl : Hid (∀ u l, NoLog u l → Calls Try.prog 21 #[l] u fun e w' => e = .returned (.int .i64 1) ∧ w' = u) := fun u l h => Clean_nolog h
  have HSi : Hid (∀ u l, NoLog u l → Calls Try.prog 20 #[l] u fun e w' => e = .returned (.int .i64 0) ∧ w' = u) := fun u l h => Size_nolog h
  have HSv : Hid (∀ u l, NoLog u l → Calls Try.prog 25 #[l, .int .i64 a1] u fun e w' => e = .returned (.tuple #[.agg #[.int .i64 0, .int .i64 0, .int .i64 0, .int .i64 0, .string ⟨#[]⟩, .slice none 0 0], .int .i64 1]) ∧ Below u.heap.size u w') := fun u l h => Saved_nolog h a1
  have HSm : Hid (∀ u, Calls Try.prog 26 #[.agg #[.int .i64 0, .int .i64 0, .int .i64 0, .int .i64 0, .string ⟨#[]⟩, .slice none 0 0], .agg #[.int .i64 0, .int .i64 0, .int .i64 0, .int .i64 0, .string ⟨#[]⟩, .slice none 0 0]] u fun e w' => e = .returned (.bool true) ∧ Below u.heap.size u w') := by
    intro u
    have hr : EntR u (.slice none 0 0) [] := ⟨none, 0, rfl, Nat.le_refl _, by unfold maxLen; omega, .inl rfl⟩
    have := Same_c (w := u) (a := { W.new with vote := 0 }) (b := { W.new with vote := 0 }) hr hr
    rw [svSame_iff.2 rfl] at this
    exact this
  obtain ⟨rr, hrr⟩ : ∃ rr, rr = a0 := ⟨_, rfl⟩
  rw [← hrr]
  obtain ⟨rg, rk, ri, rt, rv, d⟩ := a0
  unfold recV at HR ⊢
  rw [hrr]
  dsimp only at HR ⊢
  have HRO : Hid (recO rr = #[.int .i64 rg, .int .i64 rk, .int .i64 ri, .int .i64 rt, .int .i64 rv, .string d]) := by rw [hrr]; rfl
  clear _b0 _b1 hrr
  go_enter Try.func7, Try.ntmps7
  go_wp2_with fail
  refine Calls.mono (HOp.out _) ?_
  rintro e w1 ⟨rfl, hw⟩
  subst hw
  go_wp2_with (refine wpList_zero rfl rfl ?_)
  obtain ⟨u, hu⟩ : ∃ u, u = ((w.alloc (.cells #[.int .i64 rg, .int .i64 rk, .int .i64 ri, .int .i64 rt, .int .i64 rv, .string d] 37)).alloc (.cells zeroLog 66)).alloc (.cells #[.pointer none, .pointer (some ⟨w.heap.size + 1, 0, none⟩)] 29) := ⟨_, rfl⟩
  obtain ⟨bx, hbx⟩ : ∃ bx, bx = w.heap.size := ⟨_, rfl⟩
  obtain ⟨bs, hbs⟩ : ∃ bs, bs = w.heap.size + 1 + 1 := ⟨_, rfl⟩
  have hBu : Below w.heap.size w u := by rw [hu]; exact ((below_alloc _ _).trans ((below_alloc _ _).mono (by simp))).trans ((below_alloc _ _).mono (by simp; omega))
  have z0 : zeroLog[0]? = some (.pointer none) := by kernel_rfl
  have hcl : u.cell? ⟨w.heap.size + 1, 0, none⟩ = some (.pointer none) := by
    have e := World.cell?_alloc_mark (w.alloc (.cells #[.int .i64 rg, .int .i64 rk, .int .i64 ri, .int .i64 rt, .int .i64 rv, .string d] 37)) zeroLog 66 (0, 0) 0
    rw [hu, World.cell?_alloc_lt _ _ _ (by simp)]
    have e2 : (w.alloc (.cells #[.int .i64 rg, .int .i64 rk, .int .i64 ri, .int .i64 rt, .int .i64 rv, .string d] 37)).heap.size = w.heap.size + 1 := by simp
    rw [e2] at e
    exact e.trans z0
  have HG : Hid (Good w u bx bs rr (.pointer none) (.pointer (some ⟨bx + 1, 0, none⟩))) := by
    refine ⟨hBu, by rw [hu, hbx]; simp; omega, by rw [hu, hbs]; simp, fun j => ?_, fun j => ?_, .inl rfl, .inr ⟨_, rfl, by rw [hbx]; exact hcl⟩⟩
    · rw [hu, hbx, World.cell?_alloc_lt _ _ _ (by simp; omega), World.cell?_alloc_lt _ _ _ (by simp), HRO.out]
      exact World.cell?_alloc_mark w _ _ _ j
    · have e := World.cell?_alloc_mark ((w.alloc (.cells #[.int .i64 rg, .int .i64 rk, .int .i64 ri, .int .i64 rt, .int .i64 rv, .string d] 37)).alloc (.cells zeroLog 66)) #[.pointer none, .pointer (some ⟨w.heap.size + 1, 0, none⟩)] 29 (0, 0) j
      rw [hbx, ← e, hu, hbs]
      simp
  rw [← hu, ← hbs, ← hbx]
  obtain ⟨l1, hl1⟩ : ∃ l1, l1 = Value.pointer (some ⟨bx + 1, 0, none⟩) := ⟨_, rfl⟩
  rw [← hl1] at HG
  obtain ⟨l0, hl0⟩ : ∃ l0, l0 = Value.pointer none := ⟨_, rfl⟩
  rw [← hl0] at HG
  clear hu hbs hbx hBu hcl hl1 hl0
  go_loopw [8] (fun x wr => ∃ k : Nat, x = .int .i64 (k : Int) ∧ k ≤ 2 ∧ Hid (Good w wr bx bs rr l0 l1)) (fun x _ => 2 - (intOf x).toNat)
  case atStart => exact ⟨0, rfl, by omega, HG⟩
  case round =>
    clear HG
    obtain ⟨k, rfl, hk2, HG⟩ := hrel
    by_cases hlt : k < 2
    · obtain ⟨lk, hlk, hno⟩ : ∃ lk, (∀ X, Good w X bx bs rr l0 l1 → X.cell? ⟨bs, k, none⟩ = some lk) ∧ (∀ X, Good w X bx bs rr l0 l1 → NoLog X lk) := by
        match k, hlt with
        | 0, _ => exact ⟨l0, fun X hX => hX.s 0, fun X hX => hX.n0⟩
        | 1, _ => exact ⟨l1, fun X hX => hX.s 1, fun X hX => hX.n1⟩
      have HNo : Hid _ := hno
      have HLk : Hid _ := hlk
      have c0 := hlk wr HG.out
      have HSv' : Hid _ := HSv.out wr lk (hno wr HG.out)
      have hk0 : (0 : Int) ≤ (k : Int) := by omega
      have hk1 : (k : Int) < 2 := by omega
      clear hno hlk
      go_wp2_with fail
      refine Calls.mono HSv'.out ?_
      rintro e w2 ⟨rfl, hb⟩
      have HG2 : Hid (Good w w2 bx bs rr l0 l1) := HG.out.below hb
      clear hb c0
      go_wp2
      obtain ⟨v, hv⟩ : ∃ v, v = w2.alloc (.cells #[.int .i64 0, .int .i64 0, .int .i64 0, .int .i64 0, .string ⟨#[]⟩, .slice none 0 0] 45) := ⟨_, rfl⟩
      obtain ⟨b9, hb9⟩ : ∃ b9, b9 = w2.heap.size := ⟨_, rfl⟩
      have hg9 : Good9 w v bx bs b9 rr l0 l1 := by
        refine ⟨by rw [hv]; exact HG2.out.below (below_alloc _ _), by rw [hv, hb9]; simp, fun j => ?_⟩
        rw [hv, hb9]
        exact World.cell?_alloc_mark w2 _ _ _ j
      rw [← hv, ← hb9]
      clear hv hb9 HG2
      have hgd : Good9 w v.drew bx bs b9 rr l0 l1 := hg9.below (Below.refl _ _).drew
      clear hg9
      have HK : Hid (∀ X, Good9 w X bx bs b9 rr l0 l1 → X.cell? ⟨bs, k, none⟩ = some lk ∧ X.cell? ⟨bx, 0, none⟩ = some (.int .i64 rg) ∧ X.cell? ⟨bx, 1, none⟩ = some (.int .i64 rk) ∧ X.cell? ⟨bx, 2, none⟩ = some (.int .i64 ri) ∧ X.cell? ⟨bx, 3, none⟩ = some (.int .i64 rt) ∧ X.cell? ⟨bx, 4, none⟩ = some (.int .i64 rv) ∧ X.cell? ⟨bx, 5, none⟩ = some (.string d) ∧ X.cell? ⟨b9, 0, none⟩ = some (.int .i64 0) ∧ X.cell? ⟨b9, 1, none⟩ = some (.int .i64 0) ∧ X.cell? ⟨b9, 2, none⟩ = some (.int .i64 0) ∧ X.cell? ⟨b9, 3, none⟩ = some (.int .i64 0) ∧ X.cell? ⟨b9, 4, none⟩ = some (.string ⟨#[]⟩) ∧ X.cell? ⟨b9, 5, none⟩ = some (.slice none 0 0)) := by
        intro X hX
        have q := hX.g.r
        rw [HRO.out] at q
        exact ⟨HLk.out X hX.g, q 0, q 1, q 2, q 3, q 4, q 5, hX.t 0, hX.t 1, hX.t 2, hX.t 3, hX.t 4, hX.t 5⟩
      have KA : Hid (∀ X, Good9 w X bx bs b9 rr l0 l1 → Calls Try.prog 17 #[lk, .agg #[.int .i64 rg, .int .i64 rk, .int .i64 ri, .int .i64 rt, .int .i64 rv, .string d]] X fun e w' => e = .returned (.int .i64 1) ∧ Good9 w w' bx bs b9 rr l0 l1) := by
        intro X hX
        refine (HR.out X lk (HNo.out X hX.g)).mono ?_
        rintro e w' ⟨rfl, hb⟩
        exact ⟨rfl, hX.below hb⟩
      have KS : Hid (∀ X, Good9 w X bx bs b9 rr l0 l1 → Calls Try.prog 19 #[lk] X fun e w' => e = .returned (.int .i64 1) ∧ Good9 w w' bx bs b9 rr l0 l1) := by
        intro X hX
        refine (HSy.out X lk (HNo.out X hX.g)).mono ?_
        rintro e w' ⟨rfl, hw⟩
        subst hw
        exact ⟨rfl, hX⟩
      have KC : Hid (∀ X, Good9 w X bx bs b9 rr l0 l1 → Calls Try.prog 21 #[lk] X fun e w' => e = .returned (.int .i64 1) ∧ Good9 w w' bx bs b9 rr l0 l1) := by
        intro X hX
        refine (HCl.out X lk (HNo.out X hX.g)).mono ?_
        rintro e w' ⟨rfl, hw⟩
        subst hw
        exact ⟨rfl, hX⟩
      have KZ : Hid (∀ X, Good9 w X bx bs b9 rr l0 l1 → Calls Try.prog 20 #[lk] X fun e w' => e = .returned (.int .i64 0) ∧ Good9 w w' bx bs b9 rr l0 l1) := by
        intro X hX
        refine (HSi.out X lk (HNo.out X hX.g)).mono ?_
        rintro e w' ⟨rfl, hw⟩
        subst hw
        exact ⟨rfl, hX⟩
      have KM : Hid (∀ X, Good9 w X bx bs b9 rr l0 l1 → Calls Try.prog 26 #[.agg #[.int .i64 0, .int .i64 0, .int .i64 0, .int .i64 0, .string ⟨#[]⟩, .slice none 0 0], .agg #[.int .i64 0, .int .i64 0, .int .i64 0, .int .i64 0, .string ⟨#[]⟩, .slice none 0 0]] X fun e w' => e = .returned (.bool true) ∧ Good9 w w' bx bs b9 rr l0 l1) := by
        intro X hX
        refine (HSm.out X).mono ?_
        rintro e w' ⟨rfl, hb⟩
        exact ⟨rfl, hX.below hb⟩
      go_region_held (fun X => X.cell? ⟨bs, k, none⟩ = some lk ∧ X.cell? ⟨bx, 0, none⟩ = some (.int .i64 rg) ∧ X.cell? ⟨bx, 1, none⟩ = some (.int .i64 rk) ∧ X.cell? ⟨bx, 2, none⟩ = some (.int .i64 ri) ∧ X.cell? ⟨bx, 3, none⟩ = some (.int .i64 rt) ∧ X.cell? ⟨bx, 4, none⟩ = some (.int .i64 rv) ∧ X.cell? ⟨bx, 5, none⟩ = some (.string d) ∧ X.cell? ⟨b9, 0, none⟩ = some (.int .i64 0) ∧ X.cell? ⟨b9, 1, none⟩ = some (.int .i64 0) ∧ X.cell? ⟨b9, 2, none⟩ = some (.int .i64 0) ∧ X.cell? ⟨b9, 3, none⟩ = some (.int .i64 0) ∧ X.cell? ⟨b9, 4, none⟩ = some (.string ⟨#[]⟩) ∧ X.cell? ⟨b9, 5, none⟩ = some (.slice none 0 0))
        (exact HK.out _ (by assumption))
        (first
          | (go_at_call 17; refine (KA.out _ ?_).mono ?_; assumption; rintro e w6 ⟨rfl, hg6⟩)
          | (go_at_call 19; refine (KS.out _ ?_).mono ?_; assumption; rintro e w6 ⟨rfl, hg6⟩)
          | (go_at_call 21; refine (KC.out _ ?_).mono ?_; assumption; rintro e w6 ⟨rfl, hg6⟩)
          | (go_at_call 20; refine (KZ.out _ ?_).mono ?_; assumption; rintro e w6 ⟨rfl, hg6⟩)
          | (go_at_call 26; refine (KM.out _ ?_).mono ?_; assumption; rintro e w6 ⟨rfl, hg6⟩))
      all_goals
        have HG6 : Hid _ := hg6.g
        clear hg6
        go_wp2
        go_roundw
        case rel => exact ⟨k + 1, by go_num, by omega, HG6⟩
        case measure => simp [intOf]; omega
    · obtain rfl : k = 2 := by omega
      go_wp2_with fail
      refine (HA.out _).mono ?_
      rintro e w3 ⟨rfl, hb3⟩
      have HB3 : Hid _ := hb3
      clear hb3
      go_wp2
      go_ret
      exact ⟨rfl, HG.out.old.trans (HB3.out.mono HG.out.old.size)⟩

theorem laidOut : laidOutB Try.prog = true := by kernel_rfl

theorem own : ownKnob Try.prog.godebug = none := by kernel_rfl

set_option maxRecDepth 100000 in
theorem lifted (os : Os) (started : os.Started) (H : Type) (enc : TypeId × Value → H) :
    ReturnsInHanded {} Try.checked os 7 .any (Rows.walNobodySpec.pre6 enc Try.prog Try.f7 Rows.walNobodyRow.domain false) (Rows.walNobodySpec.post enc Try.prog Try.f7 false true false false) := by
  refine returnsInHanded_of_change_sized (C := Try.checked) own started (by kernel_rfl) Try.func7
    (ChangeSpec.witness6 (enc := enc) (C := Try.checked) false ⟨#[], #[.agg #[.int .i64 0, .int .i64 0, .int .i64 0, .int .i64 0, .int .i64 0, .string ByteArray.empty], .int .i64 0], []⟩ 8 (by kernel_rfl) (by kernel_rfl) (by kernel_rfl) (by kernel_rfl)) ?_
  intro W base args ds gs before hval0 hW _ hsz0 _
  have hsz : (DataW.weightsEach Try.prog (Try.f7.params.toList ++ Rows.walNobodySpec.plain.varTypes Try.prog) (ds ++ gs)).all (· ≤ reachBytes) = true := hsz0
  have hval : ∀ (j : Nat) t v, Try.f7.params[j]? = some t → args[j]? = some v → Value.okWide Try.prog W .any base t v := hval0
  have hW' := hW
  obtain ⟨p, q, hA0, hV, rfl, hfz, hnd⟩ := hW
  have hA : DataW.TrodAll enc Try.prog W 0 (fun _ => true) true Try.f7.params.toList args.toList ds p := hA0
  rw [Try.params7] at hA hval hsz
  obtain ⟨v0, vs0, d0, ds0, p0, q0, hargs, rfl, rfl, h0, r0⟩ := trodAll_cons hA
  obtain ⟨v1, vs1, d1, ds1, p1, q1, rfl, rfl, rfl, h1, r1⟩ := trodAll_cons r0
  obtain ⟨rfl, rfl, rfl⟩ := trodAll_nil r1
  obtain rfl : args = #[v0, v1] := by cases args; simp_all
  obtain ⟨rfl, rfl⟩ := trodVars_none hV
  have k0 := h0
  have lt0 : ∀ x ∈ p0, x.block < W.heap.size := by obtain ⟨m, hm⟩ := k0; exact DataW.trod_lt m _ _ _ hm
  obtain ⟨a0, rfl, b0⟩ := open_rec (hval 0 37 v0 rfl rfl) h0
  obtain ⟨a1, rfl, rfl, rfl, w1⟩ := open_int Try.underlying3 (hval 1 3 v1 rfl rfl) h1
  have b1 : -9223372036854775808 ≤ a1 ∧ a1 ≤ 9223372036854775807 := by simpa [Lit.wf, IntKind.min, IntKind.max, IntKind.signed, IntKind.bits] using w1
  clear hA0 hval0 hsz0
  refine (walk a0 a1 W b0 b1).mono fun e W' ⟨he, bel⟩ => ?_
  subst he
  exact ⟨_, rfl, _, _, _, [], _, [], hW', trodAll_mk1 (shut_bool Try.underlying4 _), (trodAll_cons_mk (Below.trod laidOut (by kernel_rfl) (of_decide_eq_true (by kernel_rfl)) k0 bel lt0) (trodAll_cons_mk (shut_int Try.underlying3 w1) trodAll_mk0)), rfl, bel.frame _, fun h => by cases h⟩

theorem over : Rows.walNobodyRow.holds Try.pinned (OpenSpec.ofChange Rows.walNobodySpec) :=
  OpenClaim.holds_of_wide 7 Try.f7 rfl rfl rfl rfl rfl rfl rfl ⟨rfl, rfl, rfl, rfl, rfl⟩ rfl rfl rfl rfl rfl (by kernel_rfl) Try.func7 (by kernel_rfl)
    (of_decide_eq_true (by kernel_rfl)) (by unfold Func.isWrapper; first | (rw [if_pos (by decide +kernel)]; kernel_rfl) | (rw [if_neg (by decide +kernel)]; exact ⟨rfl, rfl⟩))
    (fun os started H enc _ => lifted os started H enc)


end Go.Proofs.Ytedcnnmkbenehaa.walNobody
namespace Go.Proofs.Ytedcnnmkbenehaa
/-- The statement. -/
theorem walNobody_holds : Rows.WalNobodySaid := walNobody.over
end Go.Proofs.Ytedcnnmkbenehaa
