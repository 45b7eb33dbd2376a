/-
  For every message m, every number n and every text s: RaftNobody answers true: a node that nobody made answers nothing; the arguments read afterwards as before. No condition.
-/
import Derived.Test.YteaopnhjndnpnaaNdAwake
import Derived.Test.YteaopnhjndnpnaaNdNo
import Derived.ProofKit
import Derived.OpenShut
import Derived.ShutString
import Derived.SizedLaws
namespace Go.Proofs.Yteaopnhjndnpnaa.raftNobody
open Go.ChangeShapes Go.WideShapes Go.ChangeAt Go.RowKit
open Go.ChangeMaps (open_string shut_string)

theorem Same_nil (w : World) : Calls Try.prog 23 #[.slice none 0 0, .slice none 0 0] w fun e w' => e = .returned (.bool true) ∧ w' = w := by
  go_enter Try.func23, Try.ntmps23
  go_wp2
  go_loopw [5] (fun x wr => x = .int .i64 0 ∧ wr = w) (fun _ _ => 0)
  case atStart => exact ⟨rfl, rfl⟩
  case round =>
    obtain ⟨rfl, rfl⟩ := hrel
    go_wp2
    go_ret
    exact ⟨rfl, rfl⟩

theorem SameSaved_nil (w : World) : Calls Try.prog 20 #[.agg #[.int .i64 0, .int .i64 0, .int .i64 0, .int .i64 0, .string ⟨#[]⟩, .slice none 0 0], .agg #[.int .i64 0, .int .i64 0, .int .i64 0, .int .i64 0, .string ⟨#[]⟩, .slice none 0 0]] w fun e w' => e = .returned (.bool true) ∧ Below w.heap.size w w' := by
  go_enter Try.func20, Try.ntmps20
  go_wp2_with fail
  refine Calls.mono (Same_nil _) ?_
  rintro e w1 ⟨rfl, hw⟩
  subst hw
  go_wp2
  go_ret
  exact ⟨rfl, (below_alloc _ _).trans ((below_alloc _ _).mono (by simp))⟩

def msgCs (m : MsgA) : Array Value := #[.int .i64 m.kind, .int .i64 m.group, .int .i64 m.frm, .int .i64 m.to, .int .i64 m.term, .int .i64 m.index, .int .i64 m.at_, .slice m.p m.n m.c, .int .i64 m.commit, .bool m.ok, .string m.data]

/-- What stays while a node that is none is asked. -/
structure Good (w X : World) (bx bs : Nat) (m : MsgA) (l0 l1 : Value) : Prop where
  old : Below w.heap.size w X
  lx : bx < X.heap.size
  ls : bs < X.heap.size
  r : ∀ j, X.cell? ⟨bx, j, none⟩ = (msgCs m)[j]?
  s : ∀ j, X.cell? ⟨bs, j, none⟩ = (#[l0, l1] : Array Value)[j]?
  n0 : NoN X l0
  n1 : NoN X l1
theorem Good.below {w X Y : World} {bx bs : Nat} {m : MsgA} {l0 l1 : Value} (h : Good w X bx bs m l0 l1) (hb : Below X.heap.size X Y) : Good w Y bx bs m l0 l1 :=
  ⟨h.old.trans (hb.mono h.old.size), Nat.lt_of_lt_of_le h.lx hb.size, Nat.lt_of_lt_of_le h.ls hb.size, fun j => (hb.cell (p := ⟨bx, j, none⟩) h.lx).trans (h.r j), fun j => (hb.cell (p := ⟨bs, j, none⟩) h.ls).trans (h.s j), h.n0.below hb, h.n1.below hb⟩

def zeroNode : Array Value := #[.int .i64 0, .int .i64 0, .int .i64 0, .map none, .pointer none, .string ⟨#[]⟩, .int .i64 0, .int .i64 0, .int .i64 0, .int .i64 0, .int .i64 0, .int .i64 0, .int .i64 0, .bool false, .bool false, .bool false, .bool false, .bool false, .bool false, .bool false, .int .i64 0, .int .i64 0, .int .i64 0, .int .i64 0, .int .i64 0, .int .i64 0, .int .i64 0, .int .i64 0, .int .i64 0, .int .i64 0, .int .i64 0, .int .i64 0, .int .i64 0, .int .i64 0, .slice none 0 0]

set_option maxHeartbeats 1600000 in
set_option maxRecDepth 20000 in
theorem walk (a0 : MsgA) (a1 : Int) (a2 : ByteArray) (w : World) (_b0 : True) (_b1 : -9223372036854775808 ≤ a1 ∧ a1 ≤ 9223372036854775807) (_b2 : a2.size ≤ 140737488351232) :
    Calls Try.prog 5 #[msgAV a0, .int .i64 a1, .string a2] w fun e w' => e = .returned (.bool true) ∧ Below w.heap.size w w' := by
  have HA : Hid (∀ u : World, Calls Try.prog 9 #[] u fun e w' => e = .returned (.bool true) ∧ Below u.heap.size u w') := awake_c
  obtain ⟨u, hu⟩ : ∃ u, u = ((w.alloc (.cells (msgCs a0) 48)).alloc (.cells zeroNode 57)).alloc (.cells #[.pointer none, .pointer (some ⟨w.heap.size + 1, 0, none⟩)] 38) := ⟨_, rfl⟩
  obtain ⟨bx, hbx⟩ : ∃ bx, bx = w.heap.size := ⟨_, rfl⟩
  obtain ⟨bs, hbs⟩ : ∃ bs, bs = w.heap.size + 1 + 1 := ⟨_, rfl⟩
  have hBu : Below w.heap.size w u := by rw [hu]; exact ((below_alloc _ _).trans ((below_alloc _ _).mono (by simp))).trans ((below_alloc _ _).mono (by simp; omega))
  have hcl : u.cell? ⟨w.heap.size + 1, 4, none⟩ = some (.pointer none) := by
    have e := World.cell?_alloc_mark (w.alloc (.cells (msgCs a0) 48)) zeroNode 57 (0, 0) 4
    rw [hu, World.cell?_alloc_lt _ _ _ (by simp)]
    have e2 : (w.alloc (.cells (msgCs a0) 48)).heap.size = w.heap.size + 1 := by simp
    rw [e2] at e
    exact e
  have HG0 : Hid (Good w u bx bs a0 (.pointer none) (.pointer (some ⟨bx + 1, 0, none⟩))) := by
    refine ⟨hBu, by rw [hu, hbx]; simp; omega, by rw [hu, hbs]; simp, fun j => ?_, fun j => ?_, .inl rfl, .inr ⟨_, rfl, by rw [hbx]; exact hcl⟩⟩
    · rw [hu, hbx, World.cell?_alloc_lt _ _ _ (by simp; omega), World.cell?_alloc_lt _ _ _ (by simp)]
      exact World.cell?_alloc_mark w _ _ _ j
    · have e := World.cell?_alloc_mark ((w.alloc (.cells (msgCs a0) 48)).alloc (.cells zeroNode 57)) #[.pointer none, .pointer (some ⟨w.heap.size + 1, 0, none⟩)] 38 (0, 0) j
      rw [hbx, ← e, hu, hbs]
      simp
  obtain ⟨l1, hl1⟩ : ∃ l1, l1 = Value.pointer (some ⟨bx + 1, 0, none⟩) := ⟨_, rfl⟩
  rw [← hl1] at HG0
  obtain ⟨l0, hl0⟩ : ∃ l0, l0 = Value.pointer none := ⟨_, rfl⟩
  rw [← hl0] at HG0
  unfold msgCs zeroNode at hu
  unfold msgAV
  clear _b0 _b1 _b2 hBu hcl hl1 hl0
  go_enter Try.func5, Try.ntmps5
  go_wp2
  rw [← hu, ← hbs, ← hbx]
  clear hu hbs hbx
  go_loopw [8] (fun x wr => ∃ k : Nat, x = .int .i64 (k : Int) ∧ k ≤ 2 ∧ Hid (Good w wr bx bs a0 l0 l1)) (fun x _ => 2 - (intOf x).toNat)
  case atStart => exact ⟨0, rfl, by omega, HG0⟩
  case round =>
    clear HG0
    obtain ⟨k, rfl, hk2, HG⟩ := hrel
    by_cases hlt : k < 2
    · obtain ⟨lk, hlk, hno⟩ : ∃ lk, (∀ X, Good w X bx bs a0 l0 l1 → X.cell? ⟨bs, k, none⟩ = some lk) ∧ (∀ X, Good w X bx bs a0 l0 l1 → NoN X lk) := by
        match k, hlt with
        | 0, _ => exact ⟨l0, fun X hX => hX.s 0, fun X hX => hX.n0⟩
        | 1, _ => exact ⟨l1, fun X hX => hX.s 1, fun X hX => hX.n1⟩
      have c0 := hlk wr HG.out
      have r0 := HG.out.r 0
      have r1 := HG.out.r 1
      have r2 := HG.out.r 2
      have r3 := HG.out.r 3
      have r4 := HG.out.r 4
      have r5 := HG.out.r 5
      have r6 := HG.out.r 6
      have r7 := HG.out.r 7
      have r8 := HG.out.r 8
      have r9 := HG.out.r 9
      have r10 := HG.out.r 10
      have hk0 : (0 : Int) ≤ (k : Int) := by omega
      have hk1 : (k : Int) < 2 := by omega
      have HPr : Hid _ := Propose_no (hno wr HG.out) a2
      have HRe : Hid (Calls Try.prog 17 #[lk, .agg #[.int .i64 a0.kind, .int .i64 a0.group, .int .i64 a0.frm, .int .i64 a0.to, .int .i64 a0.term, .int .i64 a0.index, .int .i64 a0.at_, .slice a0.p a0.n a0.c, .int .i64 a0.commit, .bool a0.ok, .string a0.data]] wr fun e w' => e = .returned (.slice none 0 0) ∧ Good w w' bx bs a0 l0 l1) := (Receive_no (hno wr HG.out) a0).mono (by rintro e w' ⟨rfl, hb⟩; exact ⟨rfl, HG.out.below hb⟩)
      have HTi : Hid (∀ X, Good w X bx bs a0 l0 l1 → Calls Try.prog 18 #[lk, .int .i64 a1] X fun e w' => e = .returned (.slice none 0 0) ∧ Good w w' bx bs a0 l0 l1) := fun X hX => (Tick_no (hno X hX) a1).mono (by rintro e w' ⟨rfl, hb⟩; exact ⟨rfl, hX.below hb⟩)
      have HRc : Hid (∀ X, Good w X bx bs a0 l0 l1 → Calls Try.prog 19 #[lk] X fun e w' => e = .returned (.slice none 0 0) ∧ w' = X) := fun X hX => Records_no (hno X hX)
      have HCo : Hid (∀ X, Good w X bx bs a0 l0 l1 → Calls Try.prog 13 #[lk, .int .i64 a1, .string a2] X fun e w' => e = .returned (.int .i64 1) ∧ w' = X) := fun X hX => CompactN_no (hno X hX) a1 a2
      have HSa : Hid (∀ X, Good w X bx bs a0 l0 l1 → Calls Try.prog 15 #[lk] X fun e w' => e = .returned (.agg #[.int .i64 0, .int .i64 0, .int .i64 0, .int .i64 0, .string ⟨#[]⟩, .slice none 0 0]) ∧ Good w w' bx bs a0 l0 l1) := fun X hX => (Saved_no (hno X hX)).mono (by rintro e w' ⟨rfl, hb⟩; exact ⟨rfl, hX.below hb⟩)
      have HSS : Hid (∀ X, Good w X bx bs a0 l0 l1 → Calls Try.prog 20 #[.agg #[.int .i64 0, .int .i64 0, .int .i64 0, .int .i64 0, .string ⟨#[]⟩, .slice none 0 0], .agg #[.int .i64 0, .int .i64 0, .int .i64 0, .int .i64 0, .string ⟨#[]⟩, .slice none 0 0]] X fun e w' => e = .returned (.bool true) ∧ Good w w' bx bs a0 l0 l1) := fun X hX => (SameSaved_nil X).mono (by rintro e w' ⟨rfl, hb⟩; exact ⟨rfl, hX.below hb⟩)
      have HRo : Hid (∀ X, Good w X bx bs a0 l0 l1 → Calls Try.prog 11 #[lk] X fun e w' => e = .returned (.int .i64 0) ∧ w' = X) := fun X hX => Role_no (hno X hX)
      have HLe : Hid (∀ X, Good w X bx bs a0 l0 l1 → Calls Try.prog 21 #[lk] X fun e w' => e = .returned (.int .i64 0) ∧ w' = X) := fun X hX => LeadN_no (hno X hX)
      have HCm : Hid (∀ X, Good w X bx bs a0 l0 l1 → Calls Try.prog 12 #[lk] X fun e w' => e = .returned (.int .i64 0) ∧ w' = X) := fun X hX => CommitN_no (hno X hX)
      have HLf : Hid (∀ X, Good w X bx bs a0 l0 l1 → Calls Try.prog 22 #[lk] X fun e w' => e = .returned (.int .i64 0) ∧ w' = X) := fun X hX => Left_no (hno X hX)
      clear hno hlk
      unfold msgCs at r0 r1 r2 r3 r4 r5 r6 r7 r8 r9 r10
      simp only [List.getElem?_toArray, List.getElem?_cons_zero, List.getElem?_cons_succ] at r0 r1 r2 r3 r4 r5 r6 r7 r8 r9 r10
      go_wp2_with fail
      refine Calls.mono HPr.out ?_
      rintro e w1 ⟨rfl, hw⟩
      subst hw
      go_wp2_with fail
      refine Calls.mono HRe.out ?_
      rintro e w2 ⟨rfl, h2⟩
      have HG2 : Hid (Good w w2 bx bs a0 l0 l1) := h2
      clear h2 r0 r1 r2 r3 r4 r5 r6 r7 r8 r9 r10 c0 HPr HRe
      go_wp2_with fail
      refine Calls.mono (HTi.out _ HG2.out) ?_
      rintro e w3 ⟨rfl, h3⟩
      have HG3 : Hid (Good w w3 bx bs a0 l0 l1) := h3
      clear h3
      go_wp2_with fail
      refine Calls.mono (HRc.out _ HG3.out) ?_
      rintro e w4 ⟨rfl, hw⟩
      subst hw
      go_wp2_with fail
      refine Calls.mono (HCo.out _ HG3.out) ?_
      rintro e w5 ⟨rfl, hw⟩
      subst hw
      go_wp2_with fail
      refine Calls.mono (HSa.out _ HG3.out) ?_
      rintro e w6 ⟨rfl, h6⟩
      have HG6 : Hid (Good w w6 bx bs a0 l0 l1) := h6
      clear h6
      go_wp2_with fail
      refine Calls.mono (HSS.out _ HG6.out) ?_
      rintro e w7 ⟨rfl, h7⟩
      have HG7 : Hid (Good w w7 bx bs a0 l0 l1) := h7
      clear h7
      go_wp2_with fail
      refine Calls.mono (HRo.out _ HG7.out) ?_
      rintro e w8 ⟨rfl, hw⟩
      subst hw
      go_wp2_with fail
      refine Calls.mono (HLe.out _ HG7.out) ?_
      rintro e w9 ⟨rfl, hw⟩
      subst hw
      go_wp2_with fail
      refine Calls.mono (HCm.out _ HG7.out) ?_
      rintro e w10 ⟨rfl, hw⟩
      subst hw
      go_wp2_with fail
      refine Calls.mono (HLf.out _ HG7.out) ?_
      rintro e w11 ⟨rfl, hw⟩
      subst hw
      go_wp2
      go_roundw
      case rel => exact ⟨k + 1, by go_num, by omega, HG7⟩
      case measure => simp [intOf]; omega
    · obtain rfl : k = 2 := by omega
      go_wp2_with fail
      refine Calls.mono (Same_nil _) ?_
      rintro e w2 ⟨rfl, hw⟩
      subst hw
      go_wp2_with fail
      refine (HA.out _).mono ?_
      rintro e w3 ⟨rfl, hb3⟩
      have HB3 : Hid _ := hb3
      clear hb3
      go_wp2
      go_ret
      exact ⟨rfl, HG.out.old.trans (HB3.out.mono HG.out.old.size)⟩

theorem laidOut : laidOutB Try.prog = true := by kernel_rfl

theorem own : ownKnob Try.prog.godebug = none := by kernel_rfl

set_option maxRecDepth 100000 in
theorem lifted (os : Os) (started : os.Started) (H : Type) (enc : TypeId × Value → H) :
    ReturnsInHanded {} Try.checked os 5 .any (Rows.raftNobodySpec.pre6 enc Try.prog Try.f5 Rows.raftNobodyRow.domain false) (Rows.raftNobodySpec.post enc Try.prog Try.f5 false true false false) := by
  refine returnsInHanded_of_change_sized (C := Try.checked) own started (by kernel_rfl) Try.func5
    (ChangeSpec.witness6 (enc := enc) (C := Try.checked) false ⟨#[], #[.agg #[.int .i64 0, .int .i64 0, .int .i64 0, .int .i64 0, .int .i64 0, .int .i64 0, .int .i64 0, .slice none 0 0, .int .i64 0, .bool false, .string ByteArray.empty], .int .i64 0, .string ByteArray.empty], []⟩ 8 (by kernel_rfl) (by kernel_rfl) (by kernel_rfl) (by kernel_rfl)) ?_
  intro W base args ds gs before hval0 hW _ hsz0 _
  have hsz : (DataW.weightsEach Try.prog (Try.f5.params.toList ++ Rows.raftNobodySpec.plain.varTypes Try.prog) (ds ++ gs)).all (· ≤ reachBytes) = true := hsz0
  have hval : ∀ (j : Nat) t v, Try.f5.params[j]? = some t → args[j]? = some v → Value.okWide Try.prog W .any base t v := hval0
  have hW' := hW
  obtain ⟨p, q, hA0, hV, rfl, hfz, hnd⟩ := hW
  have hA : DataW.TrodAll enc Try.prog W 0 (fun _ => true) true Try.f5.params.toList args.toList ds p := hA0
  rw [Try.params5] at hA hval hsz
  obtain ⟨v0, vs0, d0, ds0, p0, q0, hargs, rfl, rfl, h0, r0⟩ := trodAll_cons hA
  obtain ⟨v1, vs1, d1, ds1, p1, q1, rfl, rfl, rfl, h1, r1⟩ := trodAll_cons r0
  obtain ⟨v2, vs2, d2, ds2, p2, q2, rfl, rfl, rfl, h2, r2⟩ := trodAll_cons r1
  obtain ⟨rfl, rfl, rfl⟩ := trodAll_nil r2
  obtain rfl : args = #[v0, v1, v2] := by cases args; simp_all
  obtain ⟨rfl, rfl⟩ := trodVars_none hV
  have k0 := h0
  have lt0 : ∀ x ∈ p0, x.block < W.heap.size := by obtain ⟨m, hm⟩ := k0; exact DataW.trod_lt m _ _ _ hm
  obtain ⟨a0, rfl, b0⟩ := open_msg (hval 0 48 v0 rfl rfl) h0
  obtain ⟨a1, rfl, rfl, rfl, w1⟩ := open_int Try.underlying3 (hval 1 3 v1 rfl rfl) h1
  have b1 : -9223372036854775808 ≤ a1 ∧ a1 ≤ 9223372036854775807 := by simpa [Lit.wf, IntKind.min, IntKind.max, IntKind.signed, IntKind.bits] using w1
  obtain ⟨a2, rfl, rfl, rfl, w2⟩ := open_string Try.underlying9 (hval 2 9 v2 rfl rfl) h2
  have b2 : a2.size ≤ 140737488351232 := by have := sized_string hsz (j := 2) (t := 9) rfl rfl; simpa [reachBytes] using this
  clear hA0 hval0 hsz0
  refine (walk a0 a1 a2 W b0 b1 b2).mono fun e W' ⟨he, bel⟩ => ?_
  subst he
  exact ⟨_, rfl, _, _, _, [], _, [], hW', trodAll_mk1 (shut_bool Try.underlying4 _), (trodAll_cons_mk (Below.trod laidOut (by kernel_rfl) (of_decide_eq_true (by kernel_rfl)) k0 bel lt0) (trodAll_cons_mk (shut_int Try.underlying3 w1) (trodAll_cons_mk (shut_string Try.underlying9 w2) trodAll_mk0))), rfl, bel.frame _, fun h => by cases h⟩

theorem over : Rows.raftNobodyRow.holds Try.pinned (OpenSpec.ofChange Rows.raftNobodySpec) :=
  OpenClaim.holds_of_wide 5 Try.f5 rfl rfl rfl rfl rfl rfl rfl ⟨rfl, rfl, rfl, rfl, rfl⟩ rfl rfl rfl rfl rfl (by kernel_rfl) Try.func5 (by kernel_rfl)
    (of_decide_eq_true (by kernel_rfl)) (by unfold Func.isWrapper; first | (rw [if_pos (by decide +kernel)]; kernel_rfl) | (rw [if_neg (by decide +kernel)]; exact ⟨rfl, rfl⟩))
    (fun os started H enc _ => lifted os started H enc)


end Go.Proofs.Yteaopnhjndnpnaa.raftNobody
namespace Go.Proofs.Yteaopnhjndnpnaa
/-- The statement. -/
theorem raftNobody_holds : Rows.RaftNobodySaid := raftNobody.over
end Go.Proofs.Yteaopnhjndnpnaa
