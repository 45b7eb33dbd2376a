/-
  For every number: SlotsEven answers true: at first groups have as many slots as each other, but for one; the argument reads afterwards as before. No condition.
-/
import Derived.Test.YtmdnegjpdedcnaaSlCt
import Derived.ProofKit
import Derived.OpenShut
import Derived.ShutString
import Derived.SizedLaws
namespace Go.Proofs.Ytmdnegjpdedcnaa.slotsEven
open Go.ChangeShapes Go.WideShapes Go.ChangeAt Go.RowKit
open Go.ChangeMaps (open_string shut_string)

theorem even_all : ∀ k : Fin 9, 1 ≤ k.val → (Sl.rng (Sl.new k.val).O 16).length = k.val ∧ ∀ g : Fin 9, 1 ≤ g.val → g.val ≤ k.val → 16 / k.val ≤ cntTo (Sl.new k.val).O 16 g.val ∧ cntTo (Sl.new k.val).O 16 g.val ≤ (16 + k.val - 1) / k.val := by decide +kernel
theorem even_r {k : Nat} (h : 1 ≤ k ∧ k ≤ 8) : (Sl.rng (Sl.new k).O 16).length = k := (even_all ⟨k, by omega⟩ h.1).1
theorem even_c {k g : Nat} (h : 1 ≤ k ∧ k ≤ 8) (h1 : 1 ≤ g) (h2 : g ≤ k) : 16 / k ≤ cntTo (Sl.new k).O 16 g ∧ cntTo (Sl.new k).O 16 g ≤ (16 + k - 1) / k := (even_all ⟨k, by omega⟩ h.1).2 ⟨g, by omega⟩ h1 h2

set_option maxHeartbeats 1600000 in
set_option maxRecDepth 20000 in
theorem walk (a0 : Int) (w : World) (_b0 : -9223372036854775808 ≤ a0 ∧ a0 ≤ 9223372036854775807) :
    Calls Try.prog 7 #[.int .i64 a0] w fun e w' => e = .returned (.bool true) ∧ Below w.heap.size w w' := by
  have HA : Hid (∀ u : World, Calls Try.prog 13 #[] u fun e w' => e = .returned (.bool true) ∧ Below u.heap.size u w') := awake_c
  obtain ⟨k, hk, hk1, hk8⟩ : ∃ k : Nat, 1 + a0 % 8 = (k : Int) ∧ 1 ≤ k ∧ k ≤ 8 := ⟨(1 + a0 % 8).toNat, by omega, by omega, by omega⟩
  have hand : bits BinOp.and IntKind.i64 a0 7 = (k : Int) - 1 := by rw [and_7]; omega
  have hkw : (1 : Int) + ((k : Int) - 1) = (k : Int) := by omega
  have HNew : Hid _ := NewS_sn w w (Below.refl _ _) k ⟨hk1, hk8⟩
  have HK : Hid (1 ≤ k ∧ k ≤ 8) := ⟨hk1, hk8⟩
  obtain ⟨B, hB⟩ : ∃ B, B = w.heap.size := ⟨_, rfl⟩
  clear _b0 hk
  go_enter Try.func7, Try.ntmps7
  go_wp2_with fail
  refine Calls.mono HNew.out ?_
  rintro e w1 ⟨rfl, h1, -⟩
  rw [← hB] at h1 ⊢
  have HCt : Hid _ := Ct.start (m := 9) h1
  have hmk := run_makeN 9 (by omega) w1
  rw [show ((9 : Nat) : Int) = 9 from rfl] at hmk
  have HB : Hid (B = w.heap.size) := hB
  clear h1 hB HNew hand
  obtain ⟨X, hX⟩ : ∃ X, X = w1.alloc (.cells (noN 9) 3) := ⟨_, rfl⟩
  obtain ⟨bh, hbh⟩ : ∃ bh, bh = w1.heap.size := ⟨_, rfl⟩
  rw [← hX, ← hbh] at HCt hmk
  go_wp2
  try rw [← hX]
  try rw [← hbh]
  clear hX hbh hmk
  go_loopw [7] (fun x wr => ∃ i : Nat, x = .int .i64 (i : Int) ∧ i ≤ 16 ∧ Hid (Ct w B bh 9 (Sl.new k) (cntTo (Sl.new k).O i) wr)) (fun x _ => 16 - (intOf x).toNat)
  case atStart => exact ⟨0, rfl, by omega, HCt⟩
  case round =>
    clear HCt
    obtain ⟨i, rfl, hi, HC⟩ := hrel
    by_cases hlt : i < 16
    · obtain ⟨og, hog⟩ : ∃ og, og = (Sl.new k).O i := ⟨_, rfl⟩
      have ho1 : 1 ≤ og := by rw [hog]; exact (HC.out.sn.sm.ok i hlt).1
      have hok : og ≤ k := by rw [hog]; exact Sl.new_le HK.out hlt
      have HO : Hid (Calls Try.prog 23 #[.pointer (some ⟨B, 0, none⟩), .int .i64 (i : Int)] wr fun e w' => e = .returned (.tuple #[.int .i64 (og : Int), .int .i64 1, .int .i64 0]) ∧ Ct w B bh 9 (Sl.new k) (cntTo (Sl.new k).O i) w') := by
        have := OwnerS_yes HC.out.sn.sm i hlt
        rw [← hog] at this
        refine this.mono ?_
        rintro e w' ⟨rfl, h2⟩
        exact ⟨rfl, HC.out.below h2⟩
      have HN : Hid (∀ Y, Ct w B bh 9 (Sl.new k) (cntTo (Sl.new k).O i) Y → Ct w B bh 9 (Sl.new k) (cntTo (Sl.new k).O (i + 1)) (Y.setCell ⟨bh, og, none⟩ (.int .i64 ((cntTo (Sl.new k).O i og : Nat) + 1 : Int)))) := fun Y hY => by
        have := hY.inc (g := og) (by omega)
        rw [hog] at this ⊢
        exact this
      have hcb := cntTo_le (Sl.new k).O i og
      obtain ⟨q, hq⟩ : ∃ q, q = cntTo (Sl.new k).O i og := ⟨_, rfl⟩
      rw [← hq] at hcb HN
      have HQ : Hid (q = cntTo (Sl.new k).O i og) := hq
      clear hog hq
      go_wp2_with fail
      refine Calls.mono HO.out ?_
      rintro e w2 ⟨rfl, h2⟩
      have H2 : Hid _ := h2
      have c2 := h2.c og (by omega)
      rw [← HQ.out] at c2
      have f2 := h2.fz og
      clear h2
      go_wp2
      go_roundw
      case rel => exact ⟨i + 1, by go_num, by omega, HN.out _ H2.out⟩
      case measure => simp [intOf]; omega
    · obtain rfl : i = 16 := by omega
      have HCo : Hid (∀ g, g < 9 → wr.cell? ⟨bh, g, none⟩ = some (.int .i64 (cntTo (Sl.new k).O 16 g : Int))) := HC.out.c
      obtain ⟨q1, hq1⟩ : ∃ q1 : Nat, q1 = 16 / k := ⟨_, rfl⟩
      obtain ⟨q2, hq2⟩ : ∃ q2 : Nat, q2 = (16 + k - 1) / k := ⟨_, rfl⟩
      have e1 : (16 : Int) / (k : Int) = (q1 : Int) := by rw [hq1]; rfl
      have e2 : (16 + (k : Int) - 1) / (k : Int) = (q2 : Int) := by rw [hq2, show (16 + (k : Int) - 1) = ((16 + k - 1 : Nat) : Int) by omega]; rfl
      have HQ1 : Hid (q1 = 16 / k) := hq1
      have HQ2 : Hid (q2 = (16 + k - 1) / k) := hq2
      clear hq1 hq2 hi hlt
      go_wp2
      go_loopw [11] (fun x wq => ∃ (g d : Nat), x = .int .i64 (g : Int) ∧ 1 ≤ g ∧ g ≤ k + 1 ∧ wq = wr.drewN d) (fun x _ => 10 - (intOf x).toNat)
      case atStart => exact ⟨1, 0, rfl, by omega, by omega, rfl⟩
      case round =>
        obtain ⟨g, d, rfl, hg1, hgk, rfl⟩ := hrel
        by_cases hlt : g ≤ k
        · obtain ⟨n, hn⟩ : ∃ n, n = cntTo (Sl.new k).O 16 g := ⟨_, rfl⟩
          have cn := HCo.out g (by omega)
          obtain ⟨b1, b2⟩ := even_c HK.out hg1 hlt
          rw [← hn] at cn b1 b2
          rw [← HQ1.out] at b1
          rw [← HQ2.out] at b2
          have t1 : ¬ n < q1 := by omega
          have t2 : ¬ q2 < n := by omega
          clear hn b1 b2
          go_wp2
          go_region
          go_wp2
          go_roundw
          case rel => exact ⟨g + 1, d + 1, by go_num, by omega, by omega, rfl⟩
          case measure => simp [intOf]; omega
        · obtain rfl : g = k + 1 := by omega
          have HRg : Hid (Calls Try.prog 22 #[.pointer (some ⟨B, 0, none⟩)] (wr.drewN d) fun e w' => ∃ p c, e = .returned (.slice p k c) ∧ Below w.heap.size w w') := by
            have h3 := (HC.out.below (below_drewN wr d)).sn
            refine (RangesS_c h3.sm).mono ?_
            rintro e w' ⟨v, rfl, h4⟩
            obtain ⟨p, c, hv, _⟩ := h4.row.form
            rw [even_r HK.out] at hv
            exact ⟨p, c, by rw [hv], h3.old.trans (h4.old.mono h3.old.size)⟩
          have hf : ¬ (k : Int) + 1 ≤ (k : Int) := by omega
          go_wp2_with fail
          refine Calls.mono HRg.out ?_
          rintro e w3 ⟨p, c, rfl, h3⟩
          have H3 : Hid _ := h3
          clear h3
          go_wp2_with fail
          refine (HA.out _).mono ?_
          rintro e w4 ⟨rfl, hb4⟩
          have HB4 : Hid _ := hb4
          clear hb4
          go_wp2
          go_ret
          exact ⟨rfl, H3.out.trans (HB4.out.mono H3.out.size)⟩

theorem own : ownKnob Try.prog.godebug = none := by kernel_rfl

set_option maxRecDepth 100000 in
theorem lifted (os : Os) (started : os.Started) (H : Type) (enc : TypeId × Value → H) :
    ReturnsInHanded {} Try.checked os 7 .any (Rows.slotsEvenSpec.pre6 enc Try.prog Try.f7 Rows.slotsEvenRow.domain false) (Rows.slotsEvenSpec.post enc Try.prog Try.f7 false true false false) := by
  refine returnsInHanded_of_change_sized (C := Try.checked) own started (by kernel_rfl) Try.func7
    (ChangeSpec.witness6 (enc := enc) (C := Try.checked) false ⟨#[], #[.int .i64 0], []⟩ 8 (by kernel_rfl) (by kernel_rfl) (by kernel_rfl) (by kernel_rfl)) ?_
  intro W base args ds gs before hval0 hW _ hsz0 _
  have hsz : (DataW.weightsEach Try.prog (Try.f7.params.toList ++ Rows.slotsEvenSpec.plain.varTypes Try.prog) (ds ++ gs)).all (· ≤ reachBytes) = true := hsz0
  have hval : ∀ (j : Nat) t v, Try.f7.params[j]? = some t → args[j]? = some v → Value.okWide Try.prog W .any base t v := hval0
  have hW' := hW
  obtain ⟨p, q, hA0, hV, rfl, hfz, hnd⟩ := hW
  have hA : DataW.TrodAll enc Try.prog W 0 (fun _ => true) true Try.f7.params.toList args.toList ds p := hA0
  rw [Try.params7] at hA hval hsz
  obtain ⟨v0, vs0, d0, ds0, p0, q0, hargs, rfl, rfl, h0, r0⟩ := trodAll_cons hA
  obtain ⟨rfl, rfl, rfl⟩ := trodAll_nil r0
  obtain rfl : args = #[v0] := by cases args; simp_all
  obtain ⟨rfl, rfl⟩ := trodVars_none hV
  obtain ⟨a0, rfl, rfl, rfl, w0⟩ := open_int Try.underlying3 (hval 0 3 v0 rfl rfl) h0
  have b0 : -9223372036854775808 ≤ a0 ∧ a0 ≤ 9223372036854775807 := by simpa [Lit.wf, IntKind.min, IntKind.max, IntKind.signed, IntKind.bits] using w0
  clear hA0 hval0 hsz0
  refine (walk a0 W b0).mono fun e W' ⟨he, bel⟩ => ?_
  subst he
  exact ⟨_, rfl, _, _, _, [], _, [], hW', trodAll_mk1 (shut_bool Try.underlying4 _), (trodAll_cons_mk (shut_int Try.underlying3 w0) trodAll_mk0), rfl, bel.frame _, fun h => by cases h⟩

theorem over : Rows.slotsEvenRow.holds Try.pinned (OpenSpec.ofChange Rows.slotsEvenSpec) :=
  OpenClaim.holds_of_wide 7 Try.f7 rfl rfl rfl rfl rfl rfl rfl ⟨rfl, rfl, rfl, rfl, rfl⟩ rfl rfl rfl rfl rfl (by kernel_rfl) Try.func7 (by kernel_rfl)
    (of_decide_eq_true (by kernel_rfl)) (by unfold Func.isWrapper; first | (rw [if_pos (by decide +kernel)]; kernel_rfl) | (rw [if_neg (by decide +kernel)]; exact ⟨rfl, rfl⟩))
    (fun os started H enc _ => lifted os started H enc)


end Go.Proofs.Ytmdnegjpdedcnaa.slotsEven
namespace Go.Proofs.Ytmdnegjpdedcnaa
/-- The statement. -/
theorem slotsEven_holds : Rows.SlotsEvenSaid := slotsEven.over
end Go.Proofs.Ytmdnegjpdedcnaa
