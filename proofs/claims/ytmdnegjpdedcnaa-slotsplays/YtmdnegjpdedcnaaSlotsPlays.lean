/-
  For every number of groups and every list of pairs of numbers: SlotsPlays answers true: whatever is given to whom, a map tells what the document's does; the arguments read afterwards as before. No condition.
-/
import Derived.Test.YtmdnegjpdedcnaaSlPl
import Derived.Test.YtmdnegjpdedcnaaSlArgs
import Derived.ProofKit
import Derived.OpenShut
import Derived.ShutString
import Derived.SizedLaws
import Derived.Deep.RegionHeld
namespace Go.Proofs.Ytmdnegjpdedcnaa.slotsPlays
open Go.ChangeShapes Go.WideShapes Go.ChangeAt Go.RowKit
open Go.ChangeMaps (open_string shut_string)

theorem walk_out (a0 : Int) (v1 : Value) (w : World) (h : ¬ (1 ≤ a0 ∧ a0 ≤ 8)) :
    Calls Try.prog 4 #[.int .i64 a0, v1] w fun e w' => e = .returned (.bool true) ∧ Below w.heap.size w w' := by
  have HA : Hid (∀ u : World, Calls Try.prog 13 #[] u fun e w' => e = .returned (.bool true) ∧ Below u.heap.size u w') := awake_c
  have HN : Hid _ := NewS_no w a0 h
  have HR : Hid _ := rNewS_bad a0 h w
  clear h
  go_enter Try.func4, Try.ntmps4
  go_wp2_with fail
  refine Calls.mono HN.out ?_
  rintro e w1 ⟨rfl, hw⟩
  have hw := hw.symm
  subst hw
  go_wp2_with fail
  refine Calls.mono HR.out ?_
  rintro e w2 ⟨rfl, h2⟩
  have HB2 : Hid (∀ o, Below w.heap.size w (w2.alloc o)) := fun o => h2.trans ((below_alloc w2 o).mono h2.size)
  clear h2
  go_wp2_with fail
  refine (HA.out _).mono ?_
  rintro e w3 ⟨rfl, hb3⟩
  have HB3 : Hid _ := hb3
  clear hb3
  go_wp2
  go_ret
  exact ⟨rfl, (HB2.out _).trans (HB3.out.mono (HB2.out _).size)⟩

set_option maxHeartbeats 3200000 in
set_option maxRecDepth 20000 in
theorem walk_in (k : Nat) (v1 : Value) (a1 : List (Int × Int)) (w : World) (hk : 1 ≤ k ∧ k ≤ 8) (_b1 : Elems w 2 a2Cells A2In v1 a1) :
    Calls Try.prog 4 #[.int .i64 (k : Int), v1] w fun e w' => e = .returned (.bool true) ∧ Below w.heap.size w w' := by
  have HA : Hid (∀ u : World, Calls Try.prog 13 #[] u fun e w' => e = .returned (.bool true) ∧ Below u.heap.size u w') := awake_c
  obtain ⟨p0, c0, hv0, hc1, hc2, hgood, hcells⟩ := _b1
  obtain ⟨n0, hn0⟩ : ∃ n0, n0 = a1.length := ⟨_, rfl⟩
  rw [← hn0] at hv0 hc1
  have HI : Hid (∀ k, k < n0 → ∃ x y g o, p0 = some ⟨g, o, none⟩ ∧ ∀ X, Below w.heap.size w X → X.cell? ⟨g, o + k * 2, none⟩ = some (.int .i64 x) ∧ X.cell? ⟨g, o + k * 2 + 1, none⟩ = some (.int .i64 y)) := by
    intro k hk
    obtain ⟨q, hq⟩ : ∃ q, a1[k]? = some q := ⟨_, List.getElem?_eq_getElem (by omega)⟩
    rcases hcells with h | ⟨g, o, hp, hg, hcs⟩
    · rw [h] at hq
      simp at hq
    · refine ⟨q.1, q.2, g, o, hp, fun X hX => ?_⟩
      have e : ∀ j, X.cell? ⟨g, j, none⟩ = w.cell? ⟨g, j, none⟩ := fun j => hX.cell (p := ⟨g, j, none⟩) hg
      rw [e, e]
      exact ⟨hcs k q hq 0 _ rfl, hcs k q hq 1 _ rfl⟩
  subst hv0
  have hcm := hc2
  unfold maxLen at hcm
  have HNew : Hid _ := NewS_sn w w (Below.refl _ _) k hk
  have HRN : Hid (∀ W, Calls Try.prog 15 #[.int .i64 (k : Int)] W fun e w' => ∃ vo ve, e = .returned (.tuple #[.agg #[vo, ve], .int .i64 0]) ∧ Rm w' vo ve (Sl.new k) ∧ Below W.heap.size W w' ∧ (∀ q, aBlk vo = some q → W.heap.size ≤ q) ∧ ∀ q, aBlk ve = some q → W.heap.size ≤ q) := fun W => rNewS_yes k hk W
  obtain ⟨B, hB⟩ : ∃ B, B = w.heap.size := ⟨_, rfl⟩
  clear hk hn0 hgood hcells hc2
  go_enter Try.func4, Try.ntmps4
  go_wp2_with fail
  refine Calls.mono HNew.out ?_
  rintro e w1 ⟨rfl, h1, -⟩
  rw [← hB] at h1 ⊢
  have HS1 : Hid (Sn w w1 B (Sl.new k)) := h1
  clear h1 hB HNew
  go_wp2_with fail
  refine (HRN.out w1).mono ?_
  rintro e w2 ⟨vo, ve, rfl, h2, h3, h4, h5⟩
  obtain ⟨a1, b1, d1, a2, b2, d2, e1, e2⟩ := h2.shapes
  have hp := Pl.start HS1.out h3 h2 h4 h5
  subst e1 e2
  obtain ⟨X, hX⟩ : ∃ X, X = w2.alloc (.cells #[.slice (some ⟨a1, b1, none⟩) 16 d1, .slice (some ⟨a2, b2, none⟩) 16 d2] 36) := ⟨_, rfl⟩
  obtain ⟨bq, hbq⟩ : ∃ bq, bq = w2.heap.size := ⟨_, rfl⟩
  rw [← hX, ← hbq] at hp
  have HP : Hid (Pl w B bq (Sl.new k) (.slice (some ⟨a1, b1, none⟩) 16 d1) (.slice (some ⟨a2, b2, none⟩) 16 d2) X) := hp
  clear h2 h3 h4 h5 hp HRN HS1
  go_wp2
  rw [← hX, ← hbq]
  clear hX hbq
  go_loopw [9] (fun x wr => ∃ (i : Nat) (s : Sl.St) (vo ve : Value), x = .int .i64 (i : Int) ∧ i ≤ n0 ∧ i ≤ 200 ∧ Hid (Pl w B bq s vo ve wr)) (fun x _ => 200 - (intOf x).toNat)
  case atStart => exact ⟨0, _, _, _, rfl, by omega, by omega, HP⟩
  case round =>
    clear HP
    obtain ⟨i, s, vo, ve, rfl, hin, hi200, HP⟩ := hrel
    obtain ⟨a1, b1, d1, a2, b2, d2, e1, e2⟩ := (Pb.rm HP.out).shapes
    subst e1 e2
    have q0 := Pb.c0 HP.out
    have q1 := Pb.c1 HP.out
    by_cases hgo : i < n0 ∧ i < 200
    · obtain ⟨hlt, hlt2⟩ := hgo
      obtain ⟨x, y, g, o, hp, hX⟩ := HI.out i hlt
      subst hp
      have HX : Hid _ := hX
      have HOld : Hid (Below w.heap.size w wr) := (Pb.sn HP.out).old
      have HQl : Hid (bq < wr.heap.size) := Pb.qlt HP.out
      have HSw : Hid (∀ W, Below wr.heap.size wr W → W.cell? ⟨bq, 0, none⟩ = some (.slice (some ⟨a1, b1, none⟩) 16 d1) ∧ W.cell? ⟨bq, 1, none⟩ = some (.slice (some ⟨a2, b2, none⟩) 16 d2) ∧ W.cell? ⟨g, o + i * 2, none⟩ = some (.int .i64 x) ∧ W.cell? ⟨g, o + i * 2 + 1, none⟩ = some (.int .i64 y)) := fun W hW => ⟨(hW.cell (p := ⟨bq, 0, none⟩) HQl.out).trans q0, (hW.cell (p := ⟨bq, 1, none⟩) HQl.out).trans q1, hX W (HOld.out.trans (hW.mono HOld.out.size))⟩
      have HBe : Hid _ := rGive_behind HP.out x y
      have HAh : Hid _ := rGive_ahead HP.out x y
      have HK0 : Hid (Below wr.heap.size wr wr.drew) := below_drew wr
      have HKa : Hid (Below wr.heap.size wr (wr.alloc (.cells #[.slice none 0 0, .slice none 0 0] 36)).drew) := (below_alloc wr _).drew
      have HKb : Hid (∀ Y o, Below wr.heap.size wr Y → Below wr.heap.size wr (Y.alloc o)) := fun Y o hY => hY.trans ((below_alloc Y o).mono hY.size)
      have HKc : Hid (∀ Y u v, Below wr.heap.size wr Y → Below wr.heap.size wr ((Y.setCell ⟨wr.heap.size, 0, none⟩ u).setCell ⟨wr.heap.size, 1, none⟩ v)) := fun Y u v hY => fin2_below hY (Nat.le_refl _) u v
      obtain ⟨en, hen⟩ : ∃ en, en = Sl.giveE s x y := ⟨_, rfl⟩
      rw [← hen] at HBe HAh
      have HEn : Hid (en = Sl.giveE s x y) := hen
      have HGv : Hid (∀ Z bn vo ve, Pb w B bq bn s (Sl.give s x y) vo ve Z → Calls Try.prog 17 #[.pointer (some ⟨B, 0, none⟩), .int .i64 x, .int .i64 y] Z.drew fun e w' => e = .returned (.int .i64 (en : Int)) ∧ Pb w B bq bn (Sl.give s x y) (Sl.give s x y) vo ve w') := fun Z bn vo ve hZ => by
        have hd := hZ.below (below_drew Z)
        rw [hen]
        refine (GiveS_c hd.sn.sm x y).mono ?_
        rintro e w' ⟨rfl, h2⟩
        exact ⟨rfl, hd.aft h2⟩
      clear hX hen
      go_wp2
      go_region_held (fun W => W.cell? ⟨bq, 0, none⟩ = some (.slice (some ⟨a1, b1, none⟩) 16 d1) ∧ W.cell? ⟨bq, 1, none⟩ = some (.slice (some ⟨a2, b2, none⟩) 16 d2) ∧ W.cell? ⟨g, o + i * 2, none⟩ = some (.int .i64 x) ∧ W.cell? ⟨g, o + i * 2 + 1, none⟩ = some (.int .i64 y))
        (first | with_reducible exact HSw.out _ HK0.out | with_reducible exact HSw.out _ HKa.out | with_reducible exact HSw.out _ hkY | with_reducible exact HSw.out _ (HKb.out _ _ hkY) | with_reducible exact HSw.out _ (HKc.out _ _ _ hkY))
        (first
          | (go_at_call 16; refine Calls.mono HBe.out ?_; rintro e Y ⟨a3, b3, d3, a4, b4, d4, rfl, hkY, hz⟩; have HZ : Hid _ := hz; clear hz)
          | (go_at_call 16; refine Calls.mono HAh.out ?_; rintro e Y ⟨a3, b3, d3, a4, b4, d4, rfl, hkY, y0, y1, g0, g1, hz⟩; have HZ : Hid _ := hz; clear hz))
      · obtain ⟨Z, hZ⟩ : ∃ Z, Z = Y.alloc (.cells #[.slice (some ⟨a3, b3, none⟩) 16 d3, .slice (some ⟨a4, b4, none⟩) 16 d4] 36) := ⟨_, rfl⟩
        obtain ⟨bn, hbn⟩ : ∃ bn, bn = Y.heap.size := ⟨_, rfl⟩
        have HZ2 : Hid (Pb w B bq bn s (Sl.give s x y) (.slice (some ⟨a3, b3, none⟩) 16 d3) (.slice (some ⟨a4, b4, none⟩) 16 d4) Z) := by rw [hZ, hbn]; exact HZ.out
        rw [← hZ, ← hbn]
        clear hZ hbn hkY HZ
        have HGz : Hid _ := HGv.out _ _ _ _ HZ2.out
        obtain ⟨z0, z1⟩ := HX.out Z (Pb.sn HZ2.out).old
        clear q0 q1 HBe HAh HK0 HKa HKb HKc HGv HSw
        go_wp2
        go_region_held (fun W => W.cell? ⟨g, o + i * 2, none⟩ = some (.int .i64 x) ∧ W.cell? ⟨g, o + i * 2 + 1, none⟩ = some (.int .i64 y)) (first | with_reducible exact ⟨z0, z1⟩ | with_reducible exact ⟨k0, k1⟩ | exact ⟨z0, z1⟩)
          ((go_at_call 17; refine Calls.mono HGz.out ?_; rintro e Y2 ⟨rfl, h2⟩; have H2 : Hid _ := h2; obtain ⟨k0, k1⟩ := HX.out Y2 (Pb.sn h2).old; clear h2))
        have c0 := Pb.c0 H2.out
        have c1 := Pb.c1 H2.out
        obtain ⟨r0, hr0⟩ := Pb.q0 H2.out
        obtain ⟨r1, hr1⟩ := Pb.q1 H2.out
        have f0 := Pb.qf H2.out 0
        have f1 := Pb.qf H2.out 1
        have HD : Hid (Pl w B bq (Sl.give s x y) (.slice (some ⟨a3, b3, none⟩) 16 d3) (.slice (some ⟨a4, b4, none⟩) 16 d4) ((Y2.setCell ⟨bq, 0, none⟩ (.slice (some ⟨a3, b3, none⟩) 16 d3)).setCell ⟨bq, 1, none⟩ (.slice (some ⟨a4, b4, none⟩) 16 d4))) := Pb.done H2.out
        clear z0 z1 k0 k1 H2
        go_wp2
        go_roundw
        case rel => exact ⟨i + 1, _, _, _, by go_num, by omega, by omega, HD⟩
        case measure => simp [intOf]; omega
      · obtain ⟨Z, hZ⟩ : ∃ Z, Z = (Y.setCell ⟨wr.heap.size, 0, none⟩ (.slice (some ⟨a3, b3, none⟩) 16 d3)).setCell ⟨wr.heap.size, 1, none⟩ (.slice (some ⟨a4, b4, none⟩) 16 d4) := ⟨_, rfl⟩
        obtain ⟨bn, hbn⟩ : ∃ bn, bn = wr.heap.size := ⟨_, rfl⟩
        have HZ2 : Hid (Pb w B bq bn s (Sl.give s x y) (.slice (some ⟨a3, b3, none⟩) 16 d3) (.slice (some ⟨a4, b4, none⟩) 16 d4) Z) := by rw [hZ, hbn]; exact HZ.out
        rw [← hZ, ← hbn]
        clear hZ hbn hkY HZ y0 y1 g0 g1
        have HGz : Hid _ := HGv.out _ _ _ _ HZ2.out
        obtain ⟨z0, z1⟩ := HX.out Z (Pb.sn HZ2.out).old
        clear q0 q1 HBe HAh HK0 HKa HKb HKc HGv HSw
        go_wp2
        go_region_held (fun W => W.cell? ⟨g, o + i * 2, none⟩ = some (.int .i64 x) ∧ W.cell? ⟨g, o + i * 2 + 1, none⟩ = some (.int .i64 y)) (first | with_reducible exact ⟨z0, z1⟩ | with_reducible exact ⟨k0, k1⟩ | exact ⟨z0, z1⟩)
          ((go_at_call 17; refine Calls.mono HGz.out ?_; rintro e Y2 ⟨rfl, h2⟩; have H2 : Hid _ := h2; obtain ⟨k0, k1⟩ := HX.out Y2 (Pb.sn h2).old; clear h2))
        have c0 := Pb.c0 H2.out
        have c1 := Pb.c1 H2.out
        obtain ⟨r0, hr0⟩ := Pb.q0 H2.out
        obtain ⟨r1, hr1⟩ := Pb.q1 H2.out
        have f0 := Pb.qf H2.out 0
        have f1 := Pb.qf H2.out 1
        have HD : Hid (Pl w B bq (Sl.give s x y) (.slice (some ⟨a3, b3, none⟩) 16 d3) (.slice (some ⟨a4, b4, none⟩) 16 d4) ((Y2.setCell ⟨bq, 0, none⟩ (.slice (some ⟨a3, b3, none⟩) 16 d3)).setCell ⟨bq, 1, none⟩ (.slice (some ⟨a4, b4, none⟩) 16 d4))) := Pb.done H2.out
        clear z0 z1 k0 k1 H2
        go_wp2
        go_roundw
        case rel => exact ⟨i + 1, _, _, _, by go_num, by omega, by omega, HD⟩
        case measure => simp [intOf]; omega
    · have HT : Hid _ := told_c (Pb.sn HP.out).sm (Pb.rm HP.out)
      have HOld : Hid (Below w.heap.size w wr) := (Pb.sn HP.out).old
      clear HI
      by_cases hlt : i < n0
      all_goals
        first
          | have hlt2 : ¬ i < 200 := fun e => hgo ⟨hlt, e⟩
          | skip
        clear hgo
        go_wp2_with fail
        refine Calls.mono HT.out ?_
        rintro e w3 ⟨rfl, h3⟩
        have H3 : Hid (Below w.heap.size w w3) := HOld.out.trans (h3.mono HOld.out.size)
        clear h3
        go_wp2_with fail
        refine (HA.out _).mono ?_
        rintro e w4 ⟨rfl, hb4⟩
        have HB4 : Hid _ := hb4
        clear hb4
        go_wp2
        go_ret
        exact ⟨rfl, H3.out.trans (HB4.out.mono H3.out.size)⟩

theorem walk (a0 : Int) (v1 : Value) (a1 : List (Int × Int)) (w : World) (_b0 : -9223372036854775808 ≤ a0 ∧ a0 ≤ 9223372036854775807) (_b1 : Elems w 2 a2Cells A2In v1 a1) :
    Calls Try.prog 4 #[.int .i64 a0, v1] w fun e w' => e = .returned (.bool true) ∧ Below w.heap.size w w' := by
  by_cases h : 1 ≤ a0 ∧ a0 ≤ 8
  · obtain ⟨k, rfl⟩ : ∃ k : Nat, a0 = (k : Int) := ⟨a0.toNat, by omega⟩
    exact walk_in k v1 a1 w (by omega) _b1
  · exact walk_out a0 v1 w h

theorem laidOut : laidOutB Try.prog = true := by kernel_rfl

theorem own : ownKnob Try.prog.godebug = none := by kernel_rfl

set_option maxRecDepth 100000 in
theorem lifted (os : Os) (started : os.Started) (H : Type) (enc : TypeId × Value → H) :
    ReturnsInHanded {} Try.checked os 4 .any (Rows.slotsPlaysSpec.pre6 enc Try.prog Try.f4 Rows.slotsPlaysRow.domain false) (Rows.slotsPlaysSpec.post enc Try.prog Try.f4 false true false false) := by
  refine returnsInHanded_of_change_sized (C := Try.checked) own started (by kernel_rfl) Try.func4
    (ChangeSpec.witness6 (enc := enc) (C := Try.checked) false ⟨#[], #[.int .i64 0, .slice none 0 0], []⟩ 8 (by kernel_rfl) (by kernel_rfl) (by kernel_rfl) (by kernel_rfl)) ?_
  intro W base args ds gs before hval0 hW _ hsz0 _
  have hsz : (DataW.weightsEach Try.prog (Try.f4.params.toList ++ Rows.slotsPlaysSpec.plain.varTypes Try.prog) (ds ++ gs)).all (· ≤ reachBytes) = true := hsz0
  have hval : ∀ (j : Nat) t v, Try.f4.params[j]? = some t → args[j]? = some v → Value.okWide Try.prog W .any base t v := hval0
  have hW' := hW
  obtain ⟨p, q, hA0, hV, rfl, hfz, hnd⟩ := hW
  have hA : DataW.TrodAll enc Try.prog W 0 (fun _ => true) true Try.f4.params.toList args.toList ds p := hA0
  rw [Try.params4] at hA hval hsz
  obtain ⟨v0, vs0, d0, ds0, p0, q0, hargs, rfl, rfl, h0, r0⟩ := trodAll_cons hA
  obtain ⟨v1, vs1, d1, ds1, p1, q1, rfl, rfl, rfl, h1, r1⟩ := trodAll_cons r0
  obtain ⟨rfl, rfl, rfl⟩ := trodAll_nil r1
  obtain rfl : args = #[v0, v1] := by cases args; simp_all
  obtain ⟨rfl, rfl⟩ := trodVars_none hV
  obtain ⟨a0, rfl, rfl, rfl, w0⟩ := open_int Try.underlying3 (hval 0 3 v0 rfl rfl) h0
  have b0 : -9223372036854775808 ≤ a0 ∧ a0 ≤ 9223372036854775807 := by simpa [Lit.wf, IntKind.min, IntKind.max, IntKind.signed, IntKind.bits] using w0
  have k1 := h1
  have lt1 : ∀ x ∈ p1, x.block < W.heap.size := by obtain ⟨m, hm⟩ := k1; exact DataW.trod_lt m _ _ _ hm
  obtain ⟨a1, b1⟩ := open_a2s (hval 1 31 v1 rfl rfl) h1
  clear hA0 hval0 hsz0
  refine (walk a0 v1 a1 W b0 b1).mono fun e W' ⟨he, bel⟩ => ?_
  subst he
  exact ⟨_, rfl, _, _, _, [], _, [], hW', trodAll_mk1 (shut_bool Try.underlying4 _), (trodAll_cons_mk (shut_int Try.underlying3 w0) (trodAll_cons_mk (Below.trod laidOut (by kernel_rfl) (of_decide_eq_true (by kernel_rfl)) k1 bel lt1) trodAll_mk0)), rfl, bel.frame _, fun h => by cases h⟩

theorem over : Rows.slotsPlaysRow.holds Try.pinned (OpenSpec.ofChange Rows.slotsPlaysSpec) :=
  OpenClaim.holds_of_wide 4 Try.f4 rfl rfl rfl rfl rfl rfl rfl ⟨rfl, rfl, rfl, rfl, rfl⟩ rfl rfl rfl rfl rfl (by kernel_rfl) Try.func4 (by kernel_rfl)
    (of_decide_eq_true (by kernel_rfl)) (by unfold Func.isWrapper; first | (rw [if_pos (by decide +kernel)]; kernel_rfl) | (rw [if_neg (by decide +kernel)]; exact ⟨rfl, rfl⟩))
    (fun os started H enc _ => lifted os started H enc)


end Go.Proofs.Ytmdnegjpdedcnaa.slotsPlays
namespace Go.Proofs.Ytmdnegjpdedcnaa
/-- The statement. -/
theorem slotsPlays_holds : Rows.SlotsPlaysSaid := slotsPlays.over
end Go.Proofs.Ytmdnegjpdedcnaa
