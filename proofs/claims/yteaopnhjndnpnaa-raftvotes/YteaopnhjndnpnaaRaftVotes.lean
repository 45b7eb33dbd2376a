/-
  For every list of asks and every number: RaftVotes answers true: a node gives one vote a term, whoever asks, and after it begins anew; the arguments read afterwards as before. No condition.
-/
import Derived.Test.YteaopnhjndnpnaaNdVotes
import Derived.Test.YteaopnhjndnpnaaNdCut
import Derived.Test.YteaopnhjndnpnaaNdElems
import Derived.Test.YteaopnhjndnpnaaDkMask
import Derived.ProofKit
import Derived.OpenShut
import Derived.ShutString
import Derived.SizedLaws
namespace Go.Proofs.Yteaopnhjndnpnaa.raftVotes
open Go.ChangeShapes Go.WideShapes Go.ChangeAt Go.RowKit
open Go.ChangeMaps (open_string shut_string)

theorem infoInt7 : (Try.prog.info? 3).map (fun i => (i.zero, i.size, i.bytes)) = some (some (.int .i64 0), 1, 8) := by kernel_rfl

def no40 : Array Value := madeCells (Value.int .i64 0).cells (40 * 1)
theorem no40_at (i : Nat) (h : i < 40) : no40[i]? = some (.int .i64 0) := by
  have e : no40.toList = List.replicate 40 (Value.int .i64 0) := by
    unfold no40
    rw [show (Value.int .i64 0).cells = #[Value.int .i64 0] from rfl, toList_madeCells_one]
  rw [← Array.getElem?_toList, e, List.getElem?_replicate, if_pos h]
theorem run_make40 (W : World) : (Instr.makeSlice 27 (.int .i64 40) (.int .i64 40)).run Try.prog W = .ok (.slice (some ⟨W.heap.size, 0, none⟩) 40 40) (W.alloc (.cells no40 3)) := by
  obtain ⟨i0, hi, hz0, hz1, hz2⟩ := info_parts infoInt7
  have h := run_make (P := Try.prog) W 27 3 i0 (.int .i64 0) Try.underlying27 hi hz0 .i64 .i64 40 40 (by decide) (by decide) (by rw [hz2]; decide) (by decide)
  rw [hz1] at h
  exact h

theorem fld0 (t f b bt : Int) (d : ByteArray) (p : Option Addr) (n c : Nat) (W : World) : (Instr.field 44 (.agg #[.int .i64 t, .int .i64 f, .int .i64 b, .int .i64 bt, .string d, .slice p n c]) 0).run Try.prog W = .ok (.int .i64 t) W := by kernel_rfl
theorem fld1 (t f b bt : Int) (d : ByteArray) (p : Option Addr) (n c : Nat) (W : World) : (Instr.field 44 (.agg #[.int .i64 t, .int .i64 f, .int .i64 b, .int .i64 bt, .string d, .slice p n c]) 1).run Try.prog W = .ok (.int .i64 f) W := by kernel_rfl

theorem first {w w1 w2 : World} {B : Nat} (hb : Below w.heap.size w w1) (h : Aw w1 w2 B (N.new 0 0 5 frSv 0)) : Vw w B w2.heap.size (N.new 0 0 5 frSv 0) (List.replicate 40 0) 0 (w2.alloc (.cells no40 3)) := by
  obtain ⟨own, h1, h2, h3, h4⟩ := h
  have hs := hb.size
  have hs2 := h2.size
  have hlt := h1.lt
  refine ⟨⟨own, h1.below (below_alloc _ _), fun k hk => by have := h4 k hk; omega, fun hk => by have := (h1.here _ hk).1; omega⟩, hb.trans ((h2.mono hs).trans ((below_alloc _ _).mono (by omega))), by omega, by omega, by omega, by simp, fun j x hx => ?_, fun j hj => ?_, Asked.first⟩
  · rw [List.getElem?_replicate] at hx
    split at hx
    · rename_i hj
      simp at hx
      subst hx
      rw [World.cell?_alloc_mark]
      exact no40_at j hj
    · cases hx
  · rw [World.frozen?_alloc_mark]
    simp

set_option maxHeartbeats 3200000 in
set_option maxRecDepth 20000 in
theorem walk (v0 : Value) (a0 : List (Int × Int × Int)) (a1 : Int) (w : World) (_b0 : Elems w 3 a3Cells A3In v0 a0) (_b1 : -9223372036854775808 ≤ a1 ∧ a1 ≤ 9223372036854775807) :
    Calls Try.prog 6 #[v0, .int .i64 a1] w fun e w' => e = .returned (.bool true) ∧ Below w.heap.size w w' := by
  have HA : Hid (∀ u : World, Calls Try.prog 9 #[] u fun e w' => e = .returned (.bool true) ∧ Below u.heap.size u w') := awake_c
  have HF : Hid (∀ u : World, Calls Try.prog 25 #[] u fun e w' => e = .returned (svV frSv (.slice none 0 0)) ∧ Below u.heap.size u w') := fresh_c
  have HN : Hid (∀ u : World, Calls Try.prog 24 #[.int .i64 0, .int .i64 0, .int .i64 5, svV frSv (.slice none 0 0), .int .i64 0] u fun e w' => ∃ B, e = .returned (.tuple #[.pointer (some ⟨B, 0, none⟩), .int .i64 0]) ∧ Aw u w' B (N.new 0 0 5 frSv 0)) := fun u => New_fresh u 0 5 0 (by decide) (by decide) (by decide)
  obtain ⟨p0, c0, hv0, hc1, hc2, hgood, hcells⟩ := _b0
  obtain ⟨n0, hn0⟩ : ∃ n0, n0 = a0.length := ⟨_, rfl⟩
  rw [← hn0] at hv0 hc1
  have HI : Hid (∀ k, k < n0 → ∃ x y z g o, p0 = some ⟨g, o, none⟩ ∧ ∀ X, Below w.heap.size w X → X.cell? ⟨g, o + k * 3, none⟩ = some (.int .i64 x) ∧ X.cell? ⟨g, o + k * 3 + 1, none⟩ = some (.int .i64 y) ∧ X.cell? ⟨g, o + k * 3 + 2, none⟩ = some (.int .i64 z)) := by
    intro k hk
    obtain ⟨q, hq⟩ : ∃ q, a0[k]? = some q := ⟨_, List.getElem?_eq_getElem (by omega)⟩
    rcases hcells with h | ⟨g, o, hp, hg, hcs⟩
    · rw [h] at hq
      simp at hq
    · refine ⟨q.1, q.2.1, q.2.2, g, o, hp, fun X hX => ?_⟩
      have e : ∀ j, X.cell? ⟨g, j, none⟩ = w.cell? ⟨g, j, none⟩ := fun j => hX.cell (p := ⟨g, j, none⟩) hg
      rw [e, e, e]
      exact ⟨hcs k q hq 0 _ rfl, hcs k q hq 1 _ rfl, hcs k q hq 2 _ rfl⟩
  subst hv0
  have hmk := run_make40
  have hcm := hc2
  unfold maxLen at hcm
  clear hn0 hgood hcells _b1 hc2
  go_enter Try.func6, Try.ntmps6
  go_wp2_with fail
  refine Calls.mono (HF.out _) ?_
  rintro e w1 ⟨rfl, hb1⟩
  have HB1 : Hid _ := hb1
  clear hb1
  have HN1 : Hid _ := HN.out w1
  unfold svV frSv at HN1
  dsimp only at HN1
  unfold svV frSv
  dsimp only
  go_wp2_with fail
  refine Calls.mono HN1.out ?_
  rintro e w2 ⟨B, rfl, hAw⟩
  have HV0 : Hid (Vw w B w2.heap.size (N.new 0 0 5 frSv 0) (List.replicate 40 0) 0 (w2.alloc (.cells no40 3))) := first HB1.out hAw
  clear hAw HN1 HF HN
  go_wp2
  obtain ⟨gw, hgw⟩ : ∃ gw, gw = w2.heap.size := ⟨_, rfl⟩
  rw [← hgw] at HV0 ⊢
  clear hgw hmk
  go_loopw [5, 8] (fun nv iv wr => ∃ (i B : Nat) (s : N.St) (wh : List Int), iv = .int .i64 (i : Int) ∧ i ≤ n0 ∧ i ≤ 60 ∧ nv = .pointer (some ⟨B, 0, none⟩) ∧ Hid (Vw w B gw s wh i wr)) (fun _ iv _ => 60 - (intOf iv).toNat)
  case atStart => exact ⟨0, B, _, _, rfl, by omega, by omega, rfl, HV0⟩
  case round =>
    clear HV0
    obtain ⟨i, B, s, wh, rfl, hin, hi60, rfl, HV⟩ := hrel
    by_cases hlt : i < n0
    · by_cases hlt2 : i < 60
      · obtain ⟨x, y, z, g, o, hp, hX⟩ := HI.out i hlt
        subst hp
        obtain ⟨y0, y1, y2⟩ := hX wr HV.out.old
        have HX : Hid _ := hX
        obtain ⟨f, hf⟩ : ∃ f, f = 1 + cutN x 4 := ⟨_, rfl⟩
        obtain ⟨t, ht⟩ : ∃ t, t = 1 + cutN y 39 := ⟨_, rfl⟩
        obtain ⟨q, hq⟩ : ∃ q, q = cutN z 9 := ⟨_, rfl⟩
        have hf4 := cutN_lt x 4 (by decide)
        have ht4 := cutN_lt y 39 (by decide)
        have hq4 := cutN_lt z 9 (by decide)
        have HC4 : Hid (∀ n, Calls Try.prog 14 #[.int .i64 x, .int .i64 4] (wr.drewN n) fun e w' => e = .returned (.int .i64 (cutN x 4 : Int)) ∧ w' = wr.drewN n) := fun n => cut_v _ x 4 (by decide) (by decide)
        have HC39 : Hid (∀ n, Calls Try.prog 14 #[.int .i64 y, .int .i64 39] (wr.drewN n) fun e w' => e = .returned (.int .i64 (cutN y 39 : Int)) ∧ w' = wr.drewN n) := fun n => cut_v _ y 39 (by decide) (by decide)
        have HC9 : Hid (∀ X, Calls Try.prog 14 #[.int .i64 z, .int .i64 9] X fun e w' => e = .returned (.int .i64 (q : Int)) ∧ w' = X) := fun X => by rw [hq]; exact cut_v _ z 9 (by decide) (by decide)
        have hwf : IntKind.i64.wrap (1 + (cutN x 4 : Int)) = (f : Int) := by rw [IntKind.wrap_i64]; omega
        have hwt : IntKind.i64.wrap (1 + (cutN y 39 : Int)) = (t : Int) := by rw [IntKind.wrap_i64]; omega
        have HR : Hid ((1 ≤ f ∧ f ≤ 4) ∧ (1 ≤ t ∧ t ≤ 39) ∧ q < 9) := ⟨⟨by omega, by omega⟩, ⟨by omega, by omega⟩, by omega⟩
        have hk0 : (0 : Int) ≤ (i : Int) := by omega
        have hk1 : (i : Int) < (n0 : Int) := by omega
        have HAsk : Hid (∀ n, Calls Try.prog 17 #[.pointer (some ⟨B, 0, none⟩), .agg #[.int .i64 1, .int .i64 0, .int .i64 (f : Int), .int .i64 0, .int .i64 (t : Int), .int .i64 (q : Int), .int .i64 0, .slice none 0 0, .int .i64 0, .bool false, .string ⟨#[]⟩]] (wr.drewN n) (VAns w B gw s wh i f t q)) := fun n => (HV.out.below (below_drewN wr n)).ask (by omega) f t q HR.out.1 HR.out.2.1 HR.out.2.2
        generalize cutN x 4 = q1 at HC4 hwf
        generalize cutN y 39 = q2 at HC39 hwt
        clear hX hf ht hq hf4 ht4 hq4
        go_wp2
        go_quiet (first | (go_at_call_of 14 x; exact Calls.quiet_of_same (HC4.out _)) | (go_at_call_of 14 y; exact Calls.quiet_of_same (HC39.out _)))
        go_wp2_with fail
        refine Calls.mono (HC9.out _) ?_
        rintro e w3 ⟨rfl, hw3⟩
        subst hw3
        go_wp2_with fail
        refine Calls.mono (HAsk.out _) ?_
        rintro e w4 ⟨g4, o4, c4, rfl, m1, m2, m3, m4, m5, m6, m7, hyes, hno⟩
        have HYes : Hid _ := hyes
        have HNo : Hid _ := hno
        have hc4 : 1 ≤ c4 + 1 := by omega
        unfold maxLen at m3
        clear hyes hno HAsk HC4 HC39 HC9
        obtain ⟨ok, hok⟩ : ∃ ok, ok = askOk s f t q := ⟨_, rfl⟩
        rw [← hok] at m7 HYes HNo
        have d1 : ((f : Int) != (f : Int)) = false := by simp
        clear hok
        obtain ⟨d, hd⟩ : ∃ d, Op.shift BinOp.shr .i64 a1 .i64 (bits .and .i64 (i : Int) 31) = pure (.int .i64 d) := ⟨_, by rw [and_31]; exact shift_shr_i64 .i64 a1 _ (by omega) (by omega)⟩
        have hr : bits .and .i64 d 1 = 0 ∨ bits .and .i64 d 1 = 1 := by rw [and_1]; omega
        cases ok
        · have HV1 : Hid _ := HNo.out rfl
          clear HNo HYes
          rcases hr with hr | hr
          · go_wp2
            go_roundw
            case rel => exact ⟨i + 1, B, _, _, by go_num, by omega, by omega, rfl, HV1⟩
            case measure => simp [intOf]; omega
          · have HSv : Hid _ := HV1.out.saved
            go_wp2_with fail
            refine Calls.mono HSv.out ?_
            rintro e w8 ⟨p8, n8, c8, rfl, hV8, hE8⟩
            have HNw : Hid _ := hV8.anew hE8
            clear hV8 hE8 HSv
            unfold svV at HNw ⊢
            go_wp2_with fail
            refine Calls.mono HNw.out ?_
            rintro e w9 ⟨B9, rfl, hV9⟩
            have HV9 : Hid _ := hV9
            clear hV9 HNw
            go_wp2
            go_roundw
            case rel => exact ⟨i + 1, B9, _, _, by go_num, by omega, by omega, rfl, HV9⟩
            case measure => simp [intOf]; omega
        · have hl := HV.out.asked.len
          obtain ⟨yy, hyy⟩ : ∃ yy, wh[t]? = some yy := ⟨_, List.getElem?_eq_getElem (by have := HR.out; omega)⟩
          obtain ⟨t1, t2, t3, t4, cy, fy, hsv, hvy⟩ := HYes.out rfl yy hyy
          rw [t1] at m6
          have HSav : Hid _ := hsv
          have HVy : Hid _ := hvy
          have HGl : Hid (gw < w4.heap.size) := World.block_lt_of_cell? _ _ cy
          have d2 : ((t : Int) != (t : Int)) = false := by simp
          have hti : (t : Int) < 40 := by have := HR.out; omega
          have hti0 : (0 : Int) ≤ (t : Int) := by omega
          have hf0 := fld0
          have hf1 := fld1
          clear HNo HYes hsv hvy hl hyy t1 t3 t4
          rcases t2 with t2 | t2
          · subst t2
            go_wp2_with fail
            refine Calls.mono (HSav.out _ (Below.refl _ _)) ?_
            rintro e w5 ⟨⟨b5, bt5, d5, p5, n5, c5, rfl⟩, hb5⟩
            have HB5 : Hid _ := hb5
            clear hb5
            go_wp2_with fail
            refine Calls.mono (HSav.out _ HB5.out) ?_
            rintro e w6 ⟨⟨b6, bt6, d6, p6, n6, c6, rfl⟩, hb6⟩
            have HB6 : Hid (Below w4.heap.size w4 w6) := HB5.out.trans (hb6.mono HB5.out.size)
            have cy6 := (HB6.out.cell (p := ⟨gw, t, none⟩) HGl.out).trans cy
            have fy6 := (HB6.out.frozen (p := ⟨gw, t, none⟩) HGl.out).trans fy
            have HV1 : Hid _ := HVy.out _ HB6.out
            have hl6 : g4 < w6.heap.size := Nat.lt_of_lt_of_le m1 HB6.out.size
            clear hb6
            rcases hr with hr | hr
            · go_wp2
              go_roundw
              case rel => exact ⟨i + 1, B, _, _, by go_num, by omega, by omega, rfl, HV1⟩
              case measure => simp [intOf]; omega
            · have HSv : Hid _ := HV1.out.saved
              go_wp2_with fail
              refine Calls.mono HSv.out ?_
              rintro e w8 ⟨p8, n8, c8, rfl, hV8, hE8⟩
              have HNw : Hid _ := hV8.anew hE8
              clear hV8 hE8 HSv
              unfold svV at HNw ⊢
              go_wp2_with fail
              refine Calls.mono HNw.out ?_
              rintro e w9 ⟨B9, rfl, hV9⟩
              have HV9 : Hid _ := hV9
              clear hV9 HNw
              go_wp2
              go_roundw
              case rel => exact ⟨i + 1, B9, _, _, by go_num, by omega, by omega, rfl, HV9⟩
              case measure => simp [intOf]; omega
          · subst t2
            have d3 : ((f : Int) != 0) = true := by have := HR.out; simp; omega
            go_wp2_with fail
            refine Calls.mono (HSav.out _ (Below.refl _ _)) ?_
            rintro e w5 ⟨⟨b5, bt5, d5, p5, n5, c5, rfl⟩, hb5⟩
            have HB5 : Hid _ := hb5
            clear hb5
            go_wp2_with fail
            refine Calls.mono (HSav.out _ HB5.out) ?_
            rintro e w6 ⟨⟨b6, bt6, d6, p6, n6, c6, rfl⟩, hb6⟩
            have HB6 : Hid (Below w4.heap.size w4 w6) := HB5.out.trans (hb6.mono HB5.out.size)
            have cy6 := (HB6.out.cell (p := ⟨gw, t, none⟩) HGl.out).trans cy
            have fy6 := (HB6.out.frozen (p := ⟨gw, t, none⟩) HGl.out).trans fy
            have HV1 : Hid _ := HVy.out _ HB6.out
            have hl6 : g4 < w6.heap.size := Nat.lt_of_lt_of_le m1 HB6.out.size
            clear hb6
            rcases hr with hr | hr
            · go_wp2
              go_roundw
              case rel => exact ⟨i + 1, B, _, _, by go_num, by omega, by omega, rfl, HV1⟩
              case measure => simp [intOf]; omega
            · have HSv : Hid _ := HV1.out.saved
              go_wp2_with fail
              refine Calls.mono HSv.out ?_
              rintro e w8 ⟨p8, n8, c8, rfl, hV8, hE8⟩
              have HNw : Hid _ := hV8.anew hE8
              clear hV8 hE8 HSv
              unfold svV at HNw ⊢
              go_wp2_with fail
              refine Calls.mono HNw.out ?_
              rintro e w9 ⟨B9, rfl, hV9⟩
              have HV9 : Hid _ := hV9
              clear hV9 HNw
              go_wp2
              go_roundw
              case rel => exact ⟨i + 1, B9, _, _, by go_num, by omega, by omega, rfl, HV9⟩
              case measure => simp [intOf]; omega
      · have HO : Hid _ := HV.out.old
        go_wp2_with fail
        refine Calls.mono (HA.out _) ?_
        rintro e w3 ⟨rfl, hb3⟩
        have HB3 : Hid _ := hb3
        clear hb3
        go_wp2
        go_ret
        exact ⟨rfl, HO.out.trans (HB3.out.mono HO.out.size)⟩
    · have HO : Hid _ := HV.out.old
      go_wp2_with fail
      refine Calls.mono (HA.out _) ?_
      rintro e w3 ⟨rfl, hb3⟩
      have HB3 : Hid _ := hb3
      clear hb3
      go_wp2
      go_ret
      exact ⟨rfl, HO.out.trans (HB3.out.mono HO.out.size)⟩

theorem laidOut : laidOutB Try.prog = true := by kernel_rfl

theorem own : ownKnob Try.prog.godebug = none := by kernel_rfl

set_option maxRecDepth 100000 in
theorem lifted (os : Os) (started : os.Started) (H : Type) (enc : TypeId × Value → H) :
    ReturnsInHanded {} Try.checked os 6 .any (Rows.raftVotesSpec.pre6 enc Try.prog Try.f6 Rows.raftVotesRow.domain false) (Rows.raftVotesSpec.post enc Try.prog Try.f6 false true false false) := by
  refine returnsInHanded_of_change_sized (C := Try.checked) own started (by kernel_rfl) Try.func6
    (ChangeSpec.witness6 (enc := enc) (C := Try.checked) false ⟨#[], #[.slice none 0 0, .int .i64 0], []⟩ 8 (by kernel_rfl) (by kernel_rfl) (by kernel_rfl) (by kernel_rfl)) ?_
  intro W base args ds gs before hval0 hW _ hsz0 _
  have hsz : (DataW.weightsEach Try.prog (Try.f6.params.toList ++ Rows.raftVotesSpec.plain.varTypes Try.prog) (ds ++ gs)).all (· ≤ reachBytes) = true := hsz0
  have hval : ∀ (j : Nat) t v, Try.f6.params[j]? = some t → args[j]? = some v → Value.okWide Try.prog W .any base t v := hval0
  have hW' := hW
  obtain ⟨p, q, hA0, hV, rfl, hfz, hnd⟩ := hW
  have hA : DataW.TrodAll enc Try.prog W 0 (fun _ => true) true Try.f6.params.toList args.toList ds p := hA0
  rw [Try.params6] at hA hval hsz
  obtain ⟨v0, vs0, d0, ds0, p0, q0, hargs, rfl, rfl, h0, r0⟩ := trodAll_cons hA
  obtain ⟨v1, vs1, d1, ds1, p1, q1, rfl, rfl, rfl, h1, r1⟩ := trodAll_cons r0
  obtain ⟨rfl, rfl, rfl⟩ := trodAll_nil r1
  obtain rfl : args = #[v0, v1] := by cases args; simp_all
  obtain ⟨rfl, rfl⟩ := trodVars_none hV
  have k0 := h0
  have lt0 : ∀ x ∈ p0, x.block < W.heap.size := by obtain ⟨m, hm⟩ := k0; exact DataW.trod_lt m _ _ _ hm
  obtain ⟨a0, b0⟩ := open_a3s (hval 0 66 v0 rfl rfl) h0
  obtain ⟨a1, rfl, rfl, rfl, w1⟩ := open_int Try.underlying3 (hval 1 3 v1 rfl rfl) h1
  have b1 : -9223372036854775808 ≤ a1 ∧ a1 ≤ 9223372036854775807 := by simpa [Lit.wf, IntKind.min, IntKind.max, IntKind.signed, IntKind.bits] using w1
  clear hA0 hval0 hsz0
  refine (walk v0 a0 a1 W b0 b1).mono fun e W' ⟨he, bel⟩ => ?_
  subst he
  exact ⟨_, rfl, _, _, _, [], _, [], hW', trodAll_mk1 (shut_bool Try.underlying4 _), (trodAll_cons_mk (Below.trod laidOut (by kernel_rfl) (of_decide_eq_true (by kernel_rfl)) k0 bel lt0) (trodAll_cons_mk (shut_int Try.underlying3 w1) trodAll_mk0)), rfl, bel.frame _, fun h => by cases h⟩

theorem over : Rows.raftVotesRow.holds Try.pinned (OpenSpec.ofChange Rows.raftVotesSpec) :=
  OpenClaim.holds_of_wide 6 Try.f6 rfl rfl rfl rfl rfl rfl rfl ⟨rfl, rfl, rfl, rfl, rfl⟩ rfl rfl rfl rfl rfl (by kernel_rfl) Try.func6 (by kernel_rfl)
    (of_decide_eq_true (by kernel_rfl)) (by unfold Func.isWrapper; first | (rw [if_pos (by decide +kernel)]; kernel_rfl) | (rw [if_neg (by decide +kernel)]; exact ⟨rfl, rfl⟩))
    (fun os started H enc _ => lifted os started H enc)


end Go.Proofs.Yteaopnhjndnpnaa.raftVotes
namespace Go.Proofs.Yteaopnhjndnpnaa
/-- The statement. -/
theorem raftVotes_holds : Rows.RaftVotesSaid := raftVotes.over
end Go.Proofs.Yteaopnhjndnpnaa
