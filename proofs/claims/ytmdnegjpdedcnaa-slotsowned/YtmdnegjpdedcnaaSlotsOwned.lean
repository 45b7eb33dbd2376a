/-
  For every number and every list of pairs of numbers: SlotsOwned answers true: each slot has one owner: ranges stand one behind the other, from the first slot to the last, no two neighbours are of one group, and an epoch is one and how often the slot was given; the arguments read afterwards as before. No condition.
-/
import Derived.Test.YtmdnegjpdedcnaaSlCt
import Derived.Test.YtmdnegjpdedcnaaSlMath2
import Derived.Test.YtmdnegjpdedcnaaSlArgs
import Derived.ProofKit
import Derived.OpenShut
import Derived.ShutString
import Derived.SizedLaws
import Derived.Deep.RegionHeld
import Derived.Deep.QuietTactic
import Derived.BigQuiet
namespace Go.Proofs.Ytmdnegjpdedcnaa.slotsOwned
open Go.ChangeShapes Go.WideShapes Go.ChangeAt Go.RowKit
open Go.ChangeMaps (open_string shut_string)

/-- An epoch is one and how often the slot was given. -/
def Ev (s : Sl.St) (G : Nat → Nat) (i : Nat) : Prop := ∀ j, j < 16 → s.E j = 1 + G j ∧ G j ≤ i
theorem Ev.more {s : Sl.St} {G : Nat → Nat} {i : Nat} (h : Ev s G i) : Ev s G (i + 1) := fun j hj => ⟨(h j hj).1, by have := (h j hj).2; omega⟩
theorem Ev.inc {s : Sl.St} {G : Nat → Nat} {i : Nat} (h : Ev s G i) {q g : Nat} : Ev (Sl.put s q g) (inc G q) (i + 1) := fun j hj => by
  obtain ⟨h1, h2⟩ := h j hj
  show (if j = q then s.E q + 1 else s.E j) = 1 + (if j = q then G q + 1 else G j) ∧ (if j = q then G q + 1 else G j) ≤ i + 1
  by_cases e : j = q
  · subst e
    rw [if_pos rfl, if_pos rfl]
    omega
  · rw [if_neg e, if_neg e]
    omega

set_option maxHeartbeats 3200000 in
set_option maxRecDepth 20000 in
theorem walk (a0 : Int) (v1 : Value) (a1 : List (Int × Int)) (w : World) (_b0 : -9223372036854775808 ≤ a0 ∧ a0 ≤ 9223372036854775807) (_b1 : Elems w 2 a2Cells A2In v1 a1) :
    Calls Try.prog 6 #[.int .i64 a0, v1] w fun e w' => e = .returned (.bool true) ∧ Below w.heap.size w w' := by
  have HA : Hid (∀ u : World, Calls Try.prog 13 #[] u fun e w' => e = .returned (.bool true) ∧ Below u.heap.size u w') := awake_c
  obtain ⟨p0, c0, hv0, hc1, hc2, hgood, hcells⟩ := _b1
  obtain ⟨n0, hn0⟩ : ∃ n0, n0 = a1.length := ⟨_, rfl⟩
  rw [← hn0] at hv0 hc1
  have HI : Hid (∀ k, k < n0 → ∃ x y g o, p0 = some ⟨g, o, none⟩ ∧ ∀ X, Below w.heap.size w X → X.cell? ⟨g, o + k * 2, none⟩ = some (.int .i64 x) ∧ X.cell? ⟨g, o + k * 2 + 1, none⟩ = some (.int .i64 y)) := by
    intro k hk
    obtain ⟨q, hq⟩ : ∃ q, a1[k]? = some q := ⟨_, List.getElem?_eq_getElem (by omega)⟩
    rcases hcells with h | ⟨g, o, hp, hg, hcs⟩
    · rw [h] at hq
      simp at hq
    · refine ⟨q.1, q.2, g, o, hp, fun X hX => ?_⟩
      have e : ∀ j, X.cell? ⟨g, j, none⟩ = w.cell? ⟨g, j, none⟩ := fun j => hX.cell (p := ⟨g, j, none⟩) hg
      rw [e, e]
      exact ⟨hcs k q hq 0 _ rfl, hcs k q hq 1 _ rfl⟩
  subst hv0
  have hcm := hc2
  unfold maxLen at hcm
  obtain ⟨k, hk, hk1, hk8⟩ : ∃ k : Nat, 1 + a0 % 8 = (k : Int) ∧ 1 ≤ k ∧ k ≤ 8 := ⟨(1 + a0 % 8).toNat, by omega, by omega, by omega⟩
  have hand : bits BinOp.and IntKind.i64 a0 7 = (k : Int) - 1 := by rw [and_7]; omega
  have hkw : (1 : Int) + ((k : Int) - 1) = (k : Int) := by omega
  have HNew : Hid _ := NewS_sn w w (Below.refl _ _) k ⟨hk1, hk8⟩
  obtain ⟨B, hB⟩ : ∃ B, B = w.heap.size := ⟨_, rfl⟩
  clear _b0 hk hn0 hgood hcells hc2
  go_enter Try.func6, Try.ntmps6
  go_wp2_with fail
  refine Calls.mono HNew.out ?_
  rintro e w1 ⟨rfl, h1, -⟩
  rw [← hB] at h1 ⊢
  have HCt : Hid _ := Ct.start (m := 16) h1
  have hmk := run_makeN 16 (by omega) w1
  rw [show ((16 : Nat) : Int) = 16 from rfl] at hmk
  clear h1 hB HNew hand
  obtain ⟨X, hX⟩ : ∃ X, X = w1.alloc (.cells (noN 16) 3) := ⟨_, rfl⟩
  obtain ⟨bh, hbh⟩ : ∃ bh, bh = w1.heap.size := ⟨_, rfl⟩
  rw [← hX, ← hbh] at HCt hmk
  go_wp2
  try rw [← hX]
  try rw [← hbh]
  have HE0 : Hid (Ev (Sl.new k) (fun _ => 0) 0) := fun j _ => ⟨rfl, Nat.le_refl _⟩
  clear hX hbh hmk hkw hk1 hk8
  go_loopw [9] (fun x wr => ∃ (i : Nat) (s : Sl.St) (G : Nat → Nat), x = .int .i64 (i : Int) ∧ i ≤ n0 ∧ i ≤ 200 ∧ Hid (Ev s G i) ∧ Hid (Ct w B bh 16 s G wr)) (fun x _ => 200 - (intOf x).toNat)
  case atStart => exact ⟨0, _, _, rfl, by omega, by omega, HE0, HCt⟩
  case round =>
    clear HCt HE0
    obtain ⟨i, s, G, rfl, hin, hi200, HE, HC⟩ := hrel
    by_cases hgo : i < n0 ∧ i < 200
    · obtain ⟨hlt, hlt2⟩ := hgo
      obtain ⟨x, y, g, o, hp, hX⟩ := HI.out i hlt
      subst hp
      have HX : Hid _ := hX
      obtain ⟨y0, y1⟩ := hX wr HC.out.sn.old
      have hCd := HC.out.below (below_drew wr)
      have HGv : Hid (Calls Try.prog 17 #[.pointer (some ⟨B, 0, none⟩), .int .i64 x, .int .i64 y] wr.drew fun e w' => e = .returned (.int .i64 (Sl.giveE s x y : Int)) ∧ Ct w B bh 16 (Sl.give s x y) G w') := by
        refine (GiveS_c hCd.sn.sm x y).mono ?_
        rintro e w' ⟨rfl, h2⟩
        exact ⟨rfl, hCd.aft h2⟩
      clear hCd hX
      by_cases hE : Sl.giveE s x y = 0
      · have hGi : Sl.give s x y = Sl.put s x.toNat y.toNat := by unfold Sl.give; rw [if_pos hE]
        obtain ⟨h2, -, -⟩ := Sl.giveE_0 hE
        obtain ⟨j, rfl⟩ : ∃ j : Nat, x = (j : Int) := ⟨x.toNat, by omega⟩
        rw [hE, hGi, Int.toNat_natCast] at HGv
        have hj : j < 16 := by omega
        have hj0 : (0 : Int) ≤ (j : Int) := by omega
        have hj15 : (j : Int) ≤ 15 := by omega
        have HE2 : Hid (Ev (Sl.put s j y.toNat) (inc G j) (i + 1)) := HE.out.inc
        have hG := (HE.out j hj).2
        obtain ⟨q, hq⟩ : ∃ q, q = G j := ⟨_, rfl⟩
        rw [← hq] at hG
        have hq2 : q ≤ 200 := by omega
        have HQ : Hid (q = G j) := hq
        clear hE hGi h2 hq hG
        go_wp2
        go_region_held (fun X => X.cell? ⟨g, o + i * 2, none⟩ = some (.int .i64 (j : Int)) ∧ X.cell? ⟨g, o + i * 2 + 1, none⟩ = some (.int .i64 y)) (first | exact ⟨y0, y1⟩ | exact ⟨z0, z1⟩)
          ((go_at_call 17; refine Calls.mono HGv.out ?_; rintro e w2 ⟨rfl, h2⟩; obtain ⟨z0, z1⟩ := HX.out w2 h2.sn.old; have H2 : Hid _ := h2; clear h2))
        have h2 := H2.out
        have c2 := h2.c j hj
        rw [← HQ.out] at c2
        have f2 := h2.fz j
        have HN : Hid (Ct w B bh 16 (Sl.put s j y.toNat) (inc G j) (w2.setCell ⟨bh, j, none⟩ (.int .i64 ((q : Int) + 1)))) := by
          have := h2.inc hj
          rw [← HQ.out] at this
          exact this
        clear h2 y0 y1
        go_wp2
        go_roundw
        case rel => exact ⟨i + 1, _, _, by go_num, by omega, by omega, HE2, HN⟩
        case measure => simp [intOf]; omega
      · have hGi : Sl.give s x y = s := by unfold Sl.give; rw [if_neg hE]
        rw [hGi] at HGv
        obtain ⟨q, hq⟩ : ∃ q, q = Sl.giveE s x y := ⟨_, rfl⟩
        rw [← hq] at HGv hE
        have hE' : ((q : Int) == 0) = false := by simpa using fun h : (q : Int) = 0 => hE (by omega)
        clear hGi hq hE
        go_wp2
        go_region_held (fun X => X.cell? ⟨g, o + i * 2, none⟩ = some (.int .i64 x) ∧ X.cell? ⟨g, o + i * 2 + 1, none⟩ = some (.int .i64 y)) (first | exact ⟨y0, y1⟩ | exact ⟨z0, z1⟩)
          ((go_at_call 17; refine Calls.mono HGv.out ?_; rintro e w2 ⟨rfl, h2⟩; obtain ⟨z0, z1⟩ := HX.out w2 h2.sn.old; have H2 : Hid _ := h2; clear h2))
        clear y0 y1
        go_wp2
        go_roundw
        case rel => exact ⟨i + 1, _, _, by go_num, by omega, by omega, HE.out.more, H2⟩
        case measure => simp [intOf]; omega
    · have HRg : Hid (Calls Try.prog 22 #[.pointer (some ⟨B, 0, none⟩)] wr fun e w' => ∃ v, e = .returned v ∧ Rg wr w' v (Sl.rng s.O 16)) := RangesS_c HC.out.sn.sm
      have hx1 : (decide ((i : Int) < (n0 : Int)) && decide ((i : Int) < 200)) = false := by simp; omega
      have hle : ∀ j, j < 16 → G j ≤ 200 := fun j hj => by have := (HE.out j hj).2; omega
      have HLe : Hid _ := hle
      have HOne : Hid (Sl.chain s.O 16 0 0 (Sl.rng s.O 16)) := Sl.rng_chain (by have := (HC.out.sn.sm.ok 0 (by omega)).1; omega) 16 (by omega)
      clear hle HI
      by_cases hlt : i < n0
      all_goals
        first
          | have hlt2 : ¬ i < 200 := fun e => hgo ⟨hlt, e⟩
          | skip
        clear hgo hx1
        go_wp2_with fail
        refine Calls.mono HRg.out ?_
        rintro e X0 ⟨v, rfl, hR⟩
        obtain ⟨p, c, hv, hnc, hcm2⟩ := hR.row.form
        obtain ⟨n, hn⟩ : ∃ n, n = (Sl.rng s.O 16).length := ⟨_, rfl⟩
        have hn16 : n ≤ 16 := by rw [hn]; exact Sl.rng_len s.O 16
        have HCX : Hid (Ct w B bh 16 s G X0) := HC.out.below hR.old
        have HL : Hid (∀ m, m < n → ∃ lo hi gr gb off, p = some ⟨gb, off, none⟩ ∧ (Sl.rng s.O 16)[m]? = some (lo, hi, gr) ∧ ∀ Y, Below X0.heap.size X0 Y → Y.cell? ⟨gb, off + m * 3, none⟩ = some (.int .i64 (lo : Int)) ∧ Y.cell? ⟨gb, off + m * 3 + 1, none⟩ = some (.int .i64 (hi : Int)) ∧ Y.cell? ⟨gb, off + m * 3 + 2, none⟩ = some (.int .i64 (gr : Int))) := by
          intro m hm
          obtain ⟨gb, off, cc, hv2, _, _, _, hC⟩ := hR.row.cells (by omega)
          obtain ⟨⟨lo, hi, gr⟩, hr⟩ : ∃ r, (Sl.rng s.O 16)[m]? = some r := ⟨_, List.getElem?_eq_getElem (by omega)⟩
          obtain ⟨e0, e1, e2⟩ := rgCells_at _ _ _ _ _ hr
          have hlt := hR.row.lt (by decide) (k := gb) (by rw [hv2]; rfl)
          rw [hv] at hv2
          injection hv2 with hp
          refine ⟨lo, hi, gr, gb, off, hp, hr, fun Y hY => ⟨?_, ?_, ?_⟩⟩
          · exact (hY.cell (p := ⟨gb, off + m * 3, none⟩) hlt).trans (hC _ _ e0)
          · exact (hY.cell (p := ⟨gb, off + m * 3 + 1, none⟩) hlt).trans (by rw [Nat.add_assoc]; exact hC _ _ e1)
          · exact (hY.cell (p := ⟨gb, off + m * 3 + 2, none⟩) hlt).trans (by rw [Nat.add_assoc]; exact hC _ _ e2)
        rw [← hn] at hv
        subst hv
        have HNn : Hid (n = (Sl.rng s.O 16).length) := hn
        clear hR hn hnc hcm2 HRg
        go_wp2
        go_loopw [10, 11, 13] (fun nv lv iv wr => ∃ (m nx ls : Nat), iv = .int .i64 (m : Int) ∧ m ≤ n ∧ nv = .int .i64 (nx : Int) ∧ lv = .int .i64 (ls : Int) ∧ Hid (Sl.chain s.O 16 nx ls ((Sl.rng s.O 16).drop m)) ∧ Hid (Below X0.heap.size X0 wr)) (fun _ _ iv _ => 16 - (intOf iv).toNat)
        case atStart => exact ⟨0, 0, 0, rfl, by omega, rfl, rfl, HOne, Below.refl _ _⟩
        case round =>
          clear HOne
          obtain ⟨m, nx, ls, rfl, hmn, rfl, rfl, HCh, HW⟩ := hrel
          by_cases hm : m < n
          · obtain ⟨lo, hi, gr, gb, off, hp, hr, hcs⟩ := HL.out m hm
            subst hp
            obtain ⟨h1, h2, h3, h4, h5, h6⟩ := Sl.chain_at HCh.out hr
            subst h1
            have HCs : Hid _ := hcs
            obtain ⟨x0, x1, x2⟩ := hcs wr HW.out
            have t1 : ¬ hi < lo := by omega
            have t2 : ¬ 15 < hi := by omega
            have t2' : decide ((15 : Int) < (hi : Int)) = false := by simp; omega
            have t2'' : ¬ (15 : Int) < (hi : Int) := by omega
            have h15 : hi ≤ 15 := by omega
            have t3 : ((gr : Int) == (ls : Int)) = false := by simpa using fun h : (gr : Int) = (ls : Int) => h4 (by omega)
            have H5 : Hid _ := h5
            have H6 : Hid _ := h6
            clear hcs hr h4 h5 h6
            go_wp2
            go_quiet (fail)
            obtain ⟨u, hu⟩ : ∃ u, u = wr.drewN nq := ⟨_, rfl⟩
            have HWu : Hid (Below X0.heap.size X0 u) := by rw [hu]; exact HW.out.trans ((below_drewN wr nq).mono HW.out.size)
            try rw [← hu]
            clear x0 x1 x2 HW hu
            obtain ⟨x0, x1, x2⟩ := HCs.out u HWu.out
            go_wp2
            go_loopw [14] (fun sv wr => ∃ q : Nat, sv = .int .i64 (q : Int) ∧ lo ≤ q ∧ q ≤ hi + 1 ∧ Hid (Below X0.heap.size X0 wr)) (fun sv _ => 17 - (intOf sv).toNat)
            case atStart => exact ⟨lo, rfl, by omega, by omega, HWu⟩
            case round =>
              clear HWu x0 x1 x2
              obtain ⟨q, rfl, hq1, hq2, HW⟩ := hrel
              obtain ⟨x0, x1, x2⟩ := HCs.out wr HW.out
              by_cases hq : q ≤ hi
              · have hCq := HCX.out.below HW.out
                have HO : Hid (Calls Try.prog 23 #[.pointer (some ⟨B, 0, none⟩), .int .i64 (q : Int)] wr fun e w' => e = .returned (.tuple #[.int .i64 (gr : Int), .int .i64 (1 + (G q : Int)), .int .i64 0]) ∧ Below wr.heap.size wr w') := by
                  have := OwnerS_yes hCq.sn.sm q (by omega)
                  rw [H5.out q hq1 hq, (HE.out q (by omega)).1] at this
                  exact this
                have hgq := HLe.out q (by omega)
                obtain ⟨e, he⟩ : ∃ e, e = G q := ⟨_, rfl⟩
                rw [← he] at HO hgq
                have HEq : Hid (e = G q) := he
                have hq15 : q ≤ 15 := by omega
                clear hCq he x0 x2
                go_wp2_with fail
                refine Calls.mono HO.out ?_
                rintro e9 w5 ⟨rfl, h5⟩
                have HW5 : Hid (Below X0.heap.size X0 w5) := HW.out.trans (h5.mono HW.out.size)
                have c5 := (HCX.out.below HW5.out).c q (by omega)
                rw [← HEq.out] at c5
                clear h5 x1
                obtain ⟨x0, x1, x2⟩ := HCs.out w5 HW5.out
                go_wp2
                go_roundw
                case rel => exact ⟨q + 1, by go_num, by omega, by omega, HW5⟩
                case measure => simp [intOf]; omega
              · obtain rfl : q = hi + 1 := by omega
                have hnl : ¬ (hi : Int) + 1 ≤ (hi : Int) := by omega
                clear hq hq1 hq2
                go_wp2
                go_roundw
                case rel => exact ⟨m + 1, hi + 1, gr, by go_num, by omega, by go_num, rfl, H6, HW⟩
                case measure => simp [intOf]; omega
          · obtain rfl : m = n := by omega
            have hnx : nx = 16 := by
              have := HCh.out
              rw [List.drop_eq_nil_of_le (by rw [← HNn.out]; exact Nat.le_refl _)] at this
              exact this
            subst hnx
            have HWo : Hid (Below w.heap.size w wr) := HCX.out.sn.old.trans (HW.out.mono HCX.out.sn.old.size)
            go_wp2_with fail
            refine (HA.out _).mono ?_
            rintro e w4 ⟨rfl, hb4⟩
            have HB4 : Hid _ := hb4
            clear hb4
            go_wp2
            go_ret
            exact ⟨rfl, HWo.out.trans (HB4.out.mono HWo.out.size)⟩

theorem laidOut : laidOutB Try.prog = true := by kernel_rfl

theorem own : ownKnob Try.prog.godebug = none := by kernel_rfl

set_option maxRecDepth 100000 in
theorem lifted (os : Os) (started : os.Started) (H : Type) (enc : TypeId × Value → H) :
    ReturnsInHanded {} Try.checked os 6 .any (Rows.slotsOwnedSpec.pre6 enc Try.prog Try.f6 Rows.slotsOwnedRow.domain false) (Rows.slotsOwnedSpec.post enc Try.prog Try.f6 false true false false) := by
  refine returnsInHanded_of_change_sized (C := Try.checked) own started (by kernel_rfl) Try.func6
    (ChangeSpec.witness6 (enc := enc) (C := Try.checked) false ⟨#[], #[.int .i64 0, .slice none 0 0], []⟩ 8 (by kernel_rfl) (by kernel_rfl) (by kernel_rfl) (by kernel_rfl)) ?_
  intro W base args ds gs before hval0 hW _ hsz0 _
  have hsz : (DataW.weightsEach Try.prog (Try.f6.params.toList ++ Rows.slotsOwnedSpec.plain.varTypes Try.prog) (ds ++ gs)).all (· ≤ reachBytes) = true := hsz0
  have hval : ∀ (j : Nat) t v, Try.f6.params[j]? = some t → args[j]? = some v → Value.okWide Try.prog W .any base t v := hval0
  have hW' := hW
  obtain ⟨p, q, hA0, hV, rfl, hfz, hnd⟩ := hW
  have hA : DataW.TrodAll enc Try.prog W 0 (fun _ => true) true Try.f6.params.toList args.toList ds p := hA0
  rw [Try.params6] at hA hval hsz
  obtain ⟨v0, vs0, d0, ds0, p0, q0, hargs, rfl, rfl, h0, r0⟩ := trodAll_cons hA
  obtain ⟨v1, vs1, d1, ds1, p1, q1, rfl, rfl, rfl, h1, r1⟩ := trodAll_cons r0
  obtain ⟨rfl, rfl, rfl⟩ := trodAll_nil r1
  obtain rfl : args = #[v0, v1] := by cases args; simp_all
  obtain ⟨rfl, rfl⟩ := trodVars_none hV
  obtain ⟨a0, rfl, rfl, rfl, w0⟩ := open_int Try.underlying3 (hval 0 3 v0 rfl rfl) h0
  have b0 : -9223372036854775808 ≤ a0 ∧ a0 ≤ 9223372036854775807 := by simpa [Lit.wf, IntKind.min, IntKind.max, IntKind.signed, IntKind.bits] using w0
  have k1 := h1
  have lt1 : ∀ x ∈ p1, x.block < W.heap.size := by obtain ⟨m, hm⟩ := k1; exact DataW.trod_lt m _ _ _ hm
  obtain ⟨a1, b1⟩ := open_a2s (hval 1 31 v1 rfl rfl) h1
  clear hA0 hval0 hsz0
  refine (walk a0 v1 a1 W b0 b1).mono fun e W' ⟨he, bel⟩ => ?_
  subst he
  exact ⟨_, rfl, _, _, _, [], _, [], hW', trodAll_mk1 (shut_bool Try.underlying4 _), (trodAll_cons_mk (shut_int Try.underlying3 w0) (trodAll_cons_mk (Below.trod laidOut (by kernel_rfl) (of_decide_eq_true (by kernel_rfl)) k1 bel lt1) trodAll_mk0)), rfl, bel.frame _, fun h => by cases h⟩

theorem over : Rows.slotsOwnedRow.holds Try.pinned (OpenSpec.ofChange Rows.slotsOwnedSpec) :=
  OpenClaim.holds_of_wide 6 Try.f6 rfl rfl rfl rfl rfl rfl rfl ⟨rfl, rfl, rfl, rfl, rfl⟩ rfl rfl rfl rfl rfl (by kernel_rfl) Try.func6 (by kernel_rfl)
    (of_decide_eq_true (by kernel_rfl)) (by unfold Func.isWrapper; first | (rw [if_pos (by decide +kernel)]; kernel_rfl) | (rw [if_neg (by decide +kernel)]; exact ⟨rfl, rfl⟩))
    (fun os started H enc _ => lifted os started H enc)


end Go.Proofs.Ytmdnegjpdedcnaa.slotsOwned
namespace Go.Proofs.Ytmdnegjpdedcnaa
/-- The statement. -/
theorem slotsOwned_holds : Rows.SlotsOwnedSaid := slotsOwned.over
end Go.Proofs.Ytmdnegjpdedcnaa
