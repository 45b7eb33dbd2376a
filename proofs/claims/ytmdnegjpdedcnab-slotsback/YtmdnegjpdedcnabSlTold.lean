/-
  A map tells what the document's does: told.
-/
import Derived.Test.YtmdnegjpdedcnabSlRef3
import Derived.Deep.RegionHeld
import Derived.Deep.QuietTactic
import Derived.BigQuiet
namespace Go.Proofs.Ytmdnegjpdedcnab
open Go.RowKit

/-- A list of ranges that may be read. -/
theorem RowC.reads {X0 : World} {p : Option Addr} {n c : Nat} {L : List (Nat × Nat × Nat)} (h : RowC X0 3 (.slice p n c) L.length (rgCells L)) {m : Nat} (hm : m < L.length) : ∃ lo hi gr gb off, p = some ⟨gb, off, none⟩ ∧ L[m]? = some (lo, hi, gr) ∧ ∀ Y, Below X0.heap.size X0 Y → Y.cell? ⟨gb, off + m * 3, none⟩ = some (.int .i64 (lo : Int)) ∧ Y.cell? ⟨gb, off + m * 3 + 1, none⟩ = some (.int .i64 (hi : Int)) ∧ Y.cell? ⟨gb, off + m * 3 + 2, none⟩ = some (.int .i64 (gr : Int)) := by
  obtain ⟨gb, off, cc, hv2, _, _, _, hC⟩ := h.cells (by omega)
  obtain ⟨⟨lo, hi, gr⟩, hr⟩ : ∃ r, L[m]? = some r := ⟨_, List.getElem?_eq_getElem hm⟩
  obtain ⟨e0, e1, e2⟩ := rgCells_at _ _ _ _ _ hr
  have hlt := h.lt (by decide) (k := gb) (by rw [hv2]; rfl)
  injection hv2 with hp
  refine ⟨lo, hi, gr, gb, off, hp, hr, fun Y hY => ⟨?_, ?_, ?_⟩⟩
  · exact (hY.cell (p := ⟨gb, off + m * 3, none⟩) hlt).trans (hC _ _ e0)
  · exact (hY.cell (p := ⟨gb, off + m * 3 + 1, none⟩) hlt).trans (by rw [Nat.add_assoc]; exact hC _ _ e1)
  · exact (hY.cell (p := ⟨gb, off + m * 3 + 2, none⟩) hlt).trans (by rw [Nat.add_assoc]; exact hC _ _ e2)
theorem RowC.below3 {X Y : World} {v : Value} {n : Nat} {xs : List Value} (h : RowC X 3 v n xs) (hb : Below X.heap.size X Y) : RowC Y 3 v n xs := h.carry (fun k hk => hb.block k (h.lt (by decide) hk))

set_option maxHeartbeats 3200000 in
set_option maxRecDepth 20000 in
theorem told_c {w : World} {B : Nat} {vo ve : Value} {s : Sl.St} (hS : Sm w B s) (hR : Rm w vo ve s) : Calls Try.prog 14 #[.pointer (some ⟨B, 0, none⟩), .agg #[vo, ve]] w fun e w' => e = .returned (.bool true) ∧ Below w.heap.size w w' := by
  obtain ⟨g1, o1, c1, g2, o2, c2, hv1, hv2, hM⟩ := rm_box hR
  obtain ⟨u, hu⟩ : ∃ u, u = w.alloc (.cells #[vo, ve] 29) := ⟨_, rfl⟩
  obtain ⟨ba, hba⟩ : ∃ ba, ba = w.heap.size := ⟨_, rfl⟩
  have HBu : Hid (Below w.heap.size w u) := by rw [hu]; exact below_alloc w _
  have HM : Hid (∀ X, Below u.heap.size u X → X.cell? ⟨ba, 0, none⟩ = some vo ∧ X.cell? ⟨ba, 1, none⟩ = some ve ∧ ∀ j, j < 16 → X.cell? ⟨g1, o1 + j, none⟩ = some (.int .i64 (s.O j : Int)) ∧ X.cell? ⟨g2, o2 + j, none⟩ = some (.int .i64 (s.E j : Int))) := fun X hX => by
    rw [hu] at hX
    rw [hba]
    exact hM X hX
  have HOw : Hid (∀ X, Below u.heap.size u X → Below w.heap.size w X) := fun X hX => HBu.out.trans (hX.mono HBu.out.size)
  have HO1 : Hid (∀ (z : Int) (X : World), isSlot z = false → Below u.heap.size u X → Calls Try.prog 35 #[.pointer (some ⟨B, 0, none⟩), .int .i64 z] X fun e w' => e = .returned (.tuple #[.int .i64 0, .int .i64 0, .int .i64 1]) ∧ w' = X) := fun z X hz hX => OwnerS_out (hS.below (HOw.out X hX)) z hz
  have HO2 : Hid (∀ (j : Nat) (X : World), j < 16 → Below u.heap.size u X → Calls Try.prog 35 #[.pointer (some ⟨B, 0, none⟩), .int .i64 (j : Int)] X fun e w' => e = .returned (.tuple #[.int .i64 (s.O j : Int), .int .i64 (s.E j : Int), .int .i64 0]) ∧ Below X.heap.size X w') := fun j X hj hX => OwnerS_yes (hS.below (HOw.out X hX)) j hj
  obtain ⟨n, hn⟩ : ∃ n, n = (Sl.rng s.O 16).length := ⟨_, rfl⟩
  have hn16 : n ≤ 16 := by rw [hn]; exact Sl.rng_len s.O 16
  have HC1 : Hid (∀ X, Below u.heap.size u X → Calls Try.prog 36 #[.pointer (some ⟨B, 0, none⟩)] X fun e w' => ∃ p c, e = .returned (.slice p n c) ∧ RowC w' 3 (.slice p n c) n (rgCells (Sl.rng s.O 16)) ∧ Below X.heap.size X w') := fun X hX => by
    refine (RangesS_c (hS.below (HOw.out X hX))).mono ?_
    rintro e w' ⟨v, rfl, h1⟩
    obtain ⟨p, c, hv, _⟩ := h1.row.form
    have hr := h1.row
    rw [hv, ← hn] at hr
    exact ⟨p, c, by rw [hv, hn], hr, h1.old⟩
  have HC2 : Hid (∀ X, Below u.heap.size u X → Calls Try.prog 37 #[.agg #[vo, ve]] X fun e w' => ∃ p c, e = .returned (.slice p n c) ∧ RowC w' 3 (.slice p n c) n (rgCells (Sl.rng s.O 16)) ∧ Below X.heap.size X w') := fun X hX => by
    refine (rRangesS_c (hR.below (HOw.out X hX))).mono ?_
    rintro e w' ⟨v, rfl, h1⟩
    obtain ⟨p, c, hv, _⟩ := h1.row.form
    have hr := h1.row
    rw [hv, ← hn] at hr
    exact ⟨p, c, by rw [hv, hn], hr, h1.old⟩
  obtain ⟨sb, hsb⟩ : ∃ sb : ByteArray, sb = ⟨(Sl.bytesTo s 16).toArray⟩ := ⟨_, rfl⟩
  have HD1 : Hid (∀ X, Below u.heap.size u X → Calls Try.prog 12 #[.pointer (some ⟨B, 0, none⟩)] X fun e w' => e = .returned (.tuple #[.string sb, .int .i64 0]) ∧ Below X.heap.size X w') := fun X hX => by
    rw [hsb]; exact BytesS_c (hS.below (HOw.out X hX))
  have HD2 : Hid (∀ X, Below u.heap.size u X → Calls Try.prog 38 #[.agg #[vo, ve]] X fun e w' => e = .returned (.string sb) ∧ Below X.heap.size X w') := fun X hX => by
    rw [hsb]; exact rBytesS_c (hR.below (HOw.out X hX)) hS.ok
  have HNn : Hid (n = (Sl.rng s.O 16).length) := hn
  subst hv1 hv2
  clear hS hR hM hn hsb
  go_enter Try.func14, Try.ntmps14
  go_wp2
  rw [← hu, ← hba]
  clear hu hba
  go_loopw [5] (fun x wr => ∃ z : Int, x = .int .i64 z ∧ -1 ≤ z ∧ z ≤ 17 ∧ Hid (Below u.heap.size u wr)) (fun x _ => (17 - intOf x).toNat)
  case atStart => exact ⟨-1, rfl, by omega, by omega, Below.refl _ _⟩
  case round =>
    obtain ⟨z, rfl, hz1, hz2, HB⟩ := hrel
    by_cases hz : z ≤ 16
    · by_cases hin : 0 ≤ z ∧ z < 16
      · obtain ⟨j, rfl⟩ : ∃ j : Nat, z = (j : Int) := ⟨z.toNat, by omega⟩
        have hj : j < 16 := by omega
        have HO : Hid _ := HO2.out j wr hj HB.out
        have t1 : ¬ (j : Int) < 0 := by omega
        have t2 : ¬ (j : Int) > 15 := by omega
        obtain ⟨og, hog⟩ : ∃ og, og = s.O j := ⟨_, rfl⟩
        obtain ⟨en, hen⟩ : ∃ en, en = s.E j := ⟨_, rfl⟩
        rw [← hog, ← hen] at HO
        have HOg : Hid (og = s.O j ∧ en = s.E j) := ⟨hog, hen⟩
        clear hin hog hen hz1 hz2
        go_wp2_with fail
        refine Calls.mono HO.out ?_
        rintro e w2 ⟨rfl, h2⟩
        have HB2 : Hid (Below u.heap.size u w2) := HB.out.trans (h2.mono HB.out.size)
        obtain ⟨m0, m1, mj⟩ := HM.out w2 HB2.out
        obtain ⟨mo, me⟩ := mj j hj
        rw [← HOg.out.1] at mo
        rw [← HOg.out.2] at me
        clear h2 mj
        go_wp2
        go_roundw
        case rel => exact ⟨(j : Int) + 1, rfl, by omega, by omega, HB2⟩
        case measure => simp [intOf]; omega
      · have HO : Hid _ := HO1.out z wr (by unfold isSlot; simp; omega) HB.out
        rcases (show z = -1 ∨ z = 16 by omega) with e | e
        · subst e
          clear hin hz1 hz2 hz
          go_wp2_with fail
          refine Calls.mono HO.out ?_
          rintro e w2 ⟨rfl, h2⟩
          have h2 := h2.symm
          subst h2
          go_wp2
          go_roundw
          case rel => exact ⟨0, rfl, by omega, by omega, HB⟩
          case measure => simp [intOf]
        · subst e
          clear hin hz1 hz2 hz
          go_wp2_with fail
          refine Calls.mono HO.out ?_
          rintro e w2 ⟨rfl, h2⟩
          have h2 := h2.symm
          subst h2
          go_wp2
          go_roundw
          case rel => exact ⟨17, rfl, by omega, by omega, HB⟩
          case measure => simp [intOf]
    · obtain rfl : z = 17 := by omega
      obtain ⟨m0, m1, -⟩ := HM.out wr HB.out
      have HW0 : Hid (Below u.heap.size u wr.drew) := HB.out.drew
      have HKp : Hid (∀ X, Below u.heap.size u X → X.cell? ⟨ba, 0, none⟩ = some (.slice (some ⟨g1, o1, none⟩) 16 c1) ∧ X.cell? ⟨ba, 1, none⟩ = some (.slice (some ⟨g2, o2, none⟩) 16 c2)) := fun X hX => ⟨(HM.out X hX).1, (HM.out X hX).2.1⟩
      clear hz hz1 hz2 HO1 HO2 HB
      go_wp2
      go_region_held (fun X => X.cell? ⟨ba, 0, none⟩ = some (.slice (some ⟨g1, o1, none⟩) 16 c1) ∧ X.cell? ⟨ba, 1, none⟩ = some (.slice (some ⟨g2, o2, none⟩) 16 c2))
        (first | with_reducible exact ⟨m0, m1⟩ | with_reducible exact HKp.out _ HWZ.out | with_reducible exact HKp.out _ HW1.out | with_reducible exact HKp.out _ HW2.out | with_reducible exact HKp.out _ HW0.out)
        (first
          | (go_at_call 36; refine (HC1.out _ HW2.out).mono ?_; rintro e wZ ⟨p1, d1, rfl, hr1, hb1⟩; have HR1 : Hid _ := hr1; have HR2 : Hid _ := RowC.below3 HR2.out hb1; have HWZ : Hid (Below u.heap.size u wZ) := HW2.out.trans (hb1.mono HW2.out.size); clear hr1 hb1)
          | (go_at_call 36; refine (HC1.out _ HW0.out).mono ?_; rintro e w1 ⟨p1, d1, rfl, hr1, hb1⟩; have HR1 : Hid _ := hr1; have HW1 : Hid (Below u.heap.size u w1) := HW0.out.trans (hb1.mono HW0.out.size); clear hr1 hb1)
          | (go_at_call 37; refine (HC2.out _ HW1.out).mono ?_; rintro e wZ ⟨p2, d2, rfl, hr2, hb2⟩; have HR2 : Hid _ := hr2; have HR1 : Hid _ := RowC.below3 HR1.out hb2; have HWZ : Hid (Below u.heap.size u wZ) := HW1.out.trans (hb2.mono HW1.out.size); clear hr2 hb2)
          | (go_at_call 37; refine (HC2.out _ HW0.out).mono ?_; rintro e w2 ⟨p2, d2, rfl, hr2, hb2⟩; have HR2 : Hid _ := hr2; have HW2 : Hid (Below u.heap.size u w2) := HW0.out.trans (hb2.mono HW0.out.size); clear hr2 hb2))
      all_goals
        have HL : Hid (∀ m, m < n → ∃ lo hi gr gb off gb' off', p1 = some ⟨gb, off, none⟩ ∧ p2 = some ⟨gb', off', none⟩ ∧ ∀ Y, Below wZ.heap.size wZ Y → (Y.cell? ⟨gb, off + m * 3, none⟩ = some (.int .i64 ((lo : Nat) : Int)) ∧ Y.cell? ⟨gb, off + m * 3 + 1, none⟩ = some (.int .i64 ((hi : Nat) : Int)) ∧ Y.cell? ⟨gb, off + m * 3 + 2, none⟩ = some (.int .i64 ((gr : Nat) : Int))) ∧ Y.cell? ⟨gb', off' + m * 3, none⟩ = some (.int .i64 ((lo : Nat) : Int)) ∧ Y.cell? ⟨gb', off' + m * 3 + 1, none⟩ = some (.int .i64 ((hi : Nat) : Int)) ∧ Y.cell? ⟨gb', off' + m * 3 + 2, none⟩ = some (.int .i64 ((gr : Nat) : Int))) := by
          intro m hm
          have r1 : RowC wZ 3 (.slice p1 n d1) n (rgCells (Sl.rng s.O 16)) := HR1.out
          have r2 : RowC wZ 3 (.slice p2 n d2) n (rgCells (Sl.rng s.O 16)) := HR2.out
          have hm' : m < (Sl.rng s.O 16).length := by rw [← HNn.out]; exact hm
          rw [HNn.out] at r1 r2
          obtain ⟨lo, hi, gr, gb, off, hp, hl, hc⟩ := RowC.reads r1 hm'
          obtain ⟨lo', hi', gr', gb', off', hp', hl', hc'⟩ := RowC.reads r2 hm'
          rw [hl] at hl'
          injection hl' with hl'
          injection hl' with e1 e2
          injection e2 with e2 e3
          subst e1 e2 e3
          exact ⟨lo, hi, gr, gb, off, gb', off', hp, hp', fun Y hY => ⟨hc Y hY, hc' Y hY⟩⟩
        clear HC1 HC2 HW0 HR1 HR2 m0 m1
        go_wp2
        go_loopw [11] (fun iv wr => ∃ m : Nat, iv = .int .i64 (m : Int) ∧ m ≤ n ∧ Hid (Below wZ.heap.size wZ wr)) (fun iv _ => 16 - (intOf iv).toNat)
        case atStart => exact ⟨0, rfl, by omega, Below.refl _ _⟩
        case round =>
          obtain ⟨m, rfl, hmn, HB⟩ := hrel
          by_cases hm : m < n
          · obtain ⟨lo, hi, gr, gb, off, gb', off', hp, hp', hc⟩ := HL.out m hm
            subst hp hp'
            obtain ⟨⟨x0, x1, x2⟩, y0, y1, y2⟩ := hc wr HB.out
            clear hc HL
            go_wp2
            go_quiet (fail)
            go_wp2
            go_roundw
            case rel => exact ⟨m + 1, by go_num, by omega, HB.out.trans ((below_drewN wr nq).mono HB.out.size)⟩
            case measure => simp [intOf]; omega
          · obtain rfl : m = n := by omega
            have HBu2 : Hid (Below u.heap.size u wr) := HWZ.out.trans (HB.out.mono HWZ.out.size)
            have HY1 : Hid _ := HD1.out wr HBu2.out
            clear hm hmn HL HD1
            go_wp2_with fail
            refine Calls.mono HY1.out ?_
            rintro e w5 ⟨rfl, h5⟩
            have HB5 : Hid (Below u.heap.size u w5) := HBu2.out.trans (h5.mono HBu2.out.size)
            have HY2 : Hid _ := HD2.out w5 HB5.out
            obtain ⟨m0, m1⟩ := HKp.out w5 HB5.out
            clear h5 HD2
            go_wp2_with fail
            refine Calls.mono HY2.out ?_
            rintro e w6 ⟨rfl, h6⟩
            have HB6 : Hid (Below w.heap.size w w6) := HOw.out _ (HB5.out.trans (h6.mono HB5.out.size))
            clear h6
            go_wp2
            go_ret
            exact ⟨rfl, HB6.out⟩

end Go.Proofs.Ytmdnegjpdedcnab
