/-
  For every list of calls: SessionPlays answers true: whatever is put and asked for, a table tells what the document's does, and copies go their own way; the argument reads afterwards as before. No condition.
-/
import Derived.Test.YtnfjfhjhofaodaaSePl
import Derived.Test.YtnfjfhjhofaodaaSeArgs
import Derived.Deep.CutRange
import Derived.ProofKit
import Derived.OpenShut
import Derived.ShutString
import Derived.SizedLaws
namespace Go.Proofs.Ytnfjfhjhofaodaa.sessionPlays
open Go.ChangeShapes Go.WideShapes Go.ChangeAt Go.RowKit
open Go.ChangeMaps (open_string shut_string)

set_option maxHeartbeats 3200000 in
set_option maxRecDepth 20000 in
theorem walk (v0 : Value) (a0 : List Op11) (w : World) (_b0 : Elems w 6 o11Cells (O11In w) v0 a0) :
    Calls Try.prog 6 #[v0] w fun e w' => e = .returned (.bool true) ∧ Below w.heap.size w w' := by
  have HA : Hid (∀ u : World, Calls Try.prog 12 #[] u fun e w' => e = .returned (.bool true) ∧ Below u.heap.size u w') := awake_c
  have HNew : Hid _ := NewT_fresh w (Below.refl _ w)
  obtain ⟨B, hB⟩ : ∃ B, B = w.heap.size + 1 := ⟨_, rfl⟩
  obtain ⟨mb, hmb⟩ : ∃ mb, mb = w.heap.size := ⟨_, rfl⟩
  rw [← hB, ← hmb] at HNew
  obtain ⟨p0, c0, hv0, hc1, hc2, _, hgood, hcells⟩ := _b0
  obtain ⟨n0, hn0⟩ : ∃ n0, n0 = a0.length := ⟨_, rfl⟩
  rw [← hn0] at hv0 hc1
  have HI : Hid (∀ i, i < n0 → ∃ (kd a b : Int) (r : Mo.Re) (pq : Option Addr) (cq : Nat) (g o : Nat), p0 = some ⟨g, o, none⟩ ∧ PoR w (.slice pq r.posts.length cq) r.posts ∧ (∀ p ∈ r.posts, PoIn p) ∧ ∀ X, Below w.heap.size w X → X.cell? ⟨g, o + i * 6, none⟩ = some (.int .i64 kd) ∧ X.cell? ⟨g, o + i * 6 + 1, none⟩ = some (.int .i64 a) ∧ X.cell? ⟨g, o + i * 6 + 2, none⟩ = some (.int .i64 b) ∧ X.cell? ⟨g, o + i * 6 + 3, none⟩ = some (.int .i64 r.err) ∧ X.cell? ⟨g, o + i * 6 + 4, none⟩ = some (.int .i64 r.at_) ∧ X.cell? ⟨g, o + i * 6 + 5, none⟩ = some (.slice pq r.posts.length cq)) := by
    intro k hk
    obtain ⟨q, hq⟩ : ∃ q, a0[k]? = some q := ⟨_, List.getElem?_eq_getElem (by omega)⟩
    obtain ⟨_, _, hpo, hin, _⟩ := hgood q (List.mem_of_getElem? hq)
    obtain ⟨pq, cq, hpv, _⟩ := hpo.form
    rcases hcells with h | ⟨g, o, hp, hg, hcs⟩
    · rw [h] at hq
      simp at hq
    · refine ⟨q.kind, q.ses, q.seq, q.re, pq, cq, g, o, hp, by rw [← hpv]; exact hpo, hin, fun X hX => ?_⟩
      have e : ∀ j, X.cell? ⟨g, j, none⟩ = w.cell? ⟨g, j, none⟩ := fun j => hX.cell (p := ⟨g, j, none⟩) hg
      rw [e, e, e, e, e, e, ← hpv]
      exact ⟨hcs k q hq 0 _ rfl, hcs k q hq 1 _ rfl, hcs k q hq 2 _ rfl, hcs k q hq 3 _ rfl, hcs k q hq 4 _ rfl, hcs k q hq 5 _ rfl⟩
  subst hv0
  have hcm := hc2
  unfold maxLen at hcm
  clear hn0 hgood hcells hc2 hB hmb
  go_enter Try.func6, Try.ntmps6
  go_wp2_with fail
  refine Calls.mono HNew.out ?_
  rintro e w1 ⟨rfl, hl, _⟩
  obtain ⟨X0, hX0⟩ : ∃ X0, X0 = (w1.alloc (.cells #[.slice none 0 0, .slice none 0 0] 43)).alloc (.cells #[.slice none 0 0, .slice none 0 0] 43) := ⟨_, rfl⟩
  obtain ⟨b5, hb5⟩ : ∃ b5, b5 = w1.heap.size + 1 := ⟨_, rfl⟩
  obtain ⟨b4, hb4⟩ : ∃ b4, b4 = w1.heap.size := ⟨_, rfl⟩
  have HP0 : Hid (Pst w B mb b4 b5 (.pointer none) X0) := by rw [hX0, hb5, hb4]; exact Pst.begin hl
  clear hl
  go_wp2
  rw [← hX0, ← hb5, ← hb4]
  clear hX0 hb5 hb4
  go_loopw [6, 7] (fun cv iv wr => ∃ i : Nat, iv = .int .i64 (i : Int) ∧ i ≤ n0 ∧ i ≤ 300 ∧ Hid (Pst w B mb b4 b5 cv wr)) (fun _ iv _ => 300 - (intOf iv).toNat)
  case atStart => exact ⟨0, rfl, by omega, by omega, HP0⟩
  case round =>
    clear HP0
    obtain ⟨i, rfl, hin, hi300, HP⟩ := hrel
    by_cases hlt : i < n0 ∧ i < 300
    · obtain ⟨hlt, hlt2⟩ := hlt
      obtain ⟨kd, a, b, r, pq, cq, g, o, hp, hpo, hps, hX⟩ := HI.out i hlt
      subst hp
      obtain ⟨y0, y1, y2, y3, y4, y5⟩ := hX wr HP.out.old
      have HPo : Hid (PoR w (.slice pq r.posts.length cq) r.posts ∧ ∀ p ∈ r.posts, PoIn p) := ⟨hpo, hps⟩
      have hk0 : (0 : Int) ≤ (i : Int) := by omega
      have hk1 : (i : Int) < (n0 : Int) := by omega
      have hi2 : (i : Int) < 300 := by omega
      obtain ⟨wo, hwo⟩ : ∃ wo, wo = wr.alloc (.cells #[.int .i64 kd, .int .i64 a, .int .i64 b, .int .i64 r.err, .int .i64 r.at_, .slice pq r.posts.length cq] 45) := ⟨_, rfl⟩
      obtain ⟨b8, hb8⟩ : ∃ b8, b8 = wr.heap.size := ⟨_, rfl⟩
      have hbo : Below wr.heap.size wr wo := by rw [hwo]; exact below_alloc _ _
      have hlo : b8 < wo.heap.size := by rw [hwo, hb8]; simp
      have HPw : Hid (Pst w B mb b4 b5 u6 wo) := HP.out.below hbo
      have HO : Hid (∀ X, Below wo.heap.size wo X → X.cell? ⟨b8, 0, none⟩ = some (.int .i64 kd) ∧ X.cell? ⟨b8, 1, none⟩ = some (.int .i64 a) ∧ X.cell? ⟨b8, 2, none⟩ = some (.int .i64 b) ∧ X.cell? ⟨b8, 3, none⟩ = some (.int .i64 r.err) ∧ X.cell? ⟨b8, 4, none⟩ = some (.int .i64 r.at_) ∧ X.cell? ⟨b8, 5, none⟩ = some (.slice pq r.posts.length cq)) := fun X hX => by
        have e : ∀ j, X.cell? ⟨b8, j, none⟩ = (#[.int .i64 kd, .int .i64 a, .int .i64 b, .int .i64 r.err, .int .i64 r.at_, .slice pq r.posts.length cq] : Array Value)[j]? := fun j => by
          rw [hX.cell (p := ⟨b8, j, none⟩) hlo, hwo, hb8]
          exact World.cell?_alloc_mark wr _ _ _ j
        exact ⟨e 0, e 1, e 2, e 3, e 4, e 5⟩
      have HWo : Hid (Below w.heap.size w wo) := HPw.out.old
      clear hX hpo hps hbo hlo HP
      go_upto_region 11 with fail
      rw [← hwo, ← hb8]
      clear hwo hb8 y0 y1 y2 y3 y4 y5
      obtain ⟨z0, z1, z2, z3, z4, z5⟩ := HO.out wo (Below.refl _ _)
      by_cases h100 : 100 < r.posts.length
      · have h100' : (r.posts.length : Int) > 100 := by omega
        generalize r.posts.length = np at *
        go_wp2_with fail
        refine (HA.out _).mono ?_
        rintro e w3 ⟨rfl, hb3⟩
        have HB3 : Hid _ := hb3
        clear hb3
        go_wp2
        go_ret
        exact ⟨rfl, HWo.out.trans (HB3.out.mono HWo.out.size)⟩
      · have h100' : ¬ (r.posts.length : Int) > 100 := by omega
        go_upto_if 42 with fail
        go_cut [9, 10, 11, 12, 13, 14] from 20 to 93 (fun _ _ _ _ _ _ wx => Hid (Pst w B mb b4 b5 u6 wx))
        case first =>
          obtain ⟨t, vi, vr, hTs, hBox, hRT, hMay⟩ := HPw.out.st
          obtain ⟨pi, ni, ci, hvi⟩ := hBox.si
          obtain ⟨pr, nr, cr, hvr⟩ := hBox.sr
          subst hvi hvr
          have q0 := hBox.c0
          have q1 := hBox.c1
          have HSt : Hid (Ts w wo B mb (bare t) ∧ Box2 wo b4 (.slice pi ni ci) (.slice pr nr cr) ∧ RT wo (.agg #[.slice pi ni ci, .slice pr nr cr]) t ∧ MayAll (bare t)) := ⟨hTs, hBox, hRT, hMay⟩
          by_cases hkd : kd = 1
          · subst hkd
            have HR : Hid (Calls Try.prog 14 #[.agg #[.slice pi ni ci, .slice pr nr cr], .agg #[.int .i64 a, .int .i64 b], .agg #[.int .i64 r.err, .int .i64 r.at_, .slice pq r.posts.length cq]] wo (RPo wo t a b r)) := rPut_c hRT a b r (HPo.out.1.below HWo.out)
            clear hTs hBox hRT hMay
            go_wp2_with fail
            refine Calls.mono HR.out ?_
            rintro e w2 ⟨vi', vr', t', rfl, hRT', hbare, hb2⟩
            obtain ⟨vi2, vr2, he2, hri, hrr⟩ := hRT'.val
            obtain ⟨p2, c2, hvi, _⟩ := hri.form
            obtain ⟨p3, c3, hvr, _⟩ := hrr.form
            obtain ⟨rfl, rfl⟩ : vi' = vi2 ∧ vr' = vr2 := by
              injection he2 with he2
              have := congrArg Array.toList he2
              simp at this
              exact this
            subst hvi hvr
            obtain ⟨w3, hw3⟩ : ∃ w3, w3 = w2.alloc (.cells #[.slice p2 t'.length c2, .slice p3 t'.length c3] 43) := ⟨_, rfl⟩
            obtain ⟨b9, hb9⟩ : ∃ b9, b9 = w2.heap.size := ⟨_, rfl⟩
            have h23 : Below w2.heap.size w2 w3 := by rw [hw3]; exact below_alloc _ _
            have hw3' : Below wo.heap.size wo w3 := hb2.trans (h23.mono hb2.size)
            have HW3 : Hid (Below wo.heap.size wo w3) := hw3'
            have hT3 : Ts w w3 B mb (bare t) := HSt.out.1.below hw3'
            have hB9 : Box2 w3 b9 (.slice p2 t'.length c2) (.slice p3 t'.length c3) := by rw [hw3, hb9]; exact Box2.made _ _ _ _ _ _ _ _
            have HPut : Hid (Calls Try.prog 11 #[.pointer (some ⟨B, 0, none⟩), .agg #[.int .i64 a, .int .i64 b], .agg #[.int .i64 r.err, .int .i64 r.at_, .slice pq r.posts.length cq]] w3 fun e Y => e = .returned (.int .i64 (Se.putE (bare t) a b r)) ∧ (Y.cell? ⟨b9, 0, none⟩ = some (.slice p2 t'.length c2) ∧ Y.cell? ⟨b9, 1, none⟩ = some (.slice p3 t'.length c3)) ∧ (Y.cell? ⟨b4, 0, none⟩ = some (.slice pi ni ci) ∧ Y.cell? ⟨b4, 1, none⟩ = some (.slice pr nr cr) ∧ Y.frozen? ⟨b4, 0, none⟩ = false ∧ Y.frozen? ⟨b4, 1, none⟩ = false) ∧ Pst w B mb b4 b5 u6 (fin2 Y b4 (.slice p2 t'.length c2) (.slice p3 t'.length c3))) := by
              refine (hT3.put a b r (HPo.out.1.below (HWo.out.trans (hw3'.mono HWo.out.size))) HPo.out.2).mono ?_
              rintro e Y ⟨rfl, h1, h2, _⟩
              have hB4 := HSt.out.2.1.below hw3'
              have k9 := hB9.grown hT3.tb h2
              have k4 := hB4.grown hT3.tb h2
              exact ⟨rfl, ⟨k9.c0, k9.c1⟩, ⟨k4.c0, k4.c1, k4.f0, k4.f1⟩, Pst.put HPw.out.ne hT3 hB4 HSt.out.2.2.2 (HPw.out.cp.below hw3') (hRT'.below h23) hbare h1 h2⟩
            obtain ⟨z0', z1', z2', z3', z4', z5'⟩ := HO.out w3 hw3'
            rw [hw3] at z0' z1' z2' z3' z4' z5'
            generalize Se.putE (bare t) a b r = E at *
            generalize r.posts.length = np at *
            generalize t'.length = nt at *
            clear hRT' hri hrr hbare hb2 h23 hw3' hT3 hB9 z0 z1 z2 z3 z4 z5 q0 q1 he2
            go_wp2_with fail
            rw [← hw3]
            clear z0' z1' z2' z3' z4' z5'
            rw [← hb9]
            clear hw3 hb9
            refine Calls.mono HPut.out ?_
            rintro e w4 ⟨rfl, ⟨d0, d1⟩, ⟨e0, e1, e2, e3⟩, hP4⟩
            have HP4 : Hid (Pst w B mb b4 b5 u6 (fin2 w4 b4 (.slice p2 nt c2) (.slice p3 nt c3))) := hP4
            clear hP4
            go_wp2
            go_meet
            exact HP4
          · have hkb : (kd == 1) = false := by simpa using hkd
            obtain ⟨re, c, hf⟩ : ∃ re c, Se.find (bare t) a b = (re, c) := ⟨_, _, rfl⟩
            have HF : Hid (Calls Try.prog 10 #[.pointer (some ⟨B, 0, none⟩), .agg #[.int .i64 a, .int .i64 b]] wo fun e Y => ∃ p cc, e = .returned (.tuple #[.agg #[.int .i64 re.err, .int .i64 re.at_, .slice p re.posts.length cc], .int .i64 c]) ∧ PoR Y (.slice p re.posts.length cc) re.posts ∧ Below wo.heap.size wo Y) := by
              refine (hTs.find a b hf).mono ?_
              rintro e Y ⟨p, cc, rfl, h1, _, h3, _⟩
              exact ⟨p, cc, rfl, PoR.ofRow h1, h3⟩
            have HR : Hid (∀ X, Below wo.heap.size wo X → Calls Try.prog 15 #[.agg #[.slice pi ni ci, .slice pr nr cr], .agg #[.int .i64 a, .int .i64 b]] X fun e Y => ∃ p cc, e = .returned (.tuple #[.agg #[.int .i64 re.err, .int .i64 re.at_, .slice p re.posts.length cc], .int .i64 c]) ∧ PoR Y (.slice p re.posts.length cc) re.posts ∧ Below X.heap.size X Y) := fun X hX => by
              refine (rFind_c (HSt.out.2.2.1.below hX) a b).mono ?_
              rintro e Y ⟨pv, rfl, h1, h2⟩
              rw [hf] at h1 ⊢
              obtain ⟨p, cc, hv, _⟩ := h1.form
              subst hv
              exact ⟨p, cc, rfl, h1, h2⟩
            have HSm : Hid (∀ X p cc p' cc', PoR X (.slice p re.posts.length cc) re.posts → PoR X (.slice p' re.posts.length cc') re.posts → Calls Try.prog 16 #[.agg #[.int .i64 re.err, .int .i64 re.at_, .slice p re.posts.length cc], .agg #[.int .i64 re.err, .int .i64 re.at_, .slice p' re.posts.length cc']] X fun e Y => e = .returned (.bool true) ∧ Below X.heap.size X Y) := fun X p cc p' cc' h1 h2 => Same_eq _ _ h1 h2
            generalize r.posts.length = np at *
            clear hTs hBox hRT hMay hkd hf
            go_wp2_with fail
            refine Calls.mono HF.out ?_
            rintro e w2 ⟨p2, c2, rfl, hpo2, hb2⟩
            obtain ⟨w3, hw3⟩ : ∃ w3, w3 = w2.alloc (.cells #[.int .i64 re.err, .int .i64 re.at_, .slice p2 re.posts.length c2] 31) := ⟨_, rfl⟩
            obtain ⟨b11, hb11⟩ : ∃ b11, b11 = w2.heap.size := ⟨_, rfl⟩
            have h23 : Below w2.heap.size w2 w3 := by rw [hw3]; exact below_alloc _ _
            have hw3' : Below wo.heap.size wo w3 := hb2.trans (h23.mono hb2.size)
            have HW3 : Hid (Below wo.heap.size wo w3) := hw3'
            have HP3 : Hid (PoR w3 (.slice p2 re.posts.length c2) re.posts) := hpo2.below h23
            have hl3 : b11 < w3.heap.size := by rw [hw3, hb11]; simp
            have H11 : Hid (∀ X, Below w3.heap.size w3 X → X.cell? ⟨b11, 0, none⟩ = some (.int .i64 re.err) ∧ X.cell? ⟨b11, 1, none⟩ = some (.int .i64 re.at_) ∧ X.cell? ⟨b11, 2, none⟩ = some (.slice p2 re.posts.length c2)) := fun X hX => by
              rw [hX.cell (p := ⟨b11, 0, none⟩) hl3, hX.cell (p := ⟨b11, 1, none⟩) hl3, hX.cell (p := ⟨b11, 2, none⟩) hl3, hw3, hb11]
              exact ⟨World.cell?_alloc_mark w2 _ _ _ 0, World.cell?_alloc_mark w2 _ _ _ 1, World.cell?_alloc_mark w2 _ _ _ 2⟩
            obtain ⟨z0', z1', z2', z3', z4', z5'⟩ := HO.out w3 hw3'
            have q0' := (HSt.out.2.1.below hw3').c0
            have q1' := (HSt.out.2.1.below hw3').c1
            have HR3 : Hid _ := HR.out w3 hw3'
            clear hpo2 hb2 h23 hw3' hl3 z0 z1 z2 z3 z4 z5 q0 q1
            go_upto_region 19 with fail
            rw [← hw3, ← hb11]
            clear hw3 hb11
            go_wp2_with fail
            refine Calls.mono HR3.out ?_
            rintro e w4 ⟨p4, c4, rfl, hpo4, hb4'⟩
            obtain ⟨w5, hw5⟩ : ∃ w5, w5 = w4.alloc (.cells #[.int .i64 re.err, .int .i64 re.at_, .slice p4 re.posts.length c4] 31) := ⟨_, rfl⟩
            obtain ⟨b13, hb13⟩ : ∃ b13, b13 = w4.heap.size := ⟨_, rfl⟩
            have h45 : Below w4.heap.size w4 w5 := by rw [hw5]; exact below_alloc _ _
            have hw5' : Below w3.heap.size w3 w5 := hb4'.trans (h45.mono hb4'.size)
            have HW5 : Hid (Below wo.heap.size wo w5) := HW3.out.trans (hw5'.mono HW3.out.size)
            have HS5 : Hid _ := HSm.out w5 p2 c2 p4 c4 (HP3.out.below hw5') (hpo4.below h45)
            obtain ⟨l0, l1, l2⟩ := H11.out w5 hw5'
            obtain ⟨m0, m1, m2⟩ : w5.cell? ⟨b13, 0, none⟩ = some (.int .i64 re.err) ∧ w5.cell? ⟨b13, 1, none⟩ = some (.int .i64 re.at_) ∧ w5.cell? ⟨b13, 2, none⟩ = some (.slice p4 re.posts.length c4) := by
              rw [hw5, hb13]
              exact ⟨World.cell?_alloc_mark w4 _ _ _ 0, World.cell?_alloc_mark w4 _ _ _ 1, World.cell?_alloc_mark w4 _ _ _ 2⟩
            clear hpo4 hb4' h45 hw5' z0' z1' z2' z3' z4' z5' q0' q1'
            go_upto_region 20 with fail
            rw [← hw5, ← hb13]
            clear hw5 hb13
            go_wp2_with fail
            refine Calls.mono HS5.out ?_
            rintro e w6 ⟨rfl, hb6⟩
            have HP6 : Hid (Pst w B mb b4 b5 u6 w6) := HPw.out.below (HW5.out.trans (hb6.mono HW5.out.size))
            clear hb6 l0 l1 l2 m0 m1 m2
            go_wp2
            go_meet
            exact HP6
        case rest =>
          clear HPw z0 z1 z2 z3 z4 z5
          have HPc : Hid (Pst w B mb b4 b5 u6 wc) := hcut
          clear hcut
          go_upto_if 88 with fail
          cases hh : ((i : Int) == (n0 : Int) / 2) with
          | false =>
            go_wp2
            go_roundw
            case rel => exact ⟨i + 1, by go_num, by omega, by omega, HPc⟩
            case measure => simp [intOf]; omega
          | true =>
            obtain ⟨t, vi, vr, hTs, hBox, hRT, hMay⟩ := HPc.out.st
            obtain ⟨pi, ni, ci, hvi⟩ := hBox.si
            obtain ⟨pr, nr, cr, hvr⟩ := hBox.sr
            subst hvi hvr
            obtain ⟨ui, ur, hb5'⟩ := HPc.out.cp.box
            have HC : Hid (Calls Try.prog 17 #[.pointer (some ⟨B, 0, none⟩)] wc fun e Y => ∃ B2, e = .returned (.pointer (some ⟨B2, 0, none⟩)) ∧ (Y.cell? ⟨b4, 0, none⟩ = some (.slice pi ni ci) ∧ Y.cell? ⟨b4, 1, none⟩ = some (.slice pr nr cr)) ∧ (Y.cell? ⟨b5, 0, none⟩ = some ui ∧ Y.cell? ⟨b5, 1, none⟩ = some ur ∧ Y.frozen? ⟨b5, 0, none⟩ = false ∧ Y.frozen? ⟨b5, 1, none⟩ = false) ∧ Pst w B mb b4 b5 (.pointer (some ⟨B2, 0, none⟩)) (fin2 Y b5 (.slice pi ni ci) (.slice pr nr cr))) := by
              refine (Copy_c hTs.tb).mono ?_
              rintro e Y ⟨B2, rfl, h1, _, h3⟩
              have k4 := hBox.below h3
              have k5 := hb5'.below h3
              exact ⟨B2, rfl, ⟨k4.c0, k4.c1⟩, ⟨k5.c0, k5.c1, k5.f0, k5.f1⟩, HPc.out.copied hTs hBox hRT hMay h1 h3⟩
            clear hTs hBox hRT hMay hb5' hh
            go_wp2_with fail
            refine Calls.mono HC.out ?_
            rintro e w4 ⟨B2, rfl, ⟨d0, d1⟩, ⟨e0, e1, e2, e3⟩, hP4⟩
            have HP4 : Hid (Pst w B mb b4 b5 (.pointer (some ⟨B2, 0, none⟩)) (fin2 w4 b5 (.slice pi ni ci) (.slice pr nr cr))) := hP4
            clear hP4
            go_wp2
            go_roundw
            case rel => exact ⟨i + 1, by go_num, by omega, by omega, HP4⟩
            case measure => simp [intOf]; omega
    · obtain ⟨t, vi, vr, hTs, hBox, hRT, hMay⟩ := HP.out.st
      obtain ⟨pi, ni, ci, hvi⟩ := hBox.si
      obtain ⟨pr, nr, cr, hvr⟩ := hBox.sr
      subst hvi hvr
      have HT1 : Hid (Calls Try.prog 18 #[.pointer (some ⟨B, 0, none⟩), .agg #[.slice pi ni ci, .slice pr nr cr]] wr fun e w' => e = .returned (.bool true) ∧ Below wr.heap.size wr w') := told_c hTs.tb hRT hMay
      have q0 := hBox.c0
      have q1 := hBox.c1
      have HOld : Hid (Below w.heap.size w wr) := HP.out.old
      have HCp : Hid (Cp mb b5 u6 wr) := HP.out.cp
      clear hTs hBox hRT hMay
      by_cases hA : i < n0
      · have h1 : (i : Int) < (n0 : Int) := by omega
        have h2 : ¬ (i : Int) < 300 := by omega
        clear hlt
        rcases HCp.out with ⟨rfl, ui, ur, hbx⟩ | ⟨B2, mb2, t2, ui, ur, rfl, hc1', hc2', hc3', hc4', hc5'⟩
        · clear hbx
          go_wp2_with fail
          refine Calls.mono HT1.out ?_
          rintro e w2 ⟨rfl, hb2⟩
          have HB2 : Hid (Below w.heap.size w w2) := HOld.out.trans (hb2.mono HOld.out.size)
          clear hb2 q0 q1
          go_wp2_with fail
          refine (HA.out _).mono ?_
          rintro e w3 ⟨rfl, hb3⟩
          have HB3 : Hid _ := hb3
          clear hb3
          go_wp2
          go_ret
          exact ⟨rfl, HB2.out.trans (HB3.out.mono HB2.out.size)⟩
        · obtain ⟨pi2, ni2, ci2, hvi⟩ := hc3'.si
          obtain ⟨pr2, nr2, cr2, hvr⟩ := hc3'.sr
          subst hvi hvr
          have HT2 : Hid (∀ X, Below wr.heap.size wr X → Calls Try.prog 18 #[.pointer (some ⟨B2, 0, none⟩), .agg #[.slice pi2 ni2 ci2, .slice pr2 nr2 cr2]] X fun e w' => e = .returned (.bool true) ∧ Below X.heap.size X w') := fun X hX => told_c (hc1'.below hX) (hc4'.below hX) hc5'
          have HBx : Hid (∀ X, Below wr.heap.size wr X → X.cell? ⟨b5, 0, none⟩ = some (.slice pi2 ni2 ci2) ∧ X.cell? ⟨b5, 1, none⟩ = some (.slice pr2 nr2 cr2)) := fun X hX => ⟨(hc3'.below hX).c0, (hc3'.below hX).c1⟩
          clear hc1' hc2' hc3' hc4' hc5'
          go_wp2_with fail
          refine Calls.mono HT1.out ?_
          rintro e w2 ⟨rfl, hb2⟩
          obtain ⟨x0, x1⟩ := HBx.out w2 hb2
          have HT3 : Hid _ := HT2.out w2 hb2
          have HB2 : Hid (Below w.heap.size w w2) := HOld.out.trans (hb2.mono HOld.out.size)
          clear hb2 q0 q1
          go_wp2_with fail
          refine Calls.mono HT3.out ?_
          rintro e w4 ⟨rfl, hb4'⟩
          have HB4 : Hid (Below w.heap.size w w4) := HB2.out.trans (hb4'.mono HB2.out.size)
          clear hb4' x0 x1
          go_wp2_with fail
          refine (HA.out _).mono ?_
          rintro e w3 ⟨rfl, hb3⟩
          have HB3 : Hid _ := hb3
          clear hb3
          go_wp2
          go_ret
          exact ⟨rfl, HB4.out.trans (HB3.out.mono HB4.out.size)⟩
      · have h1 : ¬ (i : Int) < (n0 : Int) := by omega
        clear hlt
        rcases HCp.out with ⟨rfl, ui, ur, hbx⟩ | ⟨B2, mb2, t2, ui, ur, rfl, hc1', hc2', hc3', hc4', hc5'⟩
        · clear hbx
          go_wp2_with fail
          refine Calls.mono HT1.out ?_
          rintro e w2 ⟨rfl, hb2⟩
          have HB2 : Hid (Below w.heap.size w w2) := HOld.out.trans (hb2.mono HOld.out.size)
          clear hb2 q0 q1
          go_wp2_with fail
          refine (HA.out _).mono ?_
          rintro e w3 ⟨rfl, hb3⟩
          have HB3 : Hid _ := hb3
          clear hb3
          go_wp2
          go_ret
          exact ⟨rfl, HB2.out.trans (HB3.out.mono HB2.out.size)⟩
        · obtain ⟨pi2, ni2, ci2, hvi⟩ := hc3'.si
          obtain ⟨pr2, nr2, cr2, hvr⟩ := hc3'.sr
          subst hvi hvr
          have HT2 : Hid (∀ X, Below wr.heap.size wr X → Calls Try.prog 18 #[.pointer (some ⟨B2, 0, none⟩), .agg #[.slice pi2 ni2 ci2, .slice pr2 nr2 cr2]] X fun e w' => e = .returned (.bool true) ∧ Below X.heap.size X w') := fun X hX => told_c (hc1'.below hX) (hc4'.below hX) hc5'
          have HBx : Hid (∀ X, Below wr.heap.size wr X → X.cell? ⟨b5, 0, none⟩ = some (.slice pi2 ni2 ci2) ∧ X.cell? ⟨b5, 1, none⟩ = some (.slice pr2 nr2 cr2)) := fun X hX => ⟨(hc3'.below hX).c0, (hc3'.below hX).c1⟩
          clear hc1' hc2' hc3' hc4' hc5'
          go_wp2_with fail
          refine Calls.mono HT1.out ?_
          rintro e w2 ⟨rfl, hb2⟩
          obtain ⟨x0, x1⟩ := HBx.out w2 hb2
          have HT3 : Hid _ := HT2.out w2 hb2
          have HB2 : Hid (Below w.heap.size w w2) := HOld.out.trans (hb2.mono HOld.out.size)
          clear hb2 q0 q1
          go_wp2_with fail
          refine Calls.mono HT3.out ?_
          rintro e w4 ⟨rfl, hb4'⟩
          have HB4 : Hid (Below w.heap.size w w4) := HB2.out.trans (hb4'.mono HB2.out.size)
          clear hb4' x0 x1
          go_wp2_with fail
          refine (HA.out _).mono ?_
          rintro e w3 ⟨rfl, hb3⟩
          have HB3 : Hid _ := hb3
          clear hb3
          go_wp2
          go_ret
          exact ⟨rfl, HB4.out.trans (HB3.out.mono HB4.out.size)⟩

theorem laidOut : laidOutB Try.prog = true := by kernel_rfl

theorem own : ownKnob Try.prog.godebug = none := by kernel_rfl

set_option maxRecDepth 100000 in
theorem lifted (os : Os) (started : os.Started) (H : Type) (enc : TypeId × Value → H) :
    ReturnsInHanded {} Try.checked os 6 .any (Rows.sessionPlaysSpec.pre6 enc Try.prog Try.f6 Rows.sessionPlaysRow.domain false) (Rows.sessionPlaysSpec.post enc Try.prog Try.f6 false true false false) := by
  refine returnsInHanded_of_change_sized (C := Try.checked) own started (by kernel_rfl) Try.func6
    (ChangeSpec.witness6 (enc := enc) (C := Try.checked) false ⟨#[], #[.slice none 0 0], []⟩ 8 (by kernel_rfl) (by kernel_rfl) (by kernel_rfl) (by kernel_rfl)) ?_
  intro W base args ds gs before hval0 hW _ hsz0 _
  have hsz : (DataW.weightsEach Try.prog (Try.f6.params.toList ++ Rows.sessionPlaysSpec.plain.varTypes Try.prog) (ds ++ gs)).all (· ≤ reachBytes) = true := hsz0
  have hval : ∀ (j : Nat) t v, Try.f6.params[j]? = some t → args[j]? = some v → Value.okWide Try.prog W .any base t v := hval0
  have hW' := hW
  obtain ⟨p, q, hA0, hV, rfl, hfz, hnd⟩ := hW
  have hA : DataW.TrodAll enc Try.prog W 0 (fun _ => true) true Try.f6.params.toList args.toList ds p := hA0
  rw [Try.params6] at hA hval hsz
  obtain ⟨v0, vs0, d0, ds0, p0, q0, hargs, rfl, rfl, h0, r0⟩ := trodAll_cons hA
  obtain ⟨rfl, rfl, rfl⟩ := trodAll_nil r0
  obtain rfl : args = #[v0] := by cases args; simp_all
  obtain ⟨rfl, rfl⟩ := trodVars_none hV
  have k0 := h0
  have lt0 : ∀ x ∈ p0, x.block < W.heap.size := by obtain ⟨m, hm⟩ := k0; exact DataW.trod_lt m _ _ _ hm
  obtain ⟨a0, b0⟩ := open_ops11 (hval 0 40 v0 rfl rfl) h0 (fun n hn => by simpa using List.all_eq_true.1 hsz n (DataW.weights_mem_each (j := 0) rfl rfl n hn))
  clear hA0 hval0 hsz0
  refine (walk v0 a0 W b0).mono fun e W' ⟨he, bel⟩ => ?_
  subst he
  exact ⟨_, rfl, _, _, _, [], _, [], hW', trodAll_mk1 (shut_bool Try.underlying4 _), (trodAll_cons_mk (Below.trod laidOut (by kernel_rfl) (of_decide_eq_true (by kernel_rfl)) k0 bel lt0) trodAll_mk0), rfl, bel.frame _, fun h => by cases h⟩

theorem over : Rows.sessionPlaysRow.holds Try.pinned (OpenSpec.ofChange Rows.sessionPlaysSpec) :=
  OpenClaim.holds_of_wide 6 Try.f6 rfl rfl rfl rfl rfl rfl rfl ⟨rfl, rfl, rfl, rfl, rfl⟩ rfl rfl rfl rfl rfl (by kernel_rfl) Try.func6 (by kernel_rfl)
    (of_decide_eq_true (by kernel_rfl)) (by unfold Func.isWrapper; first | (rw [if_pos (by decide +kernel)]; kernel_rfl) | (rw [if_neg (by decide +kernel)]; exact ⟨rfl, rfl⟩))
    (fun os started H enc _ => lifted os started H enc)


end Go.Proofs.Ytnfjfhjhofaodaa.sessionPlays
namespace Go.Proofs.Ytnfjfhjhofaodaa
/-- The statement. -/
theorem sessionPlays_holds : Rows.SessionPlaysSaid := sessionPlays.over
end Go.Proofs.Ytnfjfhjhofaodaa
