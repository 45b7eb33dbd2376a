/-
  The law package's own 'told'.
-/
import Derived.Test.YtnfjfhjhofaodaaSeCopy
import Derived.Deep.RegionHeld
namespace Go.Proofs.Ytnfjfhjhofaodaa
open Go.RowKit

theorem run_idNe (a b : Int) (w : World) : (binOp .neq 27 (.agg #[.int .i64 a, .int .i64 b]) (.agg #[.int .i64 a, .int .i64 b])).run Try.prog w = .ok (.bool false) w := by
  go_simp

section
variable {w : World} {B mb : Nat} {t : List Row}

set_option maxHeartbeats 3200000 in
set_option maxRecDepth 20000 in
theorem told_c (h : Tb w B mb (bare t)) {v : Value} (hq : RT w v t) (hm : MayAll (bare t)) : Calls Try.prog 18 #[.pointer (some ⟨B, 0, none⟩), v] w fun e w' => e = .returned (.bool true) ∧ Below w.heap.size w w' := by
  obtain ⟨vi, vr, hv, hri, hrr⟩ := hq.val
  subst hv
  obtain ⟨pi, ci, hvi, hci1, hci2⟩ := hri.form
  obtain ⟨pr, cr, hvr, hcr1, hcr2⟩ := hrr.form
  subst hvi hvr
  obtain ⟨u, hu⟩ : ∃ u, u = w.alloc (.cells #[.slice pi t.length ci, .slice pr t.length cr] 43) := ⟨_, rfl⟩
  obtain ⟨bq, hbq⟩ : ∃ bq, bq = w.heap.size := ⟨_, rfl⟩
  have hub : Below w.heap.size w u := by rw [hu]; exact below_alloc w _
  have hbu : bq < u.heap.size := by rw [hu, hbq]; simp
  have HU : Hid (Below w.heap.size w u) := hub
  have HBox : Hid (∀ X, Below u.heap.size u X → X.cell? ⟨bq, 0, none⟩ = some (.slice pi t.length ci) ∧ X.cell? ⟨bq, 1, none⟩ = some (.slice pr t.length cr)) := fun X hX => by
    rw [hX.cell (p := ⟨bq, 0, none⟩) hbu, hX.cell (p := ⟨bq, 1, none⟩) hbu, hu, hbq]
    exact ⟨World.cell?_alloc_mark w _ _ _ 0, World.cell?_alloc_mark w _ _ _ 1⟩
  have HTb : Hid (∀ X, Below u.heap.size u X → Tb X B mb (bare t)) := fun X hX => h.below (hub.trans (hX.mono hub.size))
  have HIds : Hid (Calls Try.prog 32 #[.pointer (some ⟨B, 0, none⟩)] u fun e w' => ∃ v, e = .returned v ∧ Rd w' v t.length ((idsOf (bare t)).flatMap idc) ∧ Below u.heap.size u w') := by
    have q := Ids_c (h.below hub)
    rw [bare_len] at q
    exact q
  have HLen : Hid (∀ X, Below u.heap.size u X → Calls Try.prog 13 #[.pointer (some ⟨B, 0, none⟩)] X fun e Y => e = .returned (.int .i64 (t.length : Int)) ∧ Y = X) := fun X hX => by
    have q := LenT_c (HTb.out X hX)
    rw [bare_len] at q
    exact q
  have HEl : Hid (∀ i, i < t.length → ∀ (W : World) (pl : Option Addr) (cl : Nat), Below u.heap.size u W → Rd W (.slice pl t.length cl) t.length ((idsOf (bare t)).flatMap idc) → ∃ (k sq er at' : Int) (pp : Option Addr) (np' cp gl ol gi oi gr orr : Nat), pl = some ⟨gl, ol, none⟩ ∧ pi = some ⟨gi, oi, none⟩ ∧ pr = some ⟨gr, orr, none⟩ ∧ (∀ X, Below W.heap.size W X → X.cell? ⟨gl, ol + i * 2, none⟩ = some (.int .i64 k) ∧ X.cell? ⟨gl, ol + i * 2 + 1, none⟩ = some (.int .i64 sq) ∧ X.cell? ⟨gi, oi + i * 2, none⟩ = some (.int .i64 k) ∧ X.cell? ⟨gi, oi + i * 2 + 1, none⟩ = some (.int .i64 sq) ∧ X.cell? ⟨gr, orr + i * 3, none⟩ = some (.int .i64 er) ∧ X.cell? ⟨gr, orr + i * 3 + 1, none⟩ = some (.int .i64 at') ∧ X.cell? ⟨gr, orr + i * 3 + 2, none⟩ = some (.slice pp np' cp))
      ∧ ∀ X, Below u.heap.size u X → Calls Try.prog 10 #[.pointer (some ⟨B, 0, none⟩), .agg #[.int .i64 k, .int .i64 sq]] X fun e Y => ∃ p cc, e = .returned (.tuple #[.agg #[.int .i64 er, .int .i64 at', .slice p np' cc], .int .i64 0]) ∧ Below X.heap.size X Y ∧ ∀ Z, Below Y.heap.size Y Z → Calls Try.prog 16 #[.agg #[.int .i64 er, .int .i64 at', .slice p np' cc], .agg #[.int .i64 er, .int .i64 at', .slice pp np' cp]] Z fun e Y' => e = .returned (.bool true) ∧ Below Z.heap.size Z Y') := fun i hi W pl cl hW hl => by
    obtain ⟨gi, oi, hpi, hci⟩ := RT.idAt hri hi
    obtain ⟨gr, orr, hpr, hcr⟩ := RT.reAt hrr hi
    have hti : t[i]? = some t[i] := List.getElem?_eq_getElem hi
    obtain ⟨pp, cp, hpp, _⟩ := (hq.posts t[i] (List.getElem_mem hi)).form
    have hil : (idsOf (bare t))[i]? = some (t[i].1, t[i].2.1.seq) := by simp [idsOf, bare, hti]
    obtain ⟨gl, ol, hpl, hcl⟩ := Rd.at (f := idc) (K := 2) (by decide) idc_len (i := i) hl (by rw [idsOf_len, bare_len]) hi
    have hcl' := hcl _ hil
    refine ⟨t[i].1, t[i].2.1.seq, t[i].2.1.re.err, t[i].2.1.re.at_, pp, t[i].2.1.re.posts.length, cp, gl, ol, gi, oi, gr, orr, hpl, hpi, hpr, fun X hX => ?_, fun X hX => ?_⟩
    · have hXw : Below w.heap.size w X := hub.trans ((hW.trans (hX.mono hW.size)).mono hub.size)
      have hlW : gl < W.heap.size := World.block_lt_of_cell? W _ (hcl' 0 _ rfl)
      rw [hX.cell (p := ⟨gl, ol + i * 2, none⟩) hlW, hX.cell (p := ⟨gl, ol + i * 2 + 1, none⟩) hlW]
      rw [← hpp]
      exact ⟨hcl' 0 _ rfl, hcl' 1 _ rfl, (hci X hXw _ hti).1, (hci X hXw _ hti).2, hcr X hXw _ hti⟩
    · have hmem : (t[i].1, t[i].2.1) ∈ bare t := List.mem_map.2 ⟨t[i], List.getElem_mem hi, rfl⟩
      have hf := find_of (bare_rise hq.rise) hm hmem
      refine (Find_c (HTb.out X hX) t[i].1 t[i].2.1.seq).mono ?_
      rintro e Y ⟨pv, rfl, h1, h2, h3⟩
      rw [hf] at h1 ⊢
      obtain ⟨p, cc, hv, _⟩ := h1.form
      subst hv
      refine ⟨p, cc, rfl, h3, fun Z hZ => ?_⟩
      have hYw : Below w.heap.size w Y := hub.trans ((hX.trans (h3.mono hX.size)).mono hub.size)
      have hZw : Below w.heap.size w Z := hYw.trans (hZ.mono hYw.size)
      have q1 : PoR Z (.slice p t[i].2.1.re.posts.length cc) t[i].2.1.re.posts := (PoR.ofRow h1).below hZ
      have q2 : PoR Z (.slice pp t[i].2.1.re.posts.length cp) t[i].2.1.re.posts := by rw [← hpp]; exact (hq.posts t[i] (List.getElem_mem hi)).below hZw
      exact Same_eq _ _ q1 q2
  have hne := run_idNe
  have hlm : t.length ≤ 9223372036854775807 := by unfold maxLen at hci2; omega
  generalize t.length = n at *
  clear h hq hri hrr hci1 hcr1 hci2 hcr2 hub hbu hm
  go_enter Try.func18, Try.ntmps18
  go_wp2_with fail
  rw [← hu, ← hbq]
  clear hu hbq
  refine Calls.mono HIds.out ?_
  rintro e w2 ⟨lv, rfl, hrd, hb2⟩
  have HRd : Hid (Rd w2 lv n ((idsOf (bare t)).flatMap idc)) := hrd
  obtain ⟨pl, cl, hvl, hcl1, hcl2⟩ := hrd.form
  subst hvl
  have HB2 : Hid (Below u.heap.size u w2) := hb2
  have HUp : Hid (∀ X, Below w2.heap.size w2 X → Below u.heap.size u X) := fun X hX => HB2.out.trans (hX.mono HB2.out.size)
  have HS2 : Hid (∀ X, Below w2.heap.size w2 X → X.cell? ⟨bq, 0, none⟩ = some (.slice pi n ci)) := fun X hX => (HBox.out X (HUp.out X hX)).1
  have HLen2 : Hid (∀ X, Below w2.heap.size w2 X → Calls Try.prog 13 #[.pointer (some ⟨B, 0, none⟩)] X fun e Y => e = .returned (.int .i64 (n : Int)) ∧ Below w2.heap.size w2 Y) := fun X hX => by
    refine (HLen.out X (HUp.out X hX)).mono ?_
    rintro e Y ⟨rfl, rfl⟩
    exact ⟨rfl, hX⟩
  have HEl2 : Hid _ := fun i hi => HEl.out i hi w2 pl cl HB2.out HRd.out
  have hdz : Below w2.heap.size w2 w2.drew := (Below.refl _ _).drew
  clear hrd hb2 hcl1 hcl2 HEl
  go_wp2
  go_region_held (fun X => X.cell? ⟨bq, 0, none⟩ = some (.slice pi n ci))
    (exact HS2.out _ (by assumption))
    (first | (go_at_call 13; refine (HLen2.out _ ?_).mono ?_; assumption; rintro e w3 ⟨rfl, hb3⟩))
  have HB3 : Hid (Below w2.heap.size w2 w3) := hb3
  clear hb3 hdz
  go_wp2
  go_loopw [6] (fun iv wr => ∃ i : Nat, iv = .int .i64 (i : Int) ∧ i ≤ n ∧ Hid (Below w2.heap.size w2 wr)) (fun iv _ => n - (intOf iv).toNat)
  case atStart => exact ⟨0, rfl, by omega, HB3⟩
  case round =>
    clear HB3
    obtain ⟨i, rfl, hin, HW⟩ := hrel
    by_cases hlt : i < n
    · obtain ⟨k, sq, er, at', pp, np', cp, gl, ol, gi, oi, gr, orr, hpl, hpi, hpr, hcs, hfi⟩ := HEl2.out i hlt
      subst hpl hpi hpr
      have HCs : Hid (∀ X, Below w2.heap.size w2 X → X.cell? ⟨gl, ol + i * 2, none⟩ = some (.int .i64 k) ∧ X.cell? ⟨gl, ol + i * 2 + 1, none⟩ = some (.int .i64 sq) ∧ X.cell? ⟨gi, oi + i * 2, none⟩ = some (.int .i64 k) ∧ X.cell? ⟨gi, oi + i * 2 + 1, none⟩ = some (.int .i64 sq) ∧ X.cell? ⟨gr, orr + i * 3, none⟩ = some (.int .i64 er) ∧ X.cell? ⟨gr, orr + i * 3 + 1, none⟩ = some (.int .i64 at') ∧ X.cell? ⟨gr, orr + i * 3 + 2, none⟩ = some (.slice pp np' cp)) := hcs
      obtain ⟨k0, k1, k2, k3, k4, k5, k6⟩ := hcs _ HW.out
      have HF : Hid _ := hfi wr (HUp.out _ HW.out)
      have hk0 : (0 : Int) ≤ (i : Int) := by omega
      have hk1 : (i : Int) < (n : Int) := by omega
      clear hcs hfi
      go_wp2_with fail
      refine Calls.mono HF.out ?_
      rintro e w4 ⟨p, cc, rfl, hb4, hsm⟩
      obtain ⟨w5, hw5⟩ : ∃ w5, w5 = w4.alloc (.cells #[.int .i64 er, .int .i64 at', .slice p np' cc] 31) := ⟨_, rfl⟩
      obtain ⟨b7, hb7⟩ : ∃ b7, b7 = w4.heap.size := ⟨_, rfl⟩
      have h45 : Below w4.heap.size w4 w5 := by rw [hw5]; exact below_alloc _ _
      have h7 : b7 < w5.heap.size := by rw [hw5, hb7]; simp
      have H25 : Hid (Below w2.heap.size w2 w5) := by
        have q := HW.out.trans (hb4.mono HW.out.size)
        exact q.trans (h45.mono q.size)
      have HS5 : Hid (∀ X, Below w5.heap.size w5 X → (X.cell? ⟨b7, 0, none⟩ = some (.int .i64 er) ∧ X.cell? ⟨b7, 1, none⟩ = some (.int .i64 at') ∧ X.cell? ⟨b7, 2, none⟩ = some (.slice p np' cc)) ∧ (X.cell? ⟨bq, 0, none⟩ = some (.slice (some ⟨gi, oi, none⟩) n ci) ∧ X.cell? ⟨bq, 1, none⟩ = some (.slice (some ⟨gr, orr, none⟩) n cr)) ∧ X.cell? ⟨gl, ol + i * 2, none⟩ = some (.int .i64 k) ∧ X.cell? ⟨gl, ol + i * 2 + 1, none⟩ = some (.int .i64 sq) ∧ X.cell? ⟨gi, oi + i * 2, none⟩ = some (.int .i64 k) ∧ X.cell? ⟨gi, oi + i * 2 + 1, none⟩ = some (.int .i64 sq) ∧ X.cell? ⟨gr, orr + i * 3, none⟩ = some (.int .i64 er) ∧ X.cell? ⟨gr, orr + i * 3 + 1, none⟩ = some (.int .i64 at') ∧ X.cell? ⟨gr, orr + i * 3 + 2, none⟩ = some (.slice pp np' cp)) := fun X hX => by
        have hX2 := H25.out.trans (hX.mono H25.out.size)
        refine ⟨?_, HBox.out X (HUp.out X hX2), HCs.out X hX2⟩
        rw [hX.cell (p := ⟨b7, 0, none⟩) h7, hX.cell (p := ⟨b7, 1, none⟩) h7, hX.cell (p := ⟨b7, 2, none⟩) h7, hw5, hb7]
        exact ⟨World.cell?_alloc_mark w4 _ _ _ 0, World.cell?_alloc_mark w4 _ _ _ 1, World.cell?_alloc_mark w4 _ _ _ 2⟩
      have HSm : Hid (∀ X, Below w5.heap.size w5 X → Calls Try.prog 16 #[.agg #[.int .i64 er, .int .i64 at', .slice p np' cc], .agg #[.int .i64 er, .int .i64 at', .slice pp np' cp]] X fun e Y => e = .returned (.bool true) ∧ Below w5.heap.size w5 Y) := fun X hX => by
        refine (hsm X (h45.trans (hX.mono h45.size))).mono ?_
        rintro e Y ⟨rfl, h5⟩
        exact ⟨rfl, hX.trans (h5.mono hX.size)⟩
      have hdz : Below w5.heap.size w5 w5.drew := (Below.refl _ _).drew
      clear k0 k1 k2 k3 k4 k5 k6 hsm hb4 h45 h7 HF
      go_wp2
      rw [← hw5, ← hb7]
      clear hw5 hb7
      go_region_held (fun X => (X.cell? ⟨b7, 0, none⟩ = some (.int .i64 er) ∧ X.cell? ⟨b7, 1, none⟩ = some (.int .i64 at') ∧ X.cell? ⟨b7, 2, none⟩ = some (.slice p np' cc)) ∧ (X.cell? ⟨bq, 0, none⟩ = some (.slice (some ⟨gi, oi, none⟩) n ci) ∧ X.cell? ⟨bq, 1, none⟩ = some (.slice (some ⟨gr, orr, none⟩) n cr)) ∧ X.cell? ⟨gl, ol + i * 2, none⟩ = some (.int .i64 k) ∧ X.cell? ⟨gl, ol + i * 2 + 1, none⟩ = some (.int .i64 sq) ∧ X.cell? ⟨gi, oi + i * 2, none⟩ = some (.int .i64 k) ∧ X.cell? ⟨gi, oi + i * 2 + 1, none⟩ = some (.int .i64 sq) ∧ X.cell? ⟨gr, orr + i * 3, none⟩ = some (.int .i64 er) ∧ X.cell? ⟨gr, orr + i * 3 + 1, none⟩ = some (.int .i64 at') ∧ X.cell? ⟨gr, orr + i * 3 + 2, none⟩ = some (.slice pp np' cp))
        (exact HS5.out _ (by assumption))
        (first | (go_at_call 16; refine (HSm.out _ ?_).mono ?_; assumption; rintro e w6 ⟨rfl, hb6⟩))
      have HN : Hid (Below w2.heap.size w2 w6) := H25.out.trans (hb6.mono H25.out.size)
      clear hb6 hdz
      go_wp2
      go_roundw
      case rel => exact ⟨i + 1, by go_num, by omega, HN⟩
      case measure => simp [intOf]; omega
    · obtain rfl : i = n := by omega
      have HE : Hid (Below w.heap.size w wr) := HU.out.trans ((HUp.out _ HW.out).mono HU.out.size)
      go_wp2
      go_ret
      exact ⟨rfl, HE.out⟩
end
end Go.Proofs.Ytnfjfhjhofaodaa
