/-
  For every limit, every script and whatever survives: WalCrash answers true: behind a crash a log opens with the first records of all groups together, all that were sure among them, and goes on; the arguments read afterwards as before. No condition.
-/
import Derived.Test.YtpfnkjfbhcffiaaWlCrA
import Derived.Test.YtpfnkjfbhcffiaaDkMask
import Derived.ProofKit
import Derived.OpenShut
import Derived.ShutString
import Derived.SizedLaws
namespace Go.Proofs.Ytpfnkjfbhcffiaa.walCrash
open Go.ChangeShapes Go.WideShapes Go.ChangeAt Go.RowKit
open Go.ChangeMaps (open_string shut_string)

theorem cut_hi (q : Option Addr) (m c n : Nat) (hn : n ≤ c) (W : World) : (Instr.slice 54 (.slice q m c) none (some (.int .i64 (n : Int))) none).run Try.prog W = .ok (.slice q n c) W := by
  cases q with
  | none => simp [Instr.slice, run_underlying Try.underlying54, Instr.sliceBounds, Instr.sliceBound, asIntOf, hn]
  | some a =>
    have e : a.add 0 = a := by simp [Addr.add]
    simp [Instr.slice, run_underlying Try.underlying54, Instr.sliceBounds, Instr.sliceBound, asIntOf, hn, e]

theorem cw_new {w w1 w2 : World} {p : Pl} {s : St} {own : Nat → Prop} {v : Value} {g : Nat} (hf : Fresh w w1 p s own) (ha : AllV w2 v g (fun _ => W.new) (fun _ => .slice none 0 0)) (hg : w1.heap.size ≤ g) (hb : Below w1.heap.size w1 w2) : ∃ s segs own S E, Cw w w2 p v g s segs own S E 0 (.slice none 0 0) [] 0 := by
  have hl := Lo.fresh hf
  refine ⟨s, [], own, _, _, ⟨⟨⟨(hl.below hb).wide (by omega), ha, fun e => ?_, fun i _ k hk => by simp [readBlk] at hk, Nat.le_trans hf.old.size hg⟩, fun i _ => by rw [hf.gs], by rw [hf.n]; exact Nat.le_refl _, by decide⟩, RowV.nil _ _ _ _, fun q hq => by simp [rowBlk] at hq, Nat.le_refl _, ⟨0, [], Nat.le_refl _, Nat.le_refl _, rfl, rfl, ⟨Nat.le_refl _, fun cs l e => by simp at e⟩⟩, trivial⟩⟩
  have := hf.lg.here g e
  omega

theorem ints_of {w : World} {v : Value} {l : List Int} (h : Elems w 1 (fun x : Int => [.int .i64 x]) IntIn v l) : ∃ gk, Ints w gk v l ∧ (l ≠ [] → gk < w.heap.size) := by
  obtain ⟨ao, c, h1, h2, h3, h4, h5⟩ := h
  have hm : c ≤ 9223372036854775807 := by unfold maxLen at h3; omega
  rcases h5 with e | ⟨gk, o, h6, h7, h8⟩
  · exact ⟨0, ⟨ao, c, h1, h2, hm, fun x hx => (h4 x hx).2, .inl e⟩, fun e2 => absurd e e2⟩
  · refine ⟨gk, ⟨ao, c, h1, h2, hm, fun x hx => (h4 x hx).2, .inr ⟨o, h6, fun j hj => ?_⟩⟩, fun _ => h7⟩
    have := h8 j l[j] (List.getElem?_eq_getElem hj) 0 _ rfl
    rw [Nat.mul_one, Nat.add_zero] at this
    exact this

set_option maxHeartbeats 8000000 in
set_option maxRecDepth 20000 in
theorem walk (a0 : Int) (v1 : Value) (a1 : List Op5) (v2 : Value) (a2 : List Int) (w : World) (_b0 : -9223372036854775808 ≤ a0 ∧ a0 ≤ 9223372036854775807) (b1 : Scr w v1 a1) (b2 : Elems w 1 (fun x : Int => [.int .i64 x]) IntIn v2 a2) :
    Calls Try.prog 4 #[.int .i64 a0, v1, v2] w fun e w' => e = .returned (.bool true) ∧ Below w.heap.size w w' := by
  have HA : Hid (∀ u : World, Calls Try.prog 6 #[] u fun e w' => e = .returned (.bool true) ∧ Below u.heap.size u w') := awake_c
  have HF : Hid _ := fine_c b1
  have HS : Hid (Scr w v1 a1) := b1
  have HI : Hid _ := ints_of b2
  obtain ⟨ao, c, hv1, hc1, hc2, hc3⟩ := b1
  obtain ⟨n, hn⟩ : ∃ n, n = a1.length := ⟨_, rfl⟩
  have HN : Hid (n = a1.length) := hn
  rw [← hn] at hv1 hc1
  subst hv1
  clear hn hc1 hc2 hc3
  obtain ⟨ak, ck, hv2, _⟩ := b2
  subst hv2
  obtain ⟨nk, hnk⟩ : ∃ nk, nk = a2.length := ⟨_, rfl⟩
  rw [← hnk] at HI ⊢
  clear hnk
  obtain ⟨m0, hm0⟩ : ∃ m0 : Nat, m0 = (a0 % 1024).toNat := ⟨_, rfl⟩
  have hq0 : bits .and .i64 a0 1023 = (m0 : Int) := by rw [and_1023]; omega
  obtain ⟨lim, hlim⟩ : ∃ lim, lim = 1 + m0 := ⟨_, rfl⟩
  have hw0 : IntKind.i64.wrap (1 + (m0 : Int)) = (lim : Int) := by rw [IntKind.wrap_i64]; omega
  have HBg : Hid (Calls Try.prog 9 #[.int .i64 (lim : Int)] w fun e w' => ∃ p s own, e = .returned (.tuple #[.pointer (some ⟨p.b, 0, none⟩), .pointer (some ⟨p.L, 0, none⟩), .bool true]) ∧ p.limit = lim ∧ Fresh w w' p s own) := begun_c lim (by omega) w
  have HAll : Hid _ := fun u : World => All_none u
  clear _b0 hm0 hlim
  go_enter Try.func4, Try.ntmps4
  go_wp2_with fail
  refine Calls.mono HF.out ?_
  rintro e w1 ⟨fb, rfl, hfb, hw⟩
  subst w1
  cases fb
  case false =>
    go_wp2_with fail
    refine (HA.out _).mono ?_
    rintro e w3 ⟨rfl, hb3⟩
    have HB3 : Hid _ := hb3
    clear hb3
    go_wp2
    go_ret
    exact ⟨rfl, HB3.out⟩
  have HSh : Hid (Short a1) := hfb rfl
  clear hfb HF
  go_wp2_with fail
  refine Calls.mono HBg.out ?_
  rintro e w2 ⟨p, s, own, rfl, hpl, hfr⟩
  have HFr : Hid (Fresh w w2 p s own) := hfr
  obtain ⟨L, hL⟩ : ∃ L, L = p.L := ⟨_, rfl⟩
  obtain ⟨b, hb⟩ : ∃ b, b = p.b := ⟨_, rfl⟩
  have HPL : Hid (L = p.L ∧ b = p.b ∧ p.limit = lim) := ⟨hL, hb, hpl⟩
  rw [← hL, ← hb]
  clear hfr hpl hL hb HBg hq0 hw0
  go_wp2_with fail
  refine Calls.mono (HAll.out _) ?_
  rintro e w3 ⟨v, g, rfl, hav, hge, hb3⟩
  obtain ⟨cc, hv, hcc, _⟩ := hav.form
  have HSt : Hid _ := cw_new HFr.out hav hge hb3
  subst hv
  clear hav hge hb3 HAll HFr
  go_wp2
  go_loopw [12, 13, 14] (fun dv sv x wr => ∃ (k : Nat) (q : Option Addr) (m c1 : Nat) (D : List W.Rec) (sure : Nat), dv = .slice q m c1 ∧ sv = .int .i64 (sure : Int) ∧ x = .int .i64 (k : Int) ∧ k ≤ n ∧ Hid (m = D.length) ∧ Hid (∃ s segs own S E, Cw w wr p (.slice (some ⟨g, 0, none⟩) 9 cc) g s segs own S E k (.slice q m c1) D sure)) (fun _ _ x _ => n - (intOf x).toNat)
  case atStart => exact ⟨0, none, 0, 0, [], 0, rfl, rfl, rfl, Nat.zero_le _, rfl, HSt⟩
  case round =>
    clear HSt
    obtain ⟨k, q, m, c1, D, sure, rfl, rfl, rfl, hk, HM, HSt⟩ := hrel
    have hn100 : (n : Int) ≤ 100 := by have := HSh.out.1; have := HN.out; omega
    have HLen : Hid (D.length ≤ k) := by obtain ⟨s, segs, own, S, E, h⟩ := HSt.out; exact h.len
    by_cases hlt : k < n
    · obtain ⟨x, hx⟩ : ∃ x, a1[k]? = some x := ⟨_, List.getElem?_eq_getElem (by have := HN.out; omega)⟩
      obtain ⟨gs, o, rfl, hcell⟩ : ∃ gs o, ao = some ⟨gs, o, none⟩ ∧ OpAt5 wr gs (o + k * 8) x := by
        obtain ⟨ao', c', hv, _, _, _, h5⟩ := HS.out
        rcases h5 with e | ⟨gs, o, h1, h2, h3⟩
        · rw [e] at hx; simp at hx
        · injection hv with e1 e2 e3
          refine ⟨gs, o, by rw [e1, h1], ?_⟩
          obtain ⟨s, segs, own, S, E, hcw⟩ := HSt.out
          have hc : ∀ j, wr.cell? ⟨gs, j, none⟩ = w.cell? ⟨gs, j, none⟩ := fun j => hcw.pz.pm.lo.old.cell (p := ⟨gs, j, none⟩) h2
          have h4 := h3 k x hx
          unfold OpAt5 at h4 ⊢
          rw [hc, hc, hc, hc, hc, hc, hc, hc]
          exact h4
      have HD : Hid (x.r.data.size ≤ 200) := HSh.out.2 x (List.mem_of_getElem? hx)
      obtain ⟨y0, y1, y2, y3, y4, y5, y6, y7⟩ := hcell
      obtain ⟨xk, xr, xn⟩ := x
      obtain ⟨rg, rk, ri, rt, rv, rd⟩ := xr
      dsimp only at y0 y1 y2 y3 y4 y5 y6 y7 HD
      have hk0 : (0 : Int) ≤ (k : Int) := by omega
      have hkn : (k : Int) < (n : Int) := by omega
      have HK : Hid (k < 100 ∧ k < n) := by have := HSh.out.1; have := HN.out; exact ⟨by omega, hlt⟩
      obtain ⟨u, hu⟩ : ∃ u, u = wr.alloc (.cells #[.int .i64 xk, .int .i64 rg, .int .i64 rk, .int .i64 ri, .int .i64 rt, .int .i64 rv, .string rd, .bool xn] 39) := ⟨_, rfl⟩
      have HU : Hid (∃ s segs own S E, Cw w u p (.slice (some ⟨g, 0, none⟩) 9 cc) g s segs own S E k (.slice q m c1) D sure) := by
        obtain ⟨s, segs, own, S, E, h⟩ := HSt.out
        rw [hu]
        exact ⟨s, segs, own, S, E, h.below (below_alloc _ _)⟩
      clear hx HSt HS HSh HN hlt hk HI
      by_cases k1 : xk = 1
      · subst k1
        obtain ⟨s, segs, own, S, E, hz⟩ := HU.out
        have HCw : Hid (Cw w u p (.slice (some ⟨g, 0, none⟩) 9 cc) g s segs own S E k (.slice q m c1) D sure) := hz
        have HRec : Hid _ := record_c hz.pz.pm.all hz.pz.ok 1 ⟨rg, rk, ri, rt, rv, rd⟩ xn
        obtain ⟨R, hR⟩ : ∃ R, R = recM S ⟨rg, rk, ri, rt, rv, rd⟩ xn := ⟨_, rfl⟩
        have HRD : Hid (R.data.size ≤ 200) := by rw [hR, recM_data]; exact HD.out
        rw [← hR] at HRec
        obtain ⟨qg, qk, qi, qt, qv, qd⟩ := R
        unfold recV at HRec
        dsimp only at HRec HRD
        obtain ⟨cd, hcd⟩ : ∃ cd, cd = W.chk S ⟨qg, qk, qi, qt, qv, qd⟩ := ⟨_, rfl⟩
        have HRef : Hid (∀ Y, Below u.heap.size u Y → Calls Try.prog 12 #[.slice (some ⟨g, 0, none⟩) 9 cc, .agg #[.int .i64 qg, .int .i64 qk, .int .i64 qi, .int .i64 qt, .int .i64 qv, .string qd]] Y fun e w' => e = .returned (.int .i64 cd) ∧ Below Y.heap.size Y w') := by
          intro Y hY
          rw [hcd]
          exact refused_c (hz.pz.pm.all.below hY) hz.pz.ok ⟨qg, qk, qi, qt, qv, qd⟩
        have HCD : Hid (cd = W.chk S ⟨qg, qk, qi, qt, qv, qd⟩) := hcd
        clear hz hR hcd HU HD
        go_wp2_with fail
        rw [← hu]
        clear hu y0 y1 y2 y3 y4 y5 y6 y7
        refine Calls.mono HRec.out ?_
        rintro e w4 ⟨rfl, hb4⟩
        obtain ⟨u2, hu2⟩ : ∃ u2, u2 = w4.alloc (.cells #[.int .i64 qg, .int .i64 qk, .int .i64 qi, .int .i64 qt, .int .i64 qv, .string qd] 37) := ⟨_, rfl⟩
        obtain ⟨br, hbr⟩ : ∃ br, br = w4.heap.size := ⟨_, rfl⟩
        have HB2 : Hid (Below u.heap.size u u2) := by rw [hu2]; exact hb4.trans ((below_alloc _ _).mono hb4.size)
        have HBr : Hid (br < u2.heap.size ∧ u.heap.size ≤ br ∧ ∀ j, u2.cell? ⟨br, j, none⟩ = (#[.int .i64 qg, .int .i64 qk, .int .i64 qi, .int .i64 qt, .int .i64 qv, .string qd] : Array Value)[j]?) := by
          refine ⟨?_, ?_, fun j => ?_⟩
          · rw [hu2, hbr]; simp
          · rw [hbr]; exact hb4.size
          · rw [hu2, hbr]; exact World.cell?_alloc_mark w4 _ _ _ j
        have HRf2 : Hid _ := HRef.out u2 HB2.out
        clear hb4 HRec HRef
        go_wp2_with fail
        rw [← hu2, ← hbr]
        clear hu2 hbr
        refine Calls.mono HRf2.out ?_
        rintro e w5 ⟨rfl, hb5⟩
        have HB5 : Hid (Below u.heap.size u w5) := HB2.out.trans (hb5.mono HB2.out.size)
        have HC5 : Hid (br < w5.heap.size ∧ (w5.cell? ⟨br, 0, none⟩ = some (.int .i64 qg) ∧ w5.cell? ⟨br, 1, none⟩ = some (.int .i64 qk) ∧ w5.cell? ⟨br, 2, none⟩ = some (.int .i64 qi) ∧ w5.cell? ⟨br, 3, none⟩ = some (.int .i64 qt) ∧ w5.cell? ⟨br, 4, none⟩ = some (.int .i64 qv) ∧ w5.cell? ⟨br, 5, none⟩ = some (.string qd))) := by
          have hc : ∀ j, w5.cell? ⟨br, j, none⟩ = (#[.int .i64 qg, .int .i64 qk, .int .i64 qi, .int .i64 qt, .int .i64 qv, .string qd] : Array Value)[j]? := fun j => (hb5.cell (p := ⟨br, j, none⟩) HBr.out.1).trans (HBr.out.2.2 j)
          exact ⟨Nat.lt_of_lt_of_le HBr.out.1 hb5.size, hc 0, hc 1, hc 2, hc 3, hc 4, hc 5⟩
        obtain ⟨_, r0, r1, r2, r3, r4, r5⟩ := HC5.out
        clear hb5 HRf2
        by_cases hc0 : cd = 0
        · have HAp : Hid _ := (HCw.out.below HB5.out).append HK.out.1 ⟨qg, qk, qi, qt, qv, qd⟩ HRD.out (by rw [← HCD.out]; exact hc0)
          have hmay : W.may ⟨qg, qk, qi, qt, qv, qd⟩ = true := chk_may (gs := S) (by rw [← HCD.out]; exact hc0)
          obtain ⟨gi, hgi, hgi9⟩ : ∃ gi : Nat, qg = (gi : Int) ∧ gi < 9 := by
            have := may_group hmay
            dsimp only at this
            exact ⟨qg.toNat, by omega, by omega⟩
          subst hgi hc0
          rw [← HPL.out.1] at HAp
          unfold recV at HAp
          dsimp only at HAp
          have HOw : Hid (¬ own br ∧ rowBlk (.slice q m c1) ≠ some br) := ⟨fun e => by have := HCw.out.pz.pm.lo.lg.here br e; have := HBr.out.2.1; omega, fun e => by have := HCw.out.row.lt e; have := HBr.out.2.1; omega⟩
          clear hmay
          go_wp2_with fail
          refine Calls.mono HAp.out ?_
          rintro e w6 ⟨rfl, s', segs', own', hph, hkp⟩
          have HC6 : Hid (br < w6.heap.size ∧ ∀ Y, Below w6.heap.size w6 Y → Y.cell? ⟨br, 0, none⟩ = some (.int .i64 (gi : Int)) ∧ Y.cell? ⟨br, 1, none⟩ = some (.int .i64 qk) ∧ Y.cell? ⟨br, 2, none⟩ = some (.int .i64 qi) ∧ Y.cell? ⟨br, 3, none⟩ = some (.int .i64 qt) ∧ Y.cell? ⟨br, 4, none⟩ = some (.int .i64 qv) ∧ Y.cell? ⟨br, 5, none⟩ = some (.string qd)) := by
            obtain ⟨hlt5, r0, r1, r2, r3, r4, r5⟩ := HC5.out
            have hl6 : br < w6.heap.size := Nat.lt_of_lt_of_le hlt5 hkp.size
            refine ⟨hl6, ?_⟩
            intro Y hY
            have hc : ∀ j, Y.cell? ⟨br, j, none⟩ = w5.cell? ⟨br, j, none⟩ := fun j => (hY.cell (p := ⟨br, j, none⟩) hl6).trans (hkp.cell hlt5 HOw.out.1 j)
            rw [hc, hc, hc, hc, hc, hc]
            exact ⟨r0, r1, r2, r3, r4, r5⟩
          obtain ⟨pe, ce, hE, _⟩ := hph.ph.pm.all.ent gi hgi9
          obtain ⟨ne, hne⟩ : ∃ ne, ne = (S gi).ents.length := ⟨_, rfl⟩
          rw [← hne] at hE
          have HZ6 : Hid (∀ Y : World, Below w6.heap.size w6 Y → (Y.cell? ⟨g, gi * 6, none⟩ = some (.int .i64 (S gi).term) ∧ Y.cell? ⟨g, gi * 6 + 1, none⟩ = some (.int .i64 (S gi).vote) ∧ Y.cell? ⟨g, gi * 6 + 2, none⟩ = some (.int .i64 (S gi).base) ∧ Y.cell? ⟨g, gi * 6 + 3, none⟩ = some (.int .i64 (S gi).bterm) ∧ Y.cell? ⟨g, gi * 6 + 4, none⟩ = some (.string (S gi).data) ∧ Y.cell? ⟨g, gi * 6 + 5, none⟩ = some (.slice pe ne ce)) ∧ ∀ j, Y.frozen? ⟨g, j, none⟩ = false) := by
            intro Y hY
            have ha := hph.ph.pm.all.below hY
            have hc := ha.cell gi hgi9
            rw [hE] at hc
            exact ⟨hc, ha.free⟩
          have HFo : Hid _ := (hph.below (Below.refl w6.heap.size w6).drew).fold (gi := gi) rfl hgi9
          unfold savV recV at HFo
          rw [hE] at HFo
          dsimp only at HFo
          have HNg : Hid (br ≠ g) := fun e => by have h1 := HCw.out.pz.pm.all.lt; have h2 := HBr.out.2.1; omega
          have hz0 : Below w6.heap.size w6 w6.drew := (Below.refl _ _).drew
          obtain ⟨⟨z0, z1, z2, z3, z4, z5⟩, _⟩ := HZ6.out w6.drew hz0
          obtain ⟨d0, d1, d2, d3, d4, d5⟩ := HC6.out.2 w6 (Below.refl _ _)
          have hgi0 : (0 : Int) ≤ (gi : Int) := by omega
          have hgi1 : (gi : Int) < 9 := by omega
          clear hph hkp hE hne HCw HAp HB5 HB2 HBr HC5 HCD r0 r1 r2 r3 r4 r5 HRD
          go_wp2
          refine wp_region_held_drew (S := fun Y => Y.cell? ⟨br, 0, none⟩ = some (.int .i64 (gi : Int)) ∧ Y.cell? ⟨br, 1, none⟩ = some (.int .i64 qk) ∧ Y.cell? ⟨br, 2, none⟩ = some (.int .i64 qi) ∧ Y.cell? ⟨br, 3, none⟩ = some (.int .i64 qt) ∧ Y.cell? ⟨br, 4, none⟩ = some (.int .i64 qv) ∧ Y.cell? ⟨br, 5, none⟩ = some (.string qd)) (by kernel_rfl) (HC6.out.2 _ hz0) (fun hHeld => ?_)
          refine take7 (i := 0) (d := 62) (v := .slice (some ⟨g, 0, none⟩) 9 cc) rfl rfl (by kernel_rfl) (by kernel_rfl) (by kernel_rfl) (fun _ _ _ h => h) (Or.inl ⟨by rfl, ?_⟩) (by assumption) ?_
          · intro X hSw
            go_simp
          simp only [Act.put, List.setIfInBounds_toArray, List.set_cons_zero, List.set_cons_succ]
          refine take7 (i := 1) (d := 63) (v := .pointer (some ⟨br, 0, none⟩)) rfl rfl (by kernel_rfl) (by kernel_rfl) (by kernel_rfl) (fun _ _ _ h => h) (Or.inl ⟨by rfl, ?_⟩) (by assumption) ?_
          · intro X hSw
            go_simp
          simp only [Act.put, List.setIfInBounds_toArray, List.set_cons_zero, List.set_cons_succ]
          refine take7 (i := 2) (d := 64) (v := .int .i64 (gi : Int)) rfl rfl (by kernel_rfl) (by kernel_rfl) (by kernel_rfl) (fun _ _ _ h => h) (Or.inl ⟨by rfl, ?_⟩) (by assumption) ?_
          · intro X hSw
            go_simp
          simp only [Act.put, List.setIfInBounds_toArray, List.set_cons_zero, List.set_cons_succ]
          refine take7 (i := 3) (d := 65) (v := .slice (some ⟨g, 0, none⟩) 9 cc) rfl rfl (by kernel_rfl) (by kernel_rfl) (by kernel_rfl) (fun _ _ _ h => h) (Or.inl ⟨by rfl, ?_⟩) (by assumption) ?_
          · intro X hSw
            go_simp
          simp only [Act.put, List.setIfInBounds_toArray, List.set_cons_zero, List.set_cons_succ]
          refine take7 (i := 4) (d := 66) (v := .pointer (some ⟨br, 0, none⟩)) rfl rfl (by kernel_rfl) (by kernel_rfl) (by kernel_rfl) (fun _ _ _ h => h) (Or.inl ⟨by rfl, ?_⟩) (by assumption) ?_
          · intro X hSw
            go_simp
          simp only [Act.put, List.setIfInBounds_toArray, List.set_cons_zero, List.set_cons_succ]
          refine take7 (i := 5) (d := 67) (v := .int .i64 (gi : Int)) rfl rfl (by kernel_rfl) (by kernel_rfl) (by kernel_rfl) (fun _ _ _ h => h) (Or.inl ⟨by rfl, ?_⟩) (by assumption) ?_
          · intro X hSw
            go_simp
          simp only [Act.put, List.setIfInBounds_toArray, List.set_cons_zero, List.set_cons_succ]
          refine take7 (i := 6) (d := 68) (v := .pointer (some ⟨g, gi * 6, none⟩)) rfl rfl (by kernel_rfl) (by kernel_rfl) (by kernel_rfl) (fun _ _ _ h => h) (Or.inl ⟨by rfl, ?_⟩) (by assumption) ?_
          · intro X hSw
            go_simp
          simp only [Act.put, List.setIfInBounds_toArray, List.set_cons_zero, List.set_cons_succ]
          refine take7 (i := 8) (d := 70) (v := .agg #[.int .i64 (gi : Int), .int .i64 qk, .int .i64 qi, .int .i64 qt, .int .i64 qv, .string qd]) rfl rfl (by kernel_rfl) (by kernel_rfl) (by kernel_rfl) (fun _ _ _ h => h) (Or.inl ⟨by rfl, ?_⟩) (by assumption) ?_
          · intro X hSw
            go_simp
          simp only [Act.put, List.setIfInBounds_toArray, List.set_cons_zero, List.set_cons_succ]
          refine wpAnyH_ready (rs := [7]) (by kernel_rfl) (by simp) ?_
          refine AllReadyH.cons rfl (fun K hK => ?_) AllReadyH.nil
          go_simp
          refine hK.out _ _ (HC6.out.2 _ hz0) (fun hHeld2 => ?_)
          clear hK K hHeld
          refine wpAnyH_ready (rs := [9]) (by kernel_rfl) (by simp) ?_
          refine AllReadyH.cons rfl (fun K hK => ?_) AllReadyH.nil
          go_simp
          go_wp2_with fail
          refine Calls.mono HFo.out ?_
          rintro e w7 ⟨z_0, z_1, z_2, z_3, z_4, p', n', c', rfl, hb7, hz7⟩
          have hb7' : Below w6.heap.size w6 w7 := hz0.trans (hb7.mono hz0.size)
          have HZ7 : Hid _ := hz7
          go_wp2
          refine hK.out _ _ (HC6.out.2 _ hb7') (fun hHeld3 => ?_)
          clear hK K hHeld2 hz7
          refine take7 (i := 10) (d := 61) (v := .tuple #[.agg #[.int .i64 z_0, .int .i64 z_1, .int .i64 z_2, .int .i64 z_3, .string z_4, .slice p' n' c'], .bool true]) rfl rfl (by kernel_rfl) (by kernel_rfl) (by kernel_rfl) (fun _ _ _ h => h) (Or.inl ⟨by rfl, ?_⟩) (by assumption) ?_
          · intro X hSw
            go_simp
          simp only [Act.put, List.setIfInBounds_toArray, List.set_cons_zero, List.set_cons_succ]
          refine take7 (i := 11) (d := 72) (v := .agg #[.int .i64 z_0, .int .i64 z_1, .int .i64 z_2, .int .i64 z_3, .string z_4, .slice p' n' c']) rfl rfl (by kernel_rfl) (by kernel_rfl) (by kernel_rfl) (fun _ _ _ h => h) (Or.inl ⟨by rfl, ?_⟩) (by assumption) ?_
          · intro X hSw
            go_simp
          simp only [Act.put, List.setIfInBounds_toArray, List.set_cons_zero, List.set_cons_succ]
          refine take7 (i := 12) (d := 73) (v := .bool true) rfl rfl (by kernel_rfl) (by kernel_rfl) (by kernel_rfl) (fun _ _ _ h => h) (Or.inl ⟨by rfl, ?_⟩) (by assumption) ?_
          · intro X hSw
            go_simp
          simp only [Act.put, List.setIfInBounds_toArray, List.set_cons_zero, List.set_cons_succ]
          refine take7 (i := 13) (d := 74) (v := .pointer (some ⟨g, gi * 6, none⟩)) rfl rfl (by kernel_rfl) (by kernel_rfl) (by kernel_rfl) (fun _ _ _ h => h) (Or.inl ⟨by rfl, ?_⟩) (by assumption) ?_
          · intro X hSw
            go_simp
          simp only [Act.put, List.setIfInBounds_toArray, List.set_cons_zero, List.set_cons_succ]
          obtain ⟨⟨x0, x1, x2, x3, x4, x5⟩, hfz⟩ := HZ6.out w7 hb7'
          have g0 := hfz (gi * 6)
          have g1 := hfz (gi * 6 + 1)
          have g2 := hfz (gi * 6 + 2)
          have g3 := hfz (gi * 6 + 3)
          have g4 := hfz (gi * 6 + 4)
          have g5 := hfz (gi * 6 + 5)
          clear hfz z0 z1 z2 z3 z4 z5 d0 d1 d2 d3 d4 d5
          obtain ⟨w8, hw8⟩ : ∃ w8, w8 = set6 w7 g (gi * 6) (.int .i64 z_0) (.int .i64 z_1) (.int .i64 z_2) (.int .i64 z_3) (.string z_4) (.slice p' n' c') := ⟨_, rfl⟩
          have HS8 : Hid (w8.cell? ⟨br, 0, none⟩ = some (.int .i64 (gi : Int)) ∧ w8.cell? ⟨br, 1, none⟩ = some (.int .i64 qk) ∧ w8.cell? ⟨br, 2, none⟩ = some (.int .i64 qi) ∧ w8.cell? ⟨br, 3, none⟩ = some (.int .i64 qt) ∧ w8.cell? ⟨br, 4, none⟩ = some (.int .i64 qv) ∧ w8.cell? ⟨br, 5, none⟩ = some (.string qd)) := by
            have hc : ∀ j, w8.cell? ⟨br, j, none⟩ = w7.cell? ⟨br, j, none⟩ := fun j => by
              rw [hw8]
              exact World.cell?_of_block (a := ⟨br, j, none⟩) (set6_heap HNg.out)
            rw [hc, hc, hc, hc, hc, hc]
            exact HC6.out.2 w7 hb7'
          have hl8 : br < w8.heap.size := by rw [hw8, set6_size]; have := HC6.out.1; have := hb7'.size; omega
          have H8 : Hid (∃ s segs own S E, Cg w w8 p (.slice (some ⟨g, 0, none⟩) 9 cc) g s segs own S E k (.slice q m c1) D sure ⟨(gi : Int), qk, qi, qt, qv, qd⟩) := by
            rw [hw8]
            exact ⟨s', segs', own', _, _, HZ7.out⟩
          unfold set6 at hw8
          refine wpAnyH_ready (rs := [14]) (by kernel_rfl) (by simp) ?_
          refine AllReadyH.cons rfl (fun K hK => ?_) AllReadyH.nil
          go_simp
          rw [← hw8]
          refine hK.out _ _ HS8.out (fun hHeld4 => ?_)
          clear hK K hHeld3 hw8 x0 x1 x2 x3 x4 x5 g0 g1 g2 g3 g4 g5 HZ7 HZ6 HFo hb7 hb7' hz0
          refine wpAnyH_done (by kernel_rfl) ?_ _
          clear hHeld4 HC6
          obtain ⟨d0, d1, d2, d3, d4, d5⟩ := HS8.out
          have HMa : Hid (RowV (w8.alloc (.cells #[.int .i64 (gi : Int), .int .i64 qk, .int .i64 qi, .int .i64 qt, .int .i64 qv, .string qd] 37)) 37 6 (.slice q m c1) m (recCells D)) := by
            obtain ⟨s, segs, own, S, E, h⟩ := H8.out
            have hr := h.row
            rw [← HM.out] at hr
            exact hr.carry (fun z hz => (below_alloc w8 _).block z (hr.lt hz))
          have HSrc : Hid (Src Try.prog 6 54 (.slice (some ⟨w8.heap.size, 0, none⟩) 1 1) 1 [.int .i64 (gi : Int), .int .i64 qk, .int .i64 qi, .int .i64 qt, .int .i64 qv, .string qd] (w8.alloc (.cells #[.int .i64 (gi : Int), .int .i64 qk, .int .i64 qi, .int .i64 qt, .int .i64 qv, .string qd] 37))) := src_new w8 6 54 37 37 Try.underlying54 [.int .i64 (gi : Int), .int .i64 qk, .int .i64 qi, .int .i64 qt, .int .i64 qv, .string qd] rfl (by simp [Value.oneCell'])
          have hm1 : Hid ((m + 1) * 56 ≤ 140737488355328) := by have := HM.out; have := HLen.out; have := HK.out; show _ ≤ _; omega
          have hm2 : Hid (m + 1 ≤ maxLen) := by have := HM.out; have := HLen.out; have := HK.out; unfold maxLen; show _ ≤ _; omega
          clear HS8
          go_wp2_with (at_builtin; refine wpList_append_row rfl (.tmp 75) (.tmp 77) 54 54 37 rfl Try.underlying54 _ 6 56 infoRec rfl (.slice q m c1) m (recCells D) rfl HMa.out _ 1 _ rfl HSrc.out hm1.out hm2.out ?qnext)
          case qnext =>
            intro v9 w9 ho hg hl
            obtain ⟨q9, c9, hv9, _⟩ := ho.form
            subst hv9
            have H9 : Hid (∃ s segs own S E, Cw w w9 p (.slice (some ⟨g, 0, none⟩) 9 cc) g s segs own S E (k + 1) (.slice q9 (m + 1) c9) (D ++ [⟨(gi : Int), qk, qi, qt, qv, qd⟩]) sure) := by
              obtain ⟨s, segs, own, S, E, h⟩ := H8.out
              refine ⟨s, segs, own, S, E, (h.below (below_alloc w8 (.cells #[.int .i64 (gi : Int), .int .i64 qk, .int .i64 qi, .int .i64 qt, .int .i64 qv, .string qd] 37))).push ?_ hg (fun z hz => by have := hl z hz; simpa using this)⟩
              rw [← HM.out]
              exact ho
            have HM9 : Hid (m + 1 = (D ++ [⟨(gi : Int), qk, qi, qt, qv, qd⟩] : List W.Rec).length) := by rw [List.length_append, ← HM.out]; rfl
            clear ho hg hl HMa HSrc hm1 hm2 H8 d0 d1 d2 d3 d4 d5
            go_wp2
            refine And.intro ?_ ?_
            · exact ⟨k + 1, q9, (m + 1), c9, (D ++ [⟨(gi : Int), qk, qi, qt, qv, qd⟩]), sure, rfl, rfl, by go_num, by have := HK.out; omega, HM9, H9⟩
            · simp [intOf]; omega
        · have f6 : (cd != 0) = true := by simpa using hc0
          have f7 : (cd == 0) = false := by simpa using hc0
          have H6 : Hid (∃ s segs own S E, Cw w w5 p (.slice (some ⟨g, 0, none⟩) 9 cc) g s segs own S E (k + 1) (.slice q m c1) D sure) := ⟨s, segs, own, S, E, (HCw.out.below HB5.out).next⟩
          clear hc0 HCw HB5 HB2 HBr HC5 HCD r0 r1 r2 r3 r4 r5 HRD
          go_wp2
          refine And.intro ?_ ?_
          · exact ⟨k + 1, q, m, c1, D, sure, rfl, rfl, by go_num, by have := HK.out; omega, HM, H6⟩
          · simp [intOf]; omega
      have f1 : (xk == 1) = false := by simpa using k1
      by_cases k2 : xk = 2
      · subst k2
        have HSy : Hid (Calls Try.prog 15 #[.pointer (some ⟨L, 0, none⟩)] u fun e w' => e = .returned (.int .i64 0) ∧ (∃ s segs own S E, Cw w w' p (.slice (some ⟨g, 0, none⟩) 9 cc) g s segs own S E (k + 1) (.slice q m c1) D m)) := by
          obtain ⟨s, segs, own, S, E, h⟩ := HU.out
          rw [HPL.out.1]
          refine (h.sync HK.out.1).mono ?_
          rintro e w' ⟨rfl, s', own', h'⟩
          rw [← HM.out] at h'
          exact ⟨rfl, s', segs, own', S, E, h'⟩
        clear HU f1 k1
        go_wp2_with fail
        rw [← hu]
        clear hu
        refine Calls.mono HSy.out ?_
        rintro e w4 ⟨rfl, h4⟩
        have H4 : Hid (∃ s segs own S E, Cw w w4 p (.slice (some ⟨g, 0, none⟩) 9 cc) g s segs own S E (k + 1) (.slice q m c1) D m) := h4
        clear h4 HSy
        go_wp2
        refine And.intro ?_ ?_
        · exact ⟨k + 1, q, m, c1, D, m, rfl, rfl, by go_num, by have := HK.out; omega, HM, H4⟩
        · simp [intOf]; omega
      have f2 : (xk == 2) = false := by simpa using k2
      by_cases k3 : xk = 3
      · subst k3
        have HSy : Hid (Calls Try.prog 17 #[.pointer (some ⟨L, 0, none⟩)] u fun e w' => e = .returned (.int .i64 0) ∧ (∃ s segs own S E, Cw w w' p (.slice (some ⟨g, 0, none⟩) 9 cc) g s segs own S E (k + 1) (.slice q m c1) D m)) := by
          obtain ⟨s, segs, own, S, E, h⟩ := HU.out
          rw [HPL.out.1]
          refine (h.clean HK.out.1).mono ?_
          rintro e w' ⟨rfl, s', segs', own', h'⟩
          rw [← HM.out] at h'
          exact ⟨rfl, s', segs', own', S, E, h'⟩
        clear HU f1 f2 k1 k2
        go_wp2_with fail
        rw [← hu]
        clear hu
        refine Calls.mono HSy.out ?_
        rintro e w4 ⟨rfl, h4⟩
        have H4 : Hid (∃ s segs own S E, Cw w w4 p (.slice (some ⟨g, 0, none⟩) 9 cc) g s segs own S E (k + 1) (.slice q m c1) D m) := h4
        clear h4 HSy
        go_wp2
        refine And.intro ?_ ?_
        · exact ⟨k + 1, q, m, c1, D, m, rfl, rfl, by go_num, by have := HK.out; omega, HM, H4⟩
        · simp [intOf]; omega
      have f3 : (xk == 3) = false := by simpa using k3
      have H4 : Hid (∃ s segs own S E, Cw w u p (.slice (some ⟨g, 0, none⟩) 9 cc) g s segs own S E (k + 1) (.slice q m c1) D sure) := by
        obtain ⟨s, segs, own, S, E, h⟩ := HU.out
        exact ⟨s, segs, own, S, E, h.next⟩
      clear HU k1 k2 k3
      rw [hu] at H4
      clear hu
      go_wp2
      refine And.intro ?_ ?_
      · exact ⟨k + 1, q, m, c1, D, sure, rfl, rfl, by go_num, by have := HK.out; omega, HM, H4⟩
      · simp [intOf]; omega
    · obtain rfl : k = n := by omega
      obtain ⟨gk, hIk, hgk⟩ := HI.out
      have HCr : Hid (∀ turn : Int, Calls Try.prog 20 #[.pointer (some ⟨b, 0, none⟩), .slice ak nk ck, .int .i64 turn] wr fun e w' => e = .returned (.int .i64 0) ∧ Cx w w' b lim (.slice q m c1) D sure) := by
        intro turn
        obtain ⟨s, segs, own, S, E, h⟩ := HSt.out
        have := h.crash (by omega) (.slice ak nk ck) a2 gk hIk hgk turn
        rw [← HPL.out.2.1, HPL.out.2.2] at this
        exact this
      have hjj : ¬ (k : Int) < (k : Int) := by omega
      clear hIk hgk HI HSt HS HSh
      go_wp2_with fail
      refine Calls.mono (HCr.out _) ?_
      rintro e w4 ⟨rfl, h4⟩
      have HRe : Hid _ := h4.reopen
      clear h4 HCr
      go_wp2_with fail
      refine Calls.mono HRe.out ?_
      rintro e w5 ⟨L2, N, rfl, hs1, hs2, h5⟩
      have HX5 : Hid (Lx w w5 L2 (.slice q m c1) D N) := h5
      have HSu : Hid (sure ≤ N) := hs1
      have HNm : Hid (N ≤ m) := by have := HM.out; show N ≤ m; omega
      have HMc : Hid (m ≤ c1 ∧ c1 ≤ maxLen) := by
        obtain ⟨p', s', own', _, _, _, _, _, _, _, _, hr, _⟩ := h5
        obtain ⟨q', c', hv, e1, e2⟩ := hr.form
        injection hv with _ e3 e4
        have := HM.out
        exact ⟨by omega, by omega⟩
      clear h5 hs1 hs2 HRe
      go_wp2
      go_loopw [19] (fun x wr2 => ∃ n1 : Nat, x = .int .i64 (n1 : Int) ∧ n1 ≤ N ∧ Hid (Lx w wr2 L2 (.slice q m c1) D N)) (fun x _ => N - (intOf x).toNat)
      case atStart => exact ⟨sure, rfl, HSu.out, HX5⟩
      case round =>
        clear HX5
        obtain ⟨n1, rfl, hn1, HX⟩ := hrel
        have hn1m : n1 ≤ m := by have := HNm.out; omega
        have hsl : ∀ W : World, (Instr.slice 54 (.slice q m c1) none (some (.int .i64 (n1 : Int))) none).run Try.prog W = .ok (.slice q n1 c1) W := fun W => cut_hi q m c1 n1 (by have := HMc.out; omega) W
        have HAl : Hid _ := HX.out.all (n := n1) (by have := HM.out; omega)
        have hle : (n1 : Int) ≤ (m : Int) := by omega
        have hnb : (n1 : Int) + 1 ≤ 9223372036854775807 := by have := HM.out; have := HLen.out; omega
        clear hn1m
        go_wp2_with fail
        refine Calls.mono HAl.out ?_
        rintro e w6 ⟨v3, g3, S3, E3, rfl, ha3, hS3, hb6⟩
        obtain ⟨c3, hv3, _, _⟩ := ha3.form
        have HT : Hid _ := (HX.out.below hb6).told ha3 hS3
        subst hv3
        clear ha3 hS3 hb6 HAl HX
        go_wp2_with fail
        refine Calls.mono HT.out ?_
        rintro e w7 ⟨bb, rfl, hbb, h7⟩
        cases bb with
        | true =>
          have HAp : Hid _ := h7.append
          clear h7 hbb HT
          go_wp2_with fail
          refine Calls.mono HAp.out ?_
          rintro e w8 ⟨rfl, H8⟩
          clear HAp
          go_wp2_with fail
          refine Calls.mono H8.out ?_
          rintro e w9 ⟨rfl, hb9⟩
          have HB9 : Hid _ := hb9
          clear hb9 H8
          go_wp2_with fail
          refine (HA.out _).mono ?_
          rintro e w10 ⟨rfl, hb10⟩
          have HB10 : Hid (Below w.heap.size w w10) := Below.trans HB9.out (hb10.mono (Below.size HB9.out))
          clear hb10
          go_wp2
          go_ret
          exact ⟨rfl, HB10.out⟩
        | false =>
          have hne : n1 ≠ N := fun e => by have := hbb e; cases this
          have H7 : Hid (Lx w w7 L2 (.slice q m c1) D N) := h7
          clear h7 hbb HT
          go_wp2
          go_roundw
          case rel => exact ⟨n1 + 1, by go_num, by omega, H7⟩
          case measure => simp [intOf]; omega

theorem laidOut : laidOutB Try.prog = true := by kernel_rfl

theorem own : ownKnob Try.prog.godebug = none := by kernel_rfl

set_option maxRecDepth 100000 in
theorem lifted (os : Os) (started : os.Started) (H : Type) (enc : TypeId × Value → H) :
    ReturnsInHanded {} Try.checked os 4 .any (Rows.walCrashSpec.pre6 enc Try.prog Try.f4 Rows.walCrashRow.domain false) (Rows.walCrashSpec.post enc Try.prog Try.f4 false true false false) := by
  refine returnsInHanded_of_change_sized (C := Try.checked) own started (by kernel_rfl) Try.func4
    (ChangeSpec.witness6 (enc := enc) (C := Try.checked) false ⟨#[], #[.int .i64 0, .slice none 0 0, .slice none 0 0], []⟩ 8 (by kernel_rfl) (by kernel_rfl) (by kernel_rfl) (by kernel_rfl)) ?_
  intro W base args ds gs before hval0 hW _ hsz0 _
  have hsz : (DataW.weightsEach Try.prog (Try.f4.params.toList ++ Rows.walCrashSpec.plain.varTypes Try.prog) (ds ++ gs)).all (· ≤ reachBytes) = true := hsz0
  have hval : ∀ (j : Nat) t v, Try.f4.params[j]? = some t → args[j]? = some v → Value.okWide Try.prog W .any base t v := hval0
  have hW' := hW
  obtain ⟨p, q, hA0, hV, rfl, hfz, hnd⟩ := hW
  have hA : DataW.TrodAll enc Try.prog W 0 (fun _ => true) true Try.f4.params.toList args.toList ds p := hA0
  rw [Try.params4] at hA hval hsz
  obtain ⟨v0, vs0, d0, ds0, p0, q0, hargs, rfl, rfl, h0, r0⟩ := trodAll_cons hA
  obtain ⟨v1, vs1, d1, ds1, p1, q1, rfl, rfl, rfl, h1, r1⟩ := trodAll_cons r0
  obtain ⟨v2, vs2, d2, ds2, p2, q2, rfl, rfl, rfl, h2, r2⟩ := trodAll_cons r1
  obtain ⟨rfl, rfl, rfl⟩ := trodAll_nil r2
  obtain rfl : args = #[v0, v1, v2] := by cases args; simp_all
  obtain ⟨rfl, rfl⟩ := trodVars_none hV
  obtain ⟨a0, rfl, rfl, rfl, w0⟩ := open_int Try.underlying3 (hval 0 3 v0 rfl rfl) h0
  have b0 : -9223372036854775808 ≤ a0 ∧ a0 ≤ 9223372036854775807 := by simpa [Lit.wf, IntKind.min, IntKind.max, IntKind.signed, IntKind.bits] using w0
  have k1 := h1
  have lt1 : ∀ x ∈ p1, x.block < W.heap.size := by obtain ⟨m, hm⟩ := k1; exact DataW.trod_lt m _ _ _ hm
  obtain ⟨a1, b1⟩ := open_ops5 (hval 1 22 v1 rfl rfl) h1
  have k2 := h2
  have lt2 : ∀ x ∈ p2, x.block < W.heap.size := by obtain ⟨m, hm⟩ := k2; exact DataW.trod_lt m _ _ _ hm
  obtain ⟨a2, b2⟩ := open_ints6 (hval 2 53 v2 rfl rfl) h2
  clear hA0 hval0 hsz0
  refine (walk a0 v1 a1 v2 a2 W b0 b1 b2).mono fun e W' ⟨he, bel⟩ => ?_
  subst he
  exact ⟨_, rfl, _, _, _, [], _, [], hW', trodAll_mk1 (shut_bool Try.underlying4 _), (trodAll_cons_mk (shut_int Try.underlying3 w0) (trodAll_cons_mk (Below.trod laidOut (by kernel_rfl) (of_decide_eq_true (by kernel_rfl)) k1 bel lt1) (trodAll_cons_mk (Below.trod laidOut (by kernel_rfl) (of_decide_eq_true (by kernel_rfl)) k2 bel lt2) trodAll_mk0))), rfl, bel.frame _, fun h => by cases h⟩

theorem over : Rows.walCrashRow.holds Try.pinned (OpenSpec.ofChange Rows.walCrashSpec) :=
  OpenClaim.holds_of_wide 4 Try.f4 rfl rfl rfl rfl rfl rfl rfl ⟨rfl, rfl, rfl, rfl, rfl⟩ rfl rfl rfl rfl rfl (by kernel_rfl) Try.func4 (by kernel_rfl)
    (of_decide_eq_true (by kernel_rfl)) (by unfold Func.isWrapper; first | (rw [if_pos (by decide +kernel)]; kernel_rfl) | (rw [if_neg (by decide +kernel)]; exact ⟨rfl, rfl⟩))
    (fun os started H enc _ => lifted os started H enc)


end Go.Proofs.Ytpfnkjfbhcffiaa.walCrash
namespace Go.Proofs.Ytpfnkjfbhcffiaa
/-- The statement. -/
theorem walCrash_holds : Rows.WalCrashSaid := walCrash.over
end Go.Proofs.Ytpfnkjfbhcffiaa
