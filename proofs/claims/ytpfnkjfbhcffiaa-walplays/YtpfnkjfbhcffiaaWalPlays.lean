/-
  For every limit and every script: WalPlays answers true: whatever is appended, a log tells what each group's records make, also cleaned, and opened anew; the arguments read afterwards as before. No condition.
-/
import Derived.Test.YtpfnkjfbhcffiaaWlPz
import Derived.Test.YtpfnkjfbhcffiaaWlFam
import Derived.Test.YtpfnkjfbhcffiaaWlOpen
import Derived.ProofKit
import Derived.OpenShut
import Derived.ShutString
import Derived.SizedLaws
namespace Go.Proofs.Ytpfnkjfbhcffiaa.walPlays
open Go.ChangeShapes Go.WideShapes Go.ChangeAt Go.RowKit
open Go.ChangeMaps (open_string shut_string)

/-- The law's state behind k ops. -/
def St5 (w X : World) (p : Pl) (v : Value) (g b lim k : Nat) : Prop := p.b = b ∧ p.limit = lim ∧ ∃ s segs own S E, Pz w X p v g s segs own S E k

theorem St5.below {w X Y : World} {p : Pl} {v : Value} {g b lim k : Nat} (h : St5 w X p v g b lim k) (hb : Below X.heap.size X Y) : St5 w Y p v g b lim k := by
  obtain ⟨h1, h2, s, segs, own, S, E, h3⟩ := h
  exact ⟨h1, h2, s, segs, own, S, E, h3.below hb⟩
theorem St5.next {w X : World} {p : Pl} {v : Value} {g b lim k : Nat} (h : St5 w X p v g b lim k) : St5 w X p v g b lim (k + 1) := by
  obtain ⟨h1, h2, s, segs, own, S, E, h3⟩ := h
  exact ⟨h1, h2, s, segs, own, S, E, h3.next⟩
theorem St5.old {w X : World} {p : Pl} {v : Value} {g b lim k : Nat} (h : St5 w X p v g b lim k) : Below w.heap.size w X := by
  obtain ⟨h1, h2, s, segs, own, S, E, h3⟩ := h
  exact h3.pm.lo.old
theorem St5.sync {w X : World} {p : Pl} {v : Value} {g b lim k : Nat} (h : St5 w X p v g b lim k) : Calls Try.prog 15 #[.pointer (some ⟨p.L, 0, none⟩)] X fun e w' => e = .returned (.int .i64 0) ∧ St5 w w' p v g b lim (k + 1) := by
  obtain ⟨h1, h2, s, segs, own, S, E, h3⟩ := h
  refine h3.sync.mono ?_
  rintro e w' ⟨rfl, s', own', h4, _⟩
  exact ⟨rfl, h1, h2, s', segs, own', S, E, h4⟩
theorem St5.told {w X : World} {p : Pl} {v : Value} {g b lim k : Nat} (h : St5 w X p v g b lim k) : Calls Try.prog 19 #[.pointer (some ⟨p.L, 0, none⟩), v] X fun e w' => e = .returned (.bool true) ∧ St5 w w' p v g b lim k := by
  obtain ⟨h1, h2, s, segs, own, S, E, h3⟩ := h
  refine h3.told.mono ?_
  rintro e w' ⟨rfl, h4⟩
  exact ⟨rfl, h1, h2, s, segs, own, S, E, h4⟩
theorem St5.size {w X : World} {p : Pl} {v : Value} {g b lim k : Nat} (h : St5 w X p v g b lim k) : Calls Try.prog 16 #[.pointer (some ⟨p.L, 0, none⟩)] X fun e w' => ∃ n : Nat, e = .returned (.int .i64 (n : Int)) ∧ w' = X := by
  obtain ⟨h1, h2, s, segs, own, S, E, h3⟩ := h
  refine h3.size.mono ?_
  rintro e w' ⟨rfl, hw⟩
  exact ⟨_, rfl, hw⟩
theorem St5.reopen {w X : World} {p : Pl} {v : Value} {g b lim k : Nat} (h : St5 w X p v g b lim k) (hk : k < 100) : Calls Try.prog 8 #[.pointer (some ⟨b, 0, none⟩), .int .i64 (lim : Int)] X fun e w' => ∃ p2, e = .returned (.tuple #[.pointer (some ⟨p2.L, 0, none⟩), .int .i64 0]) ∧ St5 w w' p2 v g b lim (k + 1) := by
  obtain ⟨h1, h2, s, segs, own, S, E, h3⟩ := h
  have := h3.reopen hk
  rw [h1, h2] at this
  refine this.mono ?_
  rintro e w' ⟨p2, s', own', rfl, h4, h5, h6⟩
  exact ⟨p2, rfl, h4, h5, s', segs, own', S, E, h6⟩
/-- .. behind Clean: m bytes, d are needed. -/
def Cl5 (w X : World) (p : Pl) (v : Value) (g b lim k m d : Nat) : Prop := p.b = b ∧ p.limit = lim ∧ ∃ s segs own S E, Pz w X p v g s segs own S E k ∧ tot s.A = m ∧ needTo S 9 = d
theorem St5.clean {w X : World} {p : Pl} {v : Value} {g b lim k : Nat} (h : St5 w X p v g b lim k) (hk : k < 100) : Calls Try.prog 17 #[.pointer (some ⟨p.L, 0, none⟩)] X fun e w' => e = .returned (.int .i64 0) ∧ ∃ m d, m ≤ 990 + 2 * d ∧ d ≤ 30000 ∧ Cl5 w w' p v g b lim (k + 1) m d := by
  obtain ⟨h1, h2, s, segs, own, S, E, h3⟩ := h
  refine (h3.clean hk).mono ?_
  rintro e w' ⟨rfl, s', segs', own', h4, h5, _⟩
  exact ⟨rfl, _, _, h5, by have := h3.need; omega, h1, h2, s', segs', own', S, E, h4, rfl, rfl⟩
theorem Cl5.st {w X : World} {p : Pl} {v : Value} {g b lim k m d : Nat} (h : Cl5 w X p v g b lim k m d) : St5 w X p v g b lim k := by
  obtain ⟨h1, h2, s, segs, own, S, E, h3, _⟩ := h
  exact ⟨h1, h2, s, segs, own, S, E, h3⟩
theorem Cl5.size {w X : World} {p : Pl} {v : Value} {g b lim k m d : Nat} (h : Cl5 w X p v g b lim k m d) : Calls Try.prog 16 #[.pointer (some ⟨p.L, 0, none⟩)] X fun e w' => e = .returned (.int .i64 (m : Int)) ∧ w' = X := by
  obtain ⟨h1, h2, s, segs, own, S, E, h3, h4, _⟩ := h
  rw [← h4]
  exact h3.size
theorem Cl5.need {w X : World} {p : Pl} {v : Value} {g b lim k m d : Nat} (h : Cl5 w X p v g b lim k m d) (hd : d ≤ 30000) : Calls Try.prog 18 #[v] X fun e w' => e = .returned (.int .i64 (d : Int)) ∧ Cl5 w w' p v g b lim k m d := by
  obtain ⟨h1, h2, s, segs, own, S, E, h3, h4, h5⟩ := h
  refine (Need_c h3.pm.all (by omega)).mono ?_
  rintro e w' ⟨rfl, hb⟩
  exact ⟨by rw [h5], h1, h2, s, segs, own, S, E, h3.below hb, h4, h5⟩

theorem st5_new {w w1 w2 : World} {p : Pl} {s : St} {own : Nat → Prop} {v : Value} {g : Nat} (hf : Fresh w w1 p s own) (ha : AllV w2 v g (fun _ => W.new) (fun _ => .slice none 0 0)) (hg : w1.heap.size ≤ g) (hb : Below w1.heap.size w1 w2) : St5 w w2 p v g p.b p.limit 0 := by
  have hl := Lo.fresh hf
  refine ⟨rfl, rfl, s, [], own, _, _, ⟨⟨(hl.below hb).wide (by omega), ha, fun e => ?_, fun i _ k hk => by simp [readBlk] at hk, Nat.le_trans hf.old.size hg⟩, fun i _ => by rw [hf.gs], by rw [hf.n]; exact Nat.le_refl _, ?_⟩⟩
  · have := hf.lg.here g e
    omega
  · decide

set_option maxHeartbeats 8000000 in
set_option maxRecDepth 20000 in
theorem walk (a0 : Int) (v1 : Value) (a1 : List Op5) (w : World) (_b0 : -9223372036854775808 ≤ a0 ∧ a0 ≤ 9223372036854775807) (b1 : Scr w v1 a1) :
    Calls Try.prog 3 #[.int .i64 a0, v1] w fun e w' => e = .returned (.bool true) ∧ Below w.heap.size w w' := by
  have HA : Hid (∀ u : World, Calls Try.prog 6 #[] u fun e w' => e = .returned (.bool true) ∧ Below u.heap.size u w') := awake_c
  have HF : Hid _ := fine_c b1
  have HS : Hid (Scr w v1 a1) := b1
  obtain ⟨ao, c, hv1, hc1, hc2, hc3⟩ := b1
  obtain ⟨n, hn⟩ : ∃ n, n = a1.length := ⟨_, rfl⟩
  have HN : Hid (n = a1.length) := hn
  rw [← hn] at hv1 hc1
  subst hv1
  clear hn hc1 hc2 hc3
  by_cases hlim : a0 < 1 ∨ 16777216 < a0
  · have HNew : Hid _ := New_yes 1024 w (by omega)
    have HOp : Hid (∀ u, u = w.alloc (.cells (newCells ((1024 : Nat) : Int)) 65) → Calls Try.prog 8 #[.pointer (some ⟨w.heap.size, 0, none⟩), .int .i64 a0] u fun e w' => e = .returned (.tuple #[.pointer none, .int .i64 1]) ∧ w' = u ∧ Below w.heap.size w u) := by
      intro u hu
      have hd := dk_new w 1024 (by omega)
      rw [← hu] at hd
      refine (Open_lim hd a0 hlim).mono ?_
      rintro e w' ⟨rfl, hw⟩
      exact ⟨rfl, hw, by rw [hu]; exact below_alloc _ _⟩
    rw [show ((1024 : Nat) : Int) = 1024 from rfl] at HNew
    have hex : decide (a0 < 1) = true ∨ (decide (a0 < 1) = false ∧ decide ((16777216 : Int) < a0) = true) := by
      by_cases q : a0 < 1
      · exact .inl (decide_eq_true q)
      · exact .inr ⟨decide_eq_false q, decide_eq_true (by omega)⟩
    clear _b0 hlim
    go_enter Try.func3, Try.ntmps3
    go_wp2_with fail
    refine Calls.mono HF.out ?_
    rintro e w1 ⟨fb, rfl, hfb, hw⟩
    subst w1
    clear hfb
    cases fb
    case false =>
      go_wp2_with fail
      refine (HA.out _).mono ?_
      rintro e w3 ⟨rfl, hb3⟩
      have HB3 : Hid _ := hb3
      clear hb3
      go_wp2
      go_ret
      exact ⟨rfl, HB3.out⟩
    rcases hex with t1 | ⟨t1, t2⟩
    all_goals
      go_wp2_with fail
      refine Calls.mono HNew.out ?_
      rintro e w2 ⟨rfl, hw2⟩
      have HO2 : Hid _ := HOp.out w2 hw2
      clear hw2
      go_wp2_with fail
      refine Calls.mono HO2.out ?_
      rintro e w3 ⟨rfl, hw3, hb3⟩
      subst hw3
      have HB3 : Hid _ := hb3
      clear hb3
      go_wp2_with fail
      refine (HA.out _).mono ?_
      rintro e w4 ⟨rfl, hb4⟩
      have HB4 : Hid (Below w.heap.size w w4) := Below.trans HB3.out (hb4.mono (Below.size HB3.out))
      clear hb4
      go_wp2
      go_ret
      exact ⟨rfl, HB4.out⟩
  obtain ⟨lim, hlm⟩ : ∃ lim : Nat, a0 = (lim : Int) := ⟨a0.toNat, by omega⟩
  subst hlm
  have HBg : Hid (Calls Try.prog 9 #[.int .i64 (lim : Int)] w fun e w' => ∃ p s own, e = .returned (.tuple #[.pointer (some ⟨p.b, 0, none⟩), .pointer (some ⟨p.L, 0, none⟩), .bool true]) ∧ p.limit = lim ∧ Fresh w w' p s own) := begun_c lim (by omega) w
  have HAll : Hid _ := fun u : World => All_none u
  have t1 : decide ((lim : Int) < 1) = false := decide_eq_false (by omega)
  have t2 : decide ((16777216 : Int) < (lim : Int)) = false := decide_eq_false (by omega)
  clear hlim _b0
  go_enter Try.func3, Try.ntmps3
  go_wp2_with fail
  refine Calls.mono HF.out ?_
  rintro e w1 ⟨fb, rfl, hfb, hw⟩
  subst w1
  cases fb
  case false =>
    go_wp2_with fail
    refine (HA.out _).mono ?_
    rintro e w3 ⟨rfl, hb3⟩
    have HB3 : Hid _ := hb3
    clear hb3
    go_wp2
    go_ret
    exact ⟨rfl, HB3.out⟩
  have HSh : Hid (Short a1) := hfb rfl
  clear hfb HF
  go_wp2_with fail
  refine Calls.mono HBg.out ?_
  rintro e w2 ⟨p, s, own, rfl, hpl, hfr⟩
  have HFr : Hid (Fresh w w2 p s own ∧ p.limit = lim) := ⟨hfr, hpl⟩
  obtain ⟨L, hL⟩ : ∃ L, L = p.L := ⟨_, rfl⟩
  obtain ⟨b, hb⟩ : ∃ b, b = p.b := ⟨_, rfl⟩
  have HPL : Hid (L = p.L ∧ b = p.b) := ⟨hL, hb⟩
  rw [← hL, ← hb]
  clear hfr hpl hL hb HBg t1 t2
  go_wp2_with fail
  refine Calls.mono (HAll.out _) ?_
  rintro e w3 ⟨v, g, rfl, hav, hge, hb3⟩
  obtain ⟨cc, hv, hcc, _⟩ := hav.form
  have HSt : Hid (St5 w w3 p v g b lim 0) := by
    have := st5_new HFr.out.1 hav hge hb3
    rw [HFr.out.2, ← HPL.out.2] at this
    exact this
  subst hv
  clear hav hge hb3 HAll HFr
  go_wp2
  go_loopw [10, 13] (fun lv x wr => ∃ (k : Nat) (p : Pl), lv = .pointer (some ⟨p.L, 0, none⟩) ∧ x = .int .i64 (k : Int) ∧ k ≤ n ∧ Hid (St5 w wr p (.slice (some ⟨g, 0, none⟩) 9 cc) g b lim k)) (fun _ x _ => n - (intOf x).toNat)
  case atStart => exact ⟨0, p, by rw [HPL.out.1], rfl, Nat.zero_le _, HSt⟩
  case round =>
    clear HSt HPL
    obtain ⟨k, p, rfl, rfl, hk, HSt⟩ := hrel
    obtain ⟨L, hL⟩ : ∃ L, L = p.L := ⟨_, rfl⟩
    have HL : Hid (L = p.L) := hL
    have hn100 : (n : Int) ≤ 100 := by have := HSh.out.1; have := HN.out; omega
    rw [← hL]
    clear hL
    by_cases hlt : k < n
    · obtain ⟨x, hx⟩ : ∃ x, a1[k]? = some x := ⟨_, List.getElem?_eq_getElem (by have := HN.out; omega)⟩
      obtain ⟨gs, o, rfl, hcell⟩ : ∃ gs o, ao = some ⟨gs, o, none⟩ ∧ OpAt5 wr gs (o + k * 8) x := by
        obtain ⟨ao', c', hv, _, _, _, h5⟩ := HS.out
        rcases h5 with e | ⟨gs, o, h1, h2, h3⟩
        · rw [e] at hx; simp at hx
        · injection hv with e1 e2 e3
          refine ⟨gs, o, by rw [e1, h1], ?_⟩
          have hc : ∀ j, wr.cell? ⟨gs, j, none⟩ = w.cell? ⟨gs, j, none⟩ := fun j => HSt.out.old.cell (p := ⟨gs, j, none⟩) h2
          have h4 := h3 k x hx
          unfold OpAt5 at h4 ⊢
          rw [hc, hc, hc, hc, hc, hc, hc, hc]
          exact h4
      have HD : Hid (x.r.data.size ≤ 200) := HSh.out.2 x (List.mem_of_getElem? hx)
      obtain ⟨y0, y1, y2, y3, y4, y5, y6, y7⟩ := hcell
      obtain ⟨xk, xr, xn⟩ := x
      obtain ⟨rg, rk, ri, rt, rv, rd⟩ := xr
      dsimp only at y0 y1 y2 y3 y4 y5 y6 y7 HD
      have hk0 : (0 : Int) ≤ (k : Int) := by omega
      have hkn : (k : Int) < (n : Int) := by omega
      have HK : Hid (k < 100 ∧ k < n) := by have := HSh.out.1; have := HN.out; exact ⟨by omega, hlt⟩
      obtain ⟨u, hu⟩ : ∃ u, u = wr.alloc (.cells #[.int .i64 xk, .int .i64 rg, .int .i64 rk, .int .i64 ri, .int .i64 rt, .int .i64 rv, .string rd, .bool xn] 39) := ⟨_, rfl⟩
      have HU : Hid (St5 w u p (.slice (some ⟨g, 0, none⟩) 9 cc) g b lim k) := by rw [hu]; exact HSt.out.below (below_alloc _ _)
      have hrem : ((k : Int) % 8 == 0) = true ∨ ((k : Int) % 8 == 0) = false := by cases ((k : Int) % 8 == 0) <;> simp
      clear hx HSt HS HSh HN hlt hk
      by_cases k1 : xk = 1
      · subst k1
        obtain ⟨hpb, hpl, s, segs, own, S, E, hz⟩ := HU.out
        have HPB : Hid (p.b = b ∧ p.limit = lim) := ⟨hpb, hpl⟩
        have HPz : Hid (Pz w u p (.slice (some ⟨g, 0, none⟩) 9 cc) g s segs own S E k) := hz
        have HRec : Hid _ := record_c hz.pm.all hz.ok 1 ⟨rg, rk, ri, rt, rv, rd⟩ xn
        obtain ⟨R, hR⟩ : ∃ R, R = recM S ⟨rg, rk, ri, rt, rv, rd⟩ xn := ⟨_, rfl⟩
        have HRD : Hid (R.data.size ≤ 200) := by rw [hR, recM_data]; exact HD.out
        rw [← hR] at HRec
        obtain ⟨qg, qk, qi, qt, qv, qd⟩ := R
        unfold recV at HRec
        dsimp only at HRec HRD
        obtain ⟨cd, hcd⟩ : ∃ cd, cd = W.chk S ⟨qg, qk, qi, qt, qv, qd⟩ := ⟨_, rfl⟩
        have HRef : Hid (∀ Y, Below u.heap.size u Y → Calls Try.prog 12 #[.slice (some ⟨g, 0, none⟩) 9 cc, .agg #[.int .i64 qg, .int .i64 qk, .int .i64 qi, .int .i64 qt, .int .i64 qv, .string qd]] Y fun e w' => e = .returned (.int .i64 cd) ∧ Below Y.heap.size Y w') := by
          intro Y hY
          rw [hcd]
          exact refused_c (hz.pm.all.below hY) hz.ok ⟨qg, qk, qi, qt, qv, qd⟩
        have HCD : Hid (cd = W.chk S ⟨qg, qk, qi, qt, qv, qd⟩) := hcd
        clear hpb hpl hz hR hcd HU HD
        go_wp2_with fail
        rw [← hu]
        clear hu y0 y1 y2 y3 y4 y5 y6 y7
        refine Calls.mono HRec.out ?_
        rintro e w4 ⟨rfl, hb4⟩
        obtain ⟨u2, hu2⟩ : ∃ u2, u2 = w4.alloc (.cells #[.int .i64 qg, .int .i64 qk, .int .i64 qi, .int .i64 qt, .int .i64 qv, .string qd] 37) := ⟨_, rfl⟩
        obtain ⟨br, hbr⟩ : ∃ br, br = w4.heap.size := ⟨_, rfl⟩
        have HB2 : Hid (Below u.heap.size u u2) := by rw [hu2]; exact hb4.trans ((below_alloc _ _).mono hb4.size)
        have HBr : Hid (br < u2.heap.size ∧ u.heap.size ≤ br ∧ ∀ j, u2.cell? ⟨br, j, none⟩ = (#[.int .i64 qg, .int .i64 qk, .int .i64 qi, .int .i64 qt, .int .i64 qv, .string qd] : Array Value)[j]?) := by
          refine ⟨?_, ?_, fun j => ?_⟩
          · rw [hu2, hbr]; simp
          · rw [hbr]; exact hb4.size
          · rw [hu2, hbr]; exact World.cell?_alloc_mark w4 _ _ _ j
        have HRf2 : Hid _ := HRef.out u2 HB2.out
        clear hb4 HRec HRef
        go_wp2_with fail
        rw [← hu2, ← hbr]
        clear hu2 hbr
        refine Calls.mono HRf2.out ?_
        rintro e w5 ⟨rfl, hb5⟩
        have HB5 : Hid (Below u.heap.size u w5) := HB2.out.trans (hb5.mono HB2.out.size)
        have HC5 : Hid (br < w5.heap.size ∧ (w5.cell? ⟨br, 0, none⟩ = some (.int .i64 qg) ∧ w5.cell? ⟨br, 1, none⟩ = some (.int .i64 qk) ∧ w5.cell? ⟨br, 2, none⟩ = some (.int .i64 qi) ∧ w5.cell? ⟨br, 3, none⟩ = some (.int .i64 qt) ∧ w5.cell? ⟨br, 4, none⟩ = some (.int .i64 qv) ∧ w5.cell? ⟨br, 5, none⟩ = some (.string qd))) := by
          have hc : ∀ j, w5.cell? ⟨br, j, none⟩ = (#[.int .i64 qg, .int .i64 qk, .int .i64 qi, .int .i64 qt, .int .i64 qv, .string qd] : Array Value)[j]? := fun j => (hb5.cell (p := ⟨br, j, none⟩) HBr.out.1).trans (HBr.out.2.2 j)
          exact ⟨Nat.lt_of_lt_of_le HBr.out.1 hb5.size, hc 0, hc 1, hc 2, hc 3, hc 4, hc 5⟩
        obtain ⟨_, r0, r1, r2, r3, r4, r5⟩ := HC5.out
        clear hb5 HRf2
        by_cases hc0 : cd = 0
        · have HAp : Hid _ := (HPz.out.below HB5.out).append HK.out.1 ⟨qg, qk, qi, qt, qv, qd⟩ HRD.out (by rw [← HCD.out]; exact hc0)
          have hmay : W.may ⟨qg, qk, qi, qt, qv, qd⟩ = true := chk_may (gs := S) (by rw [← HCD.out]; exact hc0)
          obtain ⟨gi, hgi, hgi9⟩ : ∃ gi : Nat, qg = (gi : Int) ∧ gi < 9 := by
            have := may_group hmay
            dsimp only at this
            exact ⟨qg.toNat, by omega, by omega⟩
          subst hgi hc0
          rw [← HL.out] at HAp
          unfold recV at HAp
          dsimp only at HAp
          have HOw : Hid (¬ own br) := fun e => by have := HPz.out.pm.lo.lg.here br e; have := HBr.out.2.1; omega
          clear hmay
          go_wp2_with fail
          refine Calls.mono HAp.out ?_
          rintro e w6 ⟨rfl, s', segs', own', hph, _, _, hkp, _⟩
          have HC6 : Hid (∀ Y, Below w6.heap.size w6 Y → Y.cell? ⟨br, 0, none⟩ = some (.int .i64 (gi : Int)) ∧ Y.cell? ⟨br, 1, none⟩ = some (.int .i64 qk) ∧ Y.cell? ⟨br, 2, none⟩ = some (.int .i64 qi) ∧ Y.cell? ⟨br, 3, none⟩ = some (.int .i64 qt) ∧ Y.cell? ⟨br, 4, none⟩ = some (.int .i64 qv) ∧ Y.cell? ⟨br, 5, none⟩ = some (.string qd)) := by
            obtain ⟨hlt5, r0, r1, r2, r3, r4, r5⟩ := HC5.out
            have hl6 : br < w6.heap.size := Nat.lt_of_lt_of_le hlt5 hkp.size
            intro Y hY
            have hc : ∀ j, Y.cell? ⟨br, j, none⟩ = w5.cell? ⟨br, j, none⟩ := fun j => (hY.cell (p := ⟨br, j, none⟩) hl6).trans (hkp.cell hlt5 HOw.out j)
            rw [hc, hc, hc, hc, hc, hc]
            exact ⟨r0, r1, r2, r3, r4, r5⟩
          obtain ⟨pe, ce, hE, _⟩ := hph.pm.all.ent gi hgi9
          obtain ⟨ne, hne⟩ : ∃ ne, ne = (S gi).ents.length := ⟨_, rfl⟩
          rw [← hne] at hE
          have HZ6 : Hid (∀ Y : World, Below w6.heap.size w6 Y → (Y.cell? ⟨g, gi * 6, none⟩ = some (.int .i64 (S gi).term) ∧ Y.cell? ⟨g, gi * 6 + 1, none⟩ = some (.int .i64 (S gi).vote) ∧ Y.cell? ⟨g, gi * 6 + 2, none⟩ = some (.int .i64 (S gi).base) ∧ Y.cell? ⟨g, gi * 6 + 3, none⟩ = some (.int .i64 (S gi).bterm) ∧ Y.cell? ⟨g, gi * 6 + 4, none⟩ = some (.string (S gi).data) ∧ Y.cell? ⟨g, gi * 6 + 5, none⟩ = some (.slice pe ne ce)) ∧ ∀ j, Y.frozen? ⟨g, j, none⟩ = false) := by
            intro Y hY
            have ha := hph.pm.all.below hY
            have hc := ha.cell gi hgi9
            rw [hE] at hc
            exact ⟨hc, ha.free⟩
          have HFo : Hid _ := (hph.below (Below.refl w6.heap.size w6).drew).fold (gi := gi) rfl
          unfold savV recV at HFo
          rw [hE] at HFo
          dsimp only at HFo
          have HNg : Hid (br ≠ g) := fun e => by have h1 := HPz.out.pm.all.lt; have h2 := HBr.out.2.1; omega
          have hz0 : Below w6.heap.size w6 w6.drew := (Below.refl _ _).drew
          obtain ⟨⟨z0, z1, z2, z3, z4, z5⟩, _⟩ := HZ6.out w6.drew hz0
          obtain ⟨d0, d1, d2, d3, d4, d5⟩ := HC6.out w6 (Below.refl _ _)
          have hgi0 : (0 : Int) ≤ (gi : Int) := by omega
          have hgi1 : (gi : Int) < 9 := by omega
          clear hph hkp hE hne HPz HAp HB5 HB2 HBr HC5 HCD HOw r0 r1 r2 r3 r4 r5 HRD
          go_wp2
          refine wp_region_held_drew (S := fun Y => Y.cell? ⟨br, 0, none⟩ = some (.int .i64 (gi : Int)) ∧ Y.cell? ⟨br, 1, none⟩ = some (.int .i64 qk) ∧ Y.cell? ⟨br, 2, none⟩ = some (.int .i64 qi) ∧ Y.cell? ⟨br, 3, none⟩ = some (.int .i64 qt) ∧ Y.cell? ⟨br, 4, none⟩ = some (.int .i64 qv) ∧ Y.cell? ⟨br, 5, none⟩ = some (.string qd)) (by kernel_rfl) (HC6.out _ hz0) (fun hHeld => ?_)
          refine take7 (i := 0) (d := 90) (v := .slice (some ⟨g, 0, none⟩) 9 cc) rfl rfl (by kernel_rfl) (by kernel_rfl) (by kernel_rfl) (fun _ _ _ h => h) (Or.inl ⟨by rfl, ?_⟩) (by assumption) ?_
          · intro X hSw
            go_simp
          simp only [Act.put, List.setIfInBounds_toArray, List.set_cons_zero, List.set_cons_succ]
          refine take7 (i := 1) (d := 91) (v := .pointer (some ⟨br, 0, none⟩)) rfl rfl (by kernel_rfl) (by kernel_rfl) (by kernel_rfl) (fun _ _ _ h => h) (Or.inl ⟨by rfl, ?_⟩) (by assumption) ?_
          · intro X hSw
            go_simp
          simp only [Act.put, List.setIfInBounds_toArray, List.set_cons_zero, List.set_cons_succ]
          refine take7 (i := 2) (d := 92) (v := .int .i64 (gi : Int)) rfl rfl (by kernel_rfl) (by kernel_rfl) (by kernel_rfl) (fun _ _ _ h => h) (Or.inl ⟨by rfl, ?_⟩) (by assumption) ?_
          · intro X hSw
            go_simp
          simp only [Act.put, List.setIfInBounds_toArray, List.set_cons_zero, List.set_cons_succ]
          refine take7 (i := 3) (d := 93) (v := .slice (some ⟨g, 0, none⟩) 9 cc) rfl rfl (by kernel_rfl) (by kernel_rfl) (by kernel_rfl) (fun _ _ _ h => h) (Or.inl ⟨by rfl, ?_⟩) (by assumption) ?_
          · intro X hSw
            go_simp
          simp only [Act.put, List.setIfInBounds_toArray, List.set_cons_zero, List.set_cons_succ]
          refine take7 (i := 4) (d := 94) (v := .pointer (some ⟨br, 0, none⟩)) rfl rfl (by kernel_rfl) (by kernel_rfl) (by kernel_rfl) (fun _ _ _ h => h) (Or.inl ⟨by rfl, ?_⟩) (by assumption) ?_
          · intro X hSw
            go_simp
          simp only [Act.put, List.setIfInBounds_toArray, List.set_cons_zero, List.set_cons_succ]
          refine take7 (i := 5) (d := 95) (v := .int .i64 (gi : Int)) rfl rfl (by kernel_rfl) (by kernel_rfl) (by kernel_rfl) (fun _ _ _ h => h) (Or.inl ⟨by rfl, ?_⟩) (by assumption) ?_
          · intro X hSw
            go_simp
          simp only [Act.put, List.setIfInBounds_toArray, List.set_cons_zero, List.set_cons_succ]
          refine take7 (i := 6) (d := 96) (v := .pointer (some ⟨g, gi * 6, none⟩)) rfl rfl (by kernel_rfl) (by kernel_rfl) (by kernel_rfl) (fun _ _ _ h => h) (Or.inl ⟨by rfl, ?_⟩) (by assumption) ?_
          · intro X hSw
            go_simp
          simp only [Act.put, List.setIfInBounds_toArray, List.set_cons_zero, List.set_cons_succ]
          refine take7 (i := 8) (d := 98) (v := .agg #[.int .i64 (gi : Int), .int .i64 qk, .int .i64 qi, .int .i64 qt, .int .i64 qv, .string qd]) rfl rfl (by kernel_rfl) (by kernel_rfl) (by kernel_rfl) (fun _ _ _ h => h) (Or.inl ⟨by rfl, ?_⟩) (by assumption) ?_
          · intro X hSw
            go_simp
          simp only [Act.put, List.setIfInBounds_toArray, List.set_cons_zero, List.set_cons_succ]
          refine wpAnyH_ready (rs := [7]) (by kernel_rfl) (by simp) ?_
          refine AllReadyH.cons rfl (fun K hK => ?_) AllReadyH.nil
          go_simp
          refine hK.out _ _ (HC6.out _ hz0) (fun hHeld2 => ?_)
          clear hK K hHeld
          refine wpAnyH_ready (rs := [9]) (by kernel_rfl) (by simp) ?_
          refine AllReadyH.cons rfl (fun K hK => ?_) AllReadyH.nil
          go_simp
          go_wp2_with fail
          refine Calls.mono HFo.out ?_
          rintro e w7 ⟨a0, a1, a2, a3, a4, p', n', c', rfl, hb7, hz7, _⟩
          have hb7' : Below w6.heap.size w6 w7 := hz0.trans (hb7.mono hz0.size)
          have HZ7 : Hid _ := hz7
          go_wp2
          refine hK.out _ _ (HC6.out _ hb7') (fun hHeld3 => ?_)
          clear hK K hHeld2 hz7
          refine take7 (i := 10) (d := 89) (v := .tuple #[.agg #[.int .i64 a0, .int .i64 a1, .int .i64 a2, .int .i64 a3, .string a4, .slice p' n' c'], .bool true]) rfl rfl (by kernel_rfl) (by kernel_rfl) (by kernel_rfl) (fun _ _ _ h => h) (Or.inl ⟨by rfl, ?_⟩) (by assumption) ?_
          · intro X hSw
            go_simp
          simp only [Act.put, List.setIfInBounds_toArray, List.set_cons_zero, List.set_cons_succ]
          refine take7 (i := 11) (d := 100) (v := .agg #[.int .i64 a0, .int .i64 a1, .int .i64 a2, .int .i64 a3, .string a4, .slice p' n' c']) rfl rfl (by kernel_rfl) (by kernel_rfl) (by kernel_rfl) (fun _ _ _ h => h) (Or.inl ⟨by rfl, ?_⟩) (by assumption) ?_
          · intro X hSw
            go_simp
          simp only [Act.put, List.setIfInBounds_toArray, List.set_cons_zero, List.set_cons_succ]
          refine take7 (i := 12) (d := 101) (v := .bool true) rfl rfl (by kernel_rfl) (by kernel_rfl) (by kernel_rfl) (fun _ _ _ h => h) (Or.inl ⟨by rfl, ?_⟩) (by assumption) ?_
          · intro X hSw
            go_simp
          simp only [Act.put, List.setIfInBounds_toArray, List.set_cons_zero, List.set_cons_succ]
          refine take7 (i := 13) (d := 102) (v := .pointer (some ⟨g, gi * 6, none⟩)) rfl rfl (by kernel_rfl) (by kernel_rfl) (by kernel_rfl) (fun _ _ _ h => h) (Or.inl ⟨by rfl, ?_⟩) (by assumption) ?_
          · intro X hSw
            go_simp
          simp only [Act.put, List.setIfInBounds_toArray, List.set_cons_zero, List.set_cons_succ]
          obtain ⟨⟨x0, x1, x2, x3, x4, x5⟩, hfz⟩ := HZ6.out w7 hb7'
          have g0 := hfz (gi * 6)
          have g1 := hfz (gi * 6 + 1)
          have g2 := hfz (gi * 6 + 2)
          have g3 := hfz (gi * 6 + 3)
          have g4 := hfz (gi * 6 + 4)
          have g5 := hfz (gi * 6 + 5)
          clear hfz z0 z1 z2 z3 z4 z5 d0 d1 d2 d3 d4 d5
          obtain ⟨w8, hw8⟩ : ∃ w8, w8 = set6 w7 g (gi * 6) (.int .i64 a0) (.int .i64 a1) (.int .i64 a2) (.int .i64 a3) (.string a4) (.slice p' n' c') := ⟨_, rfl⟩
          have HS8 : Hid (w8.cell? ⟨br, 0, none⟩ = some (.int .i64 (gi : Int)) ∧ w8.cell? ⟨br, 1, none⟩ = some (.int .i64 qk) ∧ w8.cell? ⟨br, 2, none⟩ = some (.int .i64 qi) ∧ w8.cell? ⟨br, 3, none⟩ = some (.int .i64 qt) ∧ w8.cell? ⟨br, 4, none⟩ = some (.int .i64 qv) ∧ w8.cell? ⟨br, 5, none⟩ = some (.string qd)) := by
            have hc : ∀ j, w8.cell? ⟨br, j, none⟩ = w7.cell? ⟨br, j, none⟩ := fun j => by
              rw [hw8]
              exact World.cell?_of_block (a := ⟨br, j, none⟩) (set6_heap HNg.out)
            rw [hc, hc, hc, hc, hc, hc]
            exact HC6.out w7 hb7'
          have H8 : Hid (St5 w w8 p (.slice (some ⟨g, 0, none⟩) 9 cc) g b lim (k + 1)) := by
            rw [hw8]
            exact ⟨HPB.out.1, HPB.out.2, s', segs', own', _, _, HZ7.out⟩
          unfold set6 at hw8
          refine wpAnyH_ready (rs := [14]) (by kernel_rfl) (by simp) ?_
          refine AllReadyH.cons rfl (fun K hK => ?_) AllReadyH.nil
          go_simp
          rw [← hw8]
          refine hK.out _ _ HS8.out (fun hHeld4 => ?_)
          clear hK K hHeld3 hw8 x0 x1 x2 x3 x4 x5 g0 g1 g2 g3 g4 g5 HZ7 HS8 HZ6 HFo hb7 hb7' hz0
          refine wpAnyH_done (by kernel_rfl) ?_ _
          clear hHeld4 HC6
          have HTo : Hid _ := H8.out.told
          rw [← HL.out] at HTo
          rcases hrem with hr | hr
          · go_wp2_with fail
            refine Calls.mono HTo.out ?_
            rintro e w9 ⟨rfl, h9⟩
            have H9 : Hid (St5 w w9 p (.slice (some ⟨g, 0, none⟩) 9 cc) g b lim (k + 1)) := h9
            clear h9
            go_wp2
            refine And.intro ?_ ?_
            · exact ⟨k + 1, p, by rw [← HL.out], by go_num, by have := HK.out; omega, H9⟩
            · simp [intOf]; omega
          · go_wp2
            refine And.intro ?_ ?_
            · exact ⟨k + 1, p, by rw [← HL.out], by go_num, by have := HK.out; omega, H8⟩
            · simp [intOf]; omega
        · have HAp : Hid _ := (HPz.out.below HB5.out).refuse ⟨qg, qk, qi, qt, qv, qd⟩ (by rw [← HCD.out]; exact hc0)
          rw [← HL.out, ← HCD.out] at HAp
          unfold recV at HAp
          dsimp only at HAp
          have f5 : (cd != cd) = false := by simp
          have f6 : (cd == 0) = false := by simpa using hc0
          clear hc0
          go_wp2_with fail
          refine Calls.mono HAp.out ?_
          rintro e w6 ⟨rfl, hb6⟩
          have H6 : Hid (St5 w w6 p (.slice (some ⟨g, 0, none⟩) 9 cc) g b lim (k + 1)) := ⟨HPB.out.1, HPB.out.2, s, segs, own, S, E, ((HPz.out.below HB5.out).below hb6).next⟩
          clear hb6 HAp r0 r1 r2 r3 r4 r5
          have HTo : Hid _ := H6.out.told
          rw [← HL.out] at HTo
          rcases hrem with hr | hr
          · go_wp2_with fail
            refine Calls.mono HTo.out ?_
            rintro e w9 ⟨rfl, h9⟩
            have H9 : Hid (St5 w w9 p (.slice (some ⟨g, 0, none⟩) 9 cc) g b lim (k + 1)) := h9
            clear h9
            go_wp2
            refine And.intro ?_ ?_
            · exact ⟨k + 1, p, by rw [← HL.out], by go_num, by have := HK.out; omega, H9⟩
            · simp [intOf]; omega
          · go_wp2
            refine And.intro ?_ ?_
            · exact ⟨k + 1, p, by rw [← HL.out], by go_num, by have := HK.out; omega, H6⟩
            · simp [intOf]; omega
      have f1 : (xk == 1) = false := by simpa using k1
      by_cases k2 : xk = 2
      · subst k2
        have HSy : Hid _ := HU.out.sync
        rw [← HL.out] at HSy
        clear HU f1 k1
        go_wp2_with fail
        rw [← hu]
        clear hu
        refine Calls.mono HSy.out ?_
        rintro e w4 ⟨rfl, h4⟩
        have H4 : Hid (St5 w w4 p (.slice (some ⟨g, 0, none⟩) 9 cc) g b lim (k + 1)) := h4
        clear h4 HSy
        have HTo : Hid _ := H4.out.told
        rw [← HL.out] at HTo
        rcases hrem with hr | hr
        · go_wp2_with fail
          refine Calls.mono HTo.out ?_
          rintro e w9 ⟨rfl, h9⟩
          have H9 : Hid (St5 w w9 p (.slice (some ⟨g, 0, none⟩) 9 cc) g b lim (k + 1)) := h9
          clear h9
          go_wp2
          refine And.intro ?_ ?_
          · exact ⟨k + 1, p, by rw [← HL.out], by go_num, by have := HK.out; omega, H9⟩
          · simp [intOf]; omega
        · go_wp2
          refine And.intro ?_ ?_
          · exact ⟨k + 1, p, by rw [← HL.out], by go_num, by have := HK.out; omega, H4⟩
          · simp [intOf]; omega
      have f2 : (xk == 2) = false := by simpa using k2
      by_cases k3 : xk = 3
      · subst k3
        have HSz : Hid _ := HU.out.size
        have HCl : Hid _ := HU.out.clean HK.out.1
        rw [← HL.out] at HSz HCl
        clear HU f1 f2 k1 k2
        go_wp2_with fail
        rw [← hu]
        clear hu
        refine Calls.mono HSz.out ?_
        rintro e w4 ⟨n1, rfl, hw4⟩
        subst hw4
        go_wp2_with fail
        refine Calls.mono HCl.out ?_
        rintro e w5 ⟨rfl, m, d, hm, hd, h5⟩
        have HSz2 : Hid _ := h5.size
        have HNd : Hid _ := h5.need hd
        have H5 : Hid (St5 w w5 p (.slice (some ⟨g, 0, none⟩) 9 cc) g b lim (k + 1)) := h5.st
        rw [← HL.out] at HSz2
        obtain ⟨dd, hdd⟩ : ∃ dd : Nat, dd = 2 * d := ⟨_, rfl⟩
        obtain ⟨de, hde⟩ : ∃ de : Nat, de = 4096 + dd := ⟨_, rfl⟩
        have hw1 : IntKind.i64.wrap (2 * (d : Int)) = (dd : Int) := by rw [IntKind.wrap_i64]; omega
        have hw2 : IntKind.i64.wrap (4096 + (dd : Int)) = (de : Int) := by rw [IntKind.wrap_i64]; omega
        have hle : ¬ de < m := by omega
        clear h5 hm hd hdd hde HSz HCl
        go_wp2_with fail
        refine Calls.mono HSz2.out ?_
        rintro e w6 ⟨rfl, hw6⟩
        subst hw6
        by_cases hgt : n1 < m
        · skip
          go_wp2_with fail
          refine Calls.mono HSz2.out ?_
          rintro e w6 ⟨rfl, hw6⟩
          subst hw6
          go_wp2_with fail
          refine Calls.mono HNd.out ?_
          rintro e w7 ⟨rfl, h7⟩
          have H7 : Hid (St5 w w7 p (.slice (some ⟨g, 0, none⟩) 9 cc) g b lim (k + 1)) := h7.st
          clear h7 HNd HSz2
          have HTo : Hid _ := H7.out.told
          rw [← HL.out] at HTo
          rcases hrem with hr | hr
          · go_wp2_with fail
            refine Calls.mono HTo.out ?_
            rintro e w9 ⟨rfl, h9⟩
            have H9 : Hid (St5 w w9 p (.slice (some ⟨g, 0, none⟩) 9 cc) g b lim (k + 1)) := h9
            clear h9
            go_wp2
            refine And.intro ?_ ?_
            · exact ⟨k + 1, p, by rw [← HL.out], by go_num, by have := HK.out; omega, H9⟩
            · simp [intOf]; omega
          · go_wp2
            refine And.intro ?_ ?_
            · exact ⟨k + 1, p, by rw [← HL.out], by go_num, by have := HK.out; omega, H7⟩
            · simp [intOf]; omega
        · clear HNd HSz2
          have HTo : Hid _ := H5.out.told
          rw [← HL.out] at HTo
          rcases hrem with hr | hr
          · go_wp2_with fail
            refine Calls.mono HTo.out ?_
            rintro e w9 ⟨rfl, h9⟩
            have H9 : Hid (St5 w w9 p (.slice (some ⟨g, 0, none⟩) 9 cc) g b lim (k + 1)) := h9
            clear h9
            go_wp2
            refine And.intro ?_ ?_
            · exact ⟨k + 1, p, by rw [← HL.out], by go_num, by have := HK.out; omega, H9⟩
            · simp [intOf]; omega
          · go_wp2
            refine And.intro ?_ ?_
            · exact ⟨k + 1, p, by rw [← HL.out], by go_num, by have := HK.out; omega, H5⟩
            · simp [intOf]; omega
      have f3 : (xk == 3) = false := by simpa using k3
      by_cases k4 : xk = 4
      · subst k4
        have HRe : Hid _ := HU.out.reopen HK.out.1
        clear HU f1 f2 f3 k1 k2 k3
        go_wp2_with fail
        rw [← hu]
        clear hu
        refine Calls.mono HRe.out ?_
        rintro e w4 ⟨p2, rfl, h4⟩
        have H4 : Hid (St5 w w4 p2 (.slice (some ⟨g, 0, none⟩) 9 cc) g b lim (k + 1)) := h4
        obtain ⟨L2, hL2⟩ : ∃ L2, L2 = p2.L := ⟨_, rfl⟩
        have HL2 : Hid (L2 = p2.L) := hL2
        rw [← hL2]
        clear h4 HRe hL2
        have HTo : Hid _ := H4.out.told
        rw [← HL2.out] at HTo
        rcases hrem with hr | hr
        · go_wp2_with fail
          refine Calls.mono HTo.out ?_
          rintro e w9 ⟨rfl, h9⟩
          have H9 : Hid (St5 w w9 p2 (.slice (some ⟨g, 0, none⟩) 9 cc) g b lim (k + 1)) := h9
          clear h9
          go_wp2
          refine And.intro ?_ ?_
          · exact ⟨k + 1, p2, by rw [← HL2.out], by go_num, by have := HK.out; omega, H9⟩
          · simp [intOf]; omega
        · go_wp2
          refine And.intro ?_ ?_
          · exact ⟨k + 1, p2, by rw [← HL2.out], by go_num, by have := HK.out; omega, H4⟩
          · simp [intOf]; omega
      have f4 : (xk == 4) = false := by simpa using k4
      have H4 : Hid (St5 w u p (.slice (some ⟨g, 0, none⟩) 9 cc) g b lim (k + 1)) := HU.out.next
      clear HU k1 k2 k3 k4
      rw [hu] at H4
      clear hu
      have HTo : Hid _ := H4.out.told
      rw [← HL.out] at HTo
      rcases hrem with hr | hr
      · go_wp2_with fail
        refine Calls.mono HTo.out ?_
        rintro e w9 ⟨rfl, h9⟩
        have H9 : Hid (St5 w w9 p (.slice (some ⟨g, 0, none⟩) 9 cc) g b lim (k + 1)) := h9
        clear h9
        go_wp2
        refine And.intro ?_ ?_
        · exact ⟨k + 1, p, by rw [← HL.out], by go_num, by have := HK.out; omega, H9⟩
        · simp [intOf]; omega
      · go_wp2
        refine And.intro ?_ ?_
        · exact ⟨k + 1, p, by rw [← HL.out], by go_num, by have := HK.out; omega, H4⟩
        · simp [intOf]; omega
    · obtain rfl : k = n := by omega
      have HTo : Hid _ := HSt.out.told
      rw [← HL.out] at HTo
      clear HSt
      go_wp2_with fail
      refine Calls.mono HTo.out ?_
      rintro e w4 ⟨rfl, h4⟩
      have HB4 : Hid _ := h4.old
      clear h4
      go_wp2_with fail
      refine (HA.out _).mono ?_
      rintro e w5 ⟨rfl, hb5⟩
      have HB5 : Hid (Below w.heap.size w w5) := Below.trans HB4.out (hb5.mono (Below.size HB4.out))
      clear hb5
      go_wp2
      go_ret
      exact ⟨rfl, HB5.out⟩

theorem laidOut : laidOutB Try.prog = true := by kernel_rfl

theorem own : ownKnob Try.prog.godebug = none := by kernel_rfl

set_option maxRecDepth 100000 in
theorem lifted (os : Os) (started : os.Started) (H : Type) (enc : TypeId × Value → H) :
    ReturnsInHanded {} Try.checked os 3 .any (Rows.walPlaysSpec.pre6 enc Try.prog Try.f3 Rows.walPlaysRow.domain false) (Rows.walPlaysSpec.post enc Try.prog Try.f3 false true false false) := by
  refine returnsInHanded_of_change_sized (C := Try.checked) own started (by kernel_rfl) Try.func3
    (ChangeSpec.witness6 (enc := enc) (C := Try.checked) false ⟨#[], #[.int .i64 0, .slice none 0 0], []⟩ 8 (by kernel_rfl) (by kernel_rfl) (by kernel_rfl) (by kernel_rfl)) ?_
  intro W base args ds gs before hval0 hW _ hsz0 _
  have hsz : (DataW.weightsEach Try.prog (Try.f3.params.toList ++ Rows.walPlaysSpec.plain.varTypes Try.prog) (ds ++ gs)).all (· ≤ reachBytes) = true := hsz0
  have hval : ∀ (j : Nat) t v, Try.f3.params[j]? = some t → args[j]? = some v → Value.okWide Try.prog W .any base t v := hval0
  have hW' := hW
  obtain ⟨p, q, hA0, hV, rfl, hfz, hnd⟩ := hW
  have hA : DataW.TrodAll enc Try.prog W 0 (fun _ => true) true Try.f3.params.toList args.toList ds p := hA0
  rw [Try.params3] at hA hval hsz
  obtain ⟨v0, vs0, d0, ds0, p0, q0, hargs, rfl, rfl, h0, r0⟩ := trodAll_cons hA
  obtain ⟨v1, vs1, d1, ds1, p1, q1, rfl, rfl, rfl, h1, r1⟩ := trodAll_cons r0
  obtain ⟨rfl, rfl, rfl⟩ := trodAll_nil r1
  obtain rfl : args = #[v0, v1] := by cases args; simp_all
  obtain ⟨rfl, rfl⟩ := trodVars_none hV
  obtain ⟨a0, rfl, rfl, rfl, w0⟩ := open_int Try.underlying3 (hval 0 3 v0 rfl rfl) h0
  have b0 : -9223372036854775808 ≤ a0 ∧ a0 ≤ 9223372036854775807 := by simpa [Lit.wf, IntKind.min, IntKind.max, IntKind.signed, IntKind.bits] using w0
  have k1 := h1
  have lt1 : ∀ x ∈ p1, x.block < W.heap.size := by obtain ⟨m, hm⟩ := k1; exact DataW.trod_lt m _ _ _ hm
  obtain ⟨a1, b1⟩ := open_ops5 (hval 1 22 v1 rfl rfl) h1
  clear hA0 hval0 hsz0
  refine (walk a0 v1 a1 W b0 b1).mono fun e W' ⟨he, bel⟩ => ?_
  subst he
  exact ⟨_, rfl, _, _, _, [], _, [], hW', trodAll_mk1 (shut_bool Try.underlying4 _), (trodAll_cons_mk (shut_int Try.underlying3 w0) (trodAll_cons_mk (Below.trod laidOut (by kernel_rfl) (of_decide_eq_true (by kernel_rfl)) k1 bel lt1) trodAll_mk0)), rfl, bel.frame _, fun h => by cases h⟩

theorem over : Rows.walPlaysRow.holds Try.pinned (OpenSpec.ofChange Rows.walPlaysSpec) :=
  OpenClaim.holds_of_wide 3 Try.f3 rfl rfl rfl rfl rfl rfl rfl ⟨rfl, rfl, rfl, rfl, rfl⟩ rfl rfl rfl rfl rfl (by kernel_rfl) Try.func3 (by kernel_rfl)
    (of_decide_eq_true (by kernel_rfl)) (by unfold Func.isWrapper; first | (rw [if_pos (by decide +kernel)]; kernel_rfl) | (rw [if_neg (by decide +kernel)]; exact ⟨rfl, rfl⟩))
    (fun os started H enc _ => lifted os started H enc)


end Go.Proofs.Ytpfnkjfbhcffiaa.walPlays
namespace Go.Proofs.Ytpfnkjfbhcffiaa
/-- The statement. -/
theorem walPlays_holds : Rows.WalPlaysSaid := walPlays.over
end Go.Proofs.Ytpfnkjfbhcffiaa
