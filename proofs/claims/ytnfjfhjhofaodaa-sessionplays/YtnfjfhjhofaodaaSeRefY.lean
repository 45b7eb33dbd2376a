/-
  The document's table: Put, where it puts.
-/
import Derived.Test.YtnfjfhjhofaodaaSeRefP
namespace Go.Proofs.Ytnfjfhjhofaodaa
open Go.RowKit

section
variable {w : World} {t : List Row}

set_option maxHeartbeats 4000000 in
set_option maxRecDepth 20000 in
theorem rPut_yes {v : Value} (h : RT w v t) (a b : Int) (r : Mo.Re) {pv : Value} (hp : PoR w pv r.posts) (hm : Se.may a b = true) (hl : r.posts.length ≤ 64) (hk : (Se.get (bare t) a = none ∧ (∀ p ∈ t, p.1 ≠ a) ∧ t.length < 64) ∨ ∃ (m : Nat) (l : Se.Ls) (pv0 : Value), t[m]? = some (a, l, pv0) ∧ (∀ (j : Nat), j < m → ∀ p : Row, t[j]? = some p → p.1 ≠ a) ∧ l.seq < b) : Calls Try.prog 14 #[v, .agg #[.int .i64 a, .int .i64 b], .agg #[.int .i64 r.err, .int .i64 r.at_, pv]] w (RPo w t a b r) := by
  obtain ⟨vi, vr, hv, hri, hrr⟩ := h.val
  subst hv
  obtain ⟨pi, ci, hvi, hci1, hci2⟩ := hri.form
  obtain ⟨pr, cr, hvr, hcr1, hcr2⟩ := hrr.form
  subst hvi hvr
  obtain ⟨pq, cq, hpq, _⟩ := hp.form
  subst hpq
  obtain ⟨u, hu⟩ : ∃ u, u = (((w.alloc (.cells #[.slice pi t.length ci, .slice pr t.length cr] 43)).alloc (.cells #[.int .i64 a, .int .i64 b] 27)).alloc (.cells #[.int .i64 r.err, .int .i64 r.at_, .slice pq r.posts.length cq] 31)).alloc (.cells #[.slice none 0 0, .slice none 0 0] 43) := ⟨_, rfl⟩
  have hF := Hx.of w (.slice pi t.length ci) (.slice pr t.length cr) a b r.err r.at_ (.slice pq r.posts.length cq) rfl rfl rfl hu
  have HY := rMay_c a b u
  rw [hm] at HY
  have HY : Hid _ := HY
  have HR : Hid _ := hF.re
  have HI : Hid _ := hF.id
  have HTb : Hid _ := hF.tb
  have HRp : Hid _ := hF.rp
  obtain ⟨bt, hbt⟩ : ∃ bt, bt = w.heap.size := ⟨_, rfl⟩
  obtain ⟨bx, hbx⟩ : ∃ bx, bx = w.heap.size + 1 := ⟨_, rfl⟩
  obtain ⟨bq, hbq⟩ : ∃ bq, bq = w.heap.size + 1 + 1 := ⟨_, rfl⟩
  obtain ⟨br, hbr⟩ : ∃ br, br = w.heap.size + 1 + 1 + 1 := ⟨_, rfl⟩
  rw [← hbr] at HR
  rw [← hbq] at HRp
  rw [← hbx] at HI
  rw [← hbt] at HTb
  have HE : Hid (Below w.heap.size w u ∧ w.heap.size ≤ br ∧ br < u.heap.size) := ⟨hF.below, by omega, by rw [hF.size]; omega⟩
  have hpe : Se.putE (bare t) a b r = 0 := by
    rcases hk with ⟨h1, _, h2⟩ | ⟨m, l, pv0, h1, _, h2⟩
    · simp [Se.putE, hm, Nat.not_lt.2 hl, h1, bare_len, Nat.not_le.2 h2]
    · simp [Se.putE, hm, Nat.not_lt.2 hl, bare_at h.rise h1, Int.not_le.2 h2]
  obtain ⟨kv, HKv, HP⟩ : ∃ kv : Int, Hid ((kv = -1 ∧ t.length < 64) ∨ ∃ (m : Nat) (q : Int) (gi oi : Nat), kv = (m : Int) ∧ m < t.length ∧ q < b ∧ pi = some ⟨gi, oi, none⟩ ∧ ∀ X, Below u.heap.size u X → X.cell? ⟨gi, oi + m * 2 + 1, none⟩ = some (.int .i64 q)) ∧ Hid (∀ X, Below u.heap.size u X → Calls Try.prog 29 #[.agg #[.slice pi t.length ci, .slice pr t.length cr], .int .i64 a] X fun e w' => e = .returned (.int .i64 kv) ∧ Below X.heap.size X w') := by
    rcases hk with ⟨_, h1, h2⟩ | ⟨m, l, pv0, h1, h2, h3⟩
    · refine ⟨-1, .inl ⟨rfl, h2⟩, fun X hX => ?_⟩
      have hX' := hF.below.trans (hX.mono hF.below.size)
      exact place_no (hri.below hX') (hrr.below hX') a h1
    · have hml := (List.getElem?_eq_some_iff.1 h1).1
      obtain ⟨gi, oi, hpi, hci⟩ := RT.idAt hri hml
      refine ⟨m, .inr ⟨m, l.seq, gi, oi, rfl, hml, h3, hpi, fun X hX => (hci X (hF.below.trans (hX.mono hF.below.size)) _ h1).2⟩, fun X hX => ?_⟩
      have hX' := hF.below.trans (hX.mono hF.below.size)
      exact place_yes (hri.below hX') (hrr.below hX') a h1 h2
  have HEl : Hid (∀ i, i < t.length → ∃ (k sq er at' : Int) (pp : Option Addr) (np' cp gi oi gr orr : Nat) (z : Se.Ls × Value), t[i]? = some (k, z) ∧ z.1.seq = sq ∧ z.1.re.err = er ∧ z.1.re.at_ = at' ∧ z.2 = .slice pp np' cp ∧ pi = some ⟨gi, oi, none⟩ ∧ pr = some ⟨gr, orr, none⟩ ∧ ∀ X, Below u.heap.size u X → X.cell? ⟨gi, oi + i * 2, none⟩ = some (.int .i64 k) ∧ X.cell? ⟨gi, oi + i * 2 + 1, none⟩ = some (.int .i64 sq) ∧ X.cell? ⟨gr, orr + i * 3, none⟩ = some (.int .i64 er) ∧ X.cell? ⟨gr, orr + i * 3 + 1, none⟩ = some (.int .i64 at') ∧ X.cell? ⟨gr, orr + i * 3 + 2, none⟩ = some (.slice pp np' cp)) := fun i hi => by
    obtain ⟨gi, oi, hpi, hci⟩ := RT.idAt hri hi
    obtain ⟨gr, orr, hpr, hcr⟩ := RT.reAt hrr hi
    have hti : t[i]? = some t[i] := List.getElem?_eq_getElem hi
    obtain ⟨pp, cp, hpp, _⟩ := (h.posts t[i] (List.getElem_mem hi)).form
    refine ⟨t[i].1, _, _, _, pp, _, cp, gi, oi, gr, orr, t[i].2, hti, rfl, rfl, rfl, hpp, hpi, hpr, fun X hX => ?_⟩
    have hX' := hF.below.trans (hX.mono hF.below.size)
    rw [← hpp]
    exact ⟨(hci X hX' _ hti).1, (hci X hX' _ hti).2, hcr X hX' _ hti⟩
  have HQ : Hid (∀ (W X : World) (bn : Nat) (vo ve : Value) (o : List Row), Below u.heap.size u W → Bw W bn o o vo ve X → o = Se.ins a (⟨b, r⟩, .slice pq r.posts.length cq) t → RPo w t a b r (.returned (.tuple #[.agg #[vo, ve], .int .i64 0])) (fin2 X br vo ve)) := fun W X bn vo ve o hW hB ho => by
    have hWw : Below w.heap.size w W := hF.below.trans (hW.mono hF.below.size)
    have hXw : Below w.heap.size w X := hWw.trans (hB.old.mono hWw.size)
    have hfw : Below w.heap.size w (fin2 X br vo ve) := fin2_below hXw (by omega) _ _
    have hbrW : br < W.heap.size := Nat.lt_of_lt_of_le (by rw [hF.size]; omega) hW.size
    have hle := Se.put_len (a := a) (b := b) (r := r) (bare_rise h.rise) (by rw [bare_len]; exact h.len)
    unfold Se.put at hle
    rw [if_pos hpe, ← bare_ins a ⟨b, r⟩ (.slice pq r.posts.length cq), bare_len, ← ho] at hle
    refine ⟨vo, ve, o, by rw [hpe], ⟨⟨vo, ve, rfl, Rd.ofRow (hB.ro.carry (fun q hq => fin2_other (by have := (hB.no q hq).1; omega) _ _)), Rd.ofRow (hB.re.carry (fun q hq => fin2_other (by have := (hB.ne q hq).1; omega) _ _))⟩, fun p hp' => ?_, by rw [ho]; exact Se.ins_rise h.rise, hle⟩, by unfold Se.put; rw [if_pos hpe, ho, bare_ins], hfw⟩
    rw [ho] at hp'
    rcases Se.ins_mem hp' with e | e
    · rw [e]
      exact hp.below hfw
    · exact (h.posts p e).below hfw
  have HIns : Hid (∀ s : List Row × Bool, t.foldl (st a (⟨b, r⟩, .slice pq r.posts.length cq)) ([], false) = s → fin a (⟨b, r⟩, .slice pq r.posts.length cq) s = Se.ins a (⟨b, r⟩, .slice pq r.posts.length cq) t) := fun s hs => by
    have := st_all (x := a) (n := (⟨b, r⟩, .slice pq r.posts.length cq)) t [] h.rise
    rw [hs] at this
    simpa using this
  have HSl : Hid (∀ i, ((t.take i).foldl (st a (⟨b, r⟩, .slice pq r.posts.length cq)) ([], false)).1.length ≤ 128) := fun i => by
    have := st_len (x := a) (n := (⟨b, r⟩, .slice pq r.posts.length cq)) (t.take i) ([], false)
    have h64 := h.len
    have h2 : (t.take i).length ≤ t.length := by rw [List.length_take]; omega
    show _ ≤ _
    simp at this h2
    omega
  have HTake : Hid (∀ i p, t[i]? = some p → t.take (i + 1) = t.take i ++ [p]) := fun i p hp' => by
    rw [List.take_add_one, hp']
    rfl
  have HN0 : Hid (t.take t.length = t) := List.take_length
  obtain ⟨nn, hnn⟩ : ∃ nn : Se.Ls × Value, nn = (⟨b, r⟩, .slice pq r.posts.length cq) := ⟨_, rfl⟩
  rw [← hnn] at HIns HSl HQ
  have HNn : Hid (nn.1.seq = b ∧ nn.1.re.err = r.err ∧ nn.1.re.at_ = r.at_ ∧ nn.2 = .slice pq r.posts.length cq) := by rw [hnn]; exact ⟨rfl, rfl, rfl, rfl⟩
  have hlm : t.length ≤ 9223372036854775807 := by unfold maxLen at hci2; omega
  generalize RPo w t a b r = Q at HQ ⊢
  generalize r.err = re at *
  generalize r.at_ = rt at *
  generalize r.posts.length = np at *
  generalize t.length = n at *
  have hl1 : ¬ (np : Int) > 64 := by omega
  clear h hF hm hri hrr hci1 hcr1 hp hl hk hpe hnn hci2 hcr2
  go_enter Try.func14, Try.ntmps14
  go_wp2_with fail
  rw [← hu]
  rw [← hbr, ← hbq, ← hbx, ← hbt]
  clear hu hbx hbr hbt hbq
  refine Calls.mono HY.out ?_
  rintro e w2 ⟨rfl, hb⟩
  have HB : Hid (Below u.heap.size u w2) := hb
  obtain ⟨x0, x1, f0, f1⟩ := HR.out _ hb
  obtain ⟨i0, i1⟩ := HI.out _ hb
  obtain ⟨t0, t1⟩ := HTb.out _ hb
  obtain ⟨r0, r1, r2⟩ := HRp.out _ hb
  clear hb
  go_wp2_with fail
  refine (HP.out _ HB.out).mono ?_
  rintro e w3 ⟨rfl, hb⟩
  have HB3 : Hid (Below u.heap.size u w3) := HB.out.trans (hb.mono HB.out.size)
  clear x0 x1 f0 f1 i0 i1 t0 t1 r0 r1 r2
  obtain ⟨i0, i1⟩ := HI.out _ HB3.out
  obtain ⟨t0, t1⟩ := HTb.out _ HB3.out
  clear hb
  go_upto_region 4 with fail
  go_cut [38] from 26 to 47 (fun x wx => x = .bool false ∧ Hid (Below u.heap.size u wx))
  case first =>
    rcases HKv.out with ⟨h1, h2⟩ | ⟨m, q, gi, oi, h1, h2, h3, h4, h5⟩
    · subst h1
      go_region
      go_wp2
      go_meet
      exact ⟨rfl, HB3.out.drew⟩
    · subst h1 h4
      have c0 := h5 _ HB3.out
      have hm0 : (0 : Int) ≤ (m : Int) := by omega
      have hm1 : (m : Int) < (n : Int) := by omega
      have hme : decide ((m : Int) ≥ 0) = true := decide_eq_true hm0
      have hqb : ¬ q ≥ b := by omega
      clear h5
      go_region
      go_wp2
      go_meet
      exact ⟨rfl, HB3.out.drew⟩
  case rest =>
    obtain ⟨rfl, HB4⟩ := hcut
    clear i0 i1 t0 t1
    obtain ⟨i0, i1⟩ := HI.out _ HB4.out
    obtain ⟨t0, t1⟩ := HTb.out _ HB4.out
    go_upto_region 6 with fail
    go_cut [47] from 26 to 49 (fun x wx => x = .bool false ∧ Hid (Below u.heap.size u wx))
    case first =>
      rcases HKv.out with ⟨h1, h2⟩ | ⟨m, q, gi, oi, h1, h2, h3, h4, h5⟩
      · subst h1
        have hn1 : ¬ (n : Int) ≥ 64 := by omega
        go_wp2
        go_meet
        exact ⟨rfl, HB4⟩
      · subst h1 h4
        have hmd : decide ((m : Int) < 0) = false := decide_eq_false (by omega)
        clear h5
        go_wp2
        go_meet
        exact ⟨rfl, HB4⟩
    case rest =>
      obtain ⟨rfl, HUW⟩ := hcut
      obtain ⟨W, rfl⟩ : ∃ W, W = wc := ⟨_, rfl⟩
      clear i0 i1 t0 t1
      obtain ⟨X0, hX0⟩ : ∃ X0, X0 = W.alloc (.cells #[.slice none 0 0, .slice none 0 0] 43) := ⟨_, rfl⟩
      obtain ⟨bn, hbn⟩ : ∃ bn, bn = W.heap.size := ⟨_, rfl⟩
      have HB0 : Hid (Bw W bn [] [] (.slice none 0 0) (.slice none 0 0) X0) := by rw [hX0, hbn]; exact Bw.begin W
      go_wp2
      rw [← hX0, ← hbn]
      clear hX0 hbn
      go_loopw [10, 11] (fun dv iv wr => ∃ (i : Nat) (o : List Row) (d : Bool) (vo ve : Value), dv = .bool d ∧ iv = .int .i64 (i : Int) ∧ i ≤ n ∧ (t.take i).foldl (st a nn) ([], false) = (o, d) ∧ Hid (Bw W bn o o vo ve wr)) (fun _ iv _ => n - (intOf iv).toNat)
      case atStart => exact ⟨0, [], false, _, _, rfl, rfl, Nat.zero_le _, rfl, HB0⟩
      case round =>
        clear HB0
        obtain ⟨i, o, d, vo, ve, rfl, rfl, hin, hfo, HBw⟩ := hrel
        have HFo : Hid ((t.take i).foldl (st a nn) ([], false) = (o, d)) := hfo
        have HLen : Hid (o.length ≤ 128) := by have q := HSl.out i; rw [hfo] at q; exact q
        clear hfo
        have HU : Hid (Below u.heap.size u wr) := HUW.out.trans (HBw.out.old.mono HUW.out.size)
        have idN : idC (a, nn) = [.int .i64 a, .int .i64 b] := by unfold idC; dsimp only; rw [HNn.out.1]
        have reN : reC (a, nn) = [.int .i64 re, .int .i64 rt, .slice pq np cq] := by unfold reC; dsimp only; rw [HNn.out.2.1, HNn.out.2.2.1, HNn.out.2.2.2]
        have HidN : Hid (idC (a, nn) = [.int .i64 a, .int .i64 b] ∧ reC (a, nn) = [.int .i64 re, .int .i64 rt, .slice pq np cq]) := ⟨idN, reN⟩
        clear idN reN
        obtain ⟨t0, t1⟩ := HTb.out _ HU.out
        by_cases hlt : i < n
        · obtain ⟨k, sq, er, at', pp, np', cp, gi, oi, gr, orr, z, hti, hzs, hze, hza, hz2, hpi, hpr, hcell⟩ := HEl.out i hlt
          subst hpi hpr
          have HZ : Hid (t[i]? = some (k, z) ∧ z.1.seq = sq ∧ z.1.re.err = er ∧ z.1.re.at_ = at' ∧ z.2 = .slice pp np' cp) := ⟨hti, hzs, hze, hza, hz2⟩
          have HCl : Hid (∀ X, Below u.heap.size u X → X.cell? ⟨gi, oi + i * 2, none⟩ = some (.int .i64 k) ∧ X.cell? ⟨gi, oi + i * 2 + 1, none⟩ = some (.int .i64 sq) ∧ X.cell? ⟨gr, orr + i * 3, none⟩ = some (.int .i64 er) ∧ X.cell? ⟨gr, orr + i * 3 + 1, none⟩ = some (.int .i64 at') ∧ X.cell? ⟨gr, orr + i * 3 + 2, none⟩ = some (.slice pp np' cp)) := hcell
          obtain ⟨i0, i1⟩ := HI.out _ HU.out
          obtain ⟨k0, k1, k2, k3, k4⟩ := hcell _ HU.out
          have hi0 : (0 : Int) ≤ (i : Int) := by omega
          have hi1 : (i : Int) < (n : Int) := by omega
          clear hti hzs hze hza hz2 hcell
          go_upto_region 13 with fail
          go_cut [76] from 50 to 117 (fun x wx => x = .bool (!d && decide (a ≤ k)) ∧ Hid (Bw W bn o o vo ve wx))
          case first =>
            have HBd : Hid (Bw W bn o o vo ve wr.drew) := HBw.out.below (Below.refl _ _).drew
            cases d with
            | true =>
              go_region
              go_wp2
              go_meet
              exact ⟨rfl, HBd⟩
            | false =>
              go_region
              go_wp2
              go_meet
              exact ⟨rfl, HBd⟩
          case rest =>
            obtain ⟨rfl, HBc⟩ := hcut
            clear i0 i1 t0 t1 k0 k1 k2 k3 k4
            go_upto_if 76 with fail
            go_cut [10] from 50 to 117 (fun x wx => ∃ (o1 : List Row) (d1 : Bool) (vo1 ve1 : Value), x = .bool d1 ∧ stA a nn (o, d) k = (o1, d1) ∧ Hid (Bw W bn o1 o1 vo1 ve1 wx))
            case first =>
              cases hcA' : (!d && decide (a ≤ k)) with
              | true =>
                have hcA : a ≤ k := by simp at hcA'; exact hcA'.2
                have hd : d = false := by simp at hcA'; exact hcA'.1
                subst hd
                have HcA : Hid (a ≤ k) := hcA
                clear hcA hcA'
                obtain ⟨po, co, pe, ce, hvo, hve⟩ := HBc.out.shapes
                subst hvo hve
                obtain ⟨i0, i1⟩ := HI.out _ (HUW.out.trans (HBc.out.old.mono HUW.out.size))
                have b0 := HBc.out.c0
                obtain ⟨Z, hZ⟩ : ∃ Z, Z = wc.alloc (.cells #[.int .i64 a, .int .i64 b] 27) := ⟨_, rfl⟩
                have hBZ : Bw W bn o o (.slice po o.length co) (.slice pe o.length ce) Z := HBc.out.below (by rw [hZ]; exact below_alloc _ _)
                have HBZ : Hid (Bw W bn o o (.slice po o.length co) (.slice pe o.length ce) Z) := hBZ
                have HRow : Hid (RowC Z 2 (.slice po o.length co) o.length (o.flatMap idC)) := hBZ.ro
                have HSrc : Hid (Src Try.prog 2 22 (.slice (some ⟨wc.heap.size, 0, none⟩) 1 1) 1 [.int .i64 a, .int .i64 b] Z) := by
                  rw [hZ]
                  have q := src_id wc (a, nn)
                  dsimp only at q
                  rw [HNn.out.1, HidN.out.1] at q
                  exact q
                have HL : Hid ((o.length + 1) * 16 ≤ 140737488355328 ∧ o.length + 1 ≤ maxLen ∧ (o.length + 1) * 40 ≤ 140737488355328) := by have := HLen.out; unfold maxLen; exact ⟨by omega, by omega, by omega⟩
                have HZs : Hid (Z.heap.size = wc.heap.size + 1) := by rw [hZ]; show _ = _; simp
                have HZe : Hid (Z = wc.alloc (.cells #[.int .i64 a, .int .i64 b] 27)) := hZ
                clear hBZ hZ
                go_wp2_with (at_builtin; rw [← HZe.out]; refine wpList_append_rowC rfl (.tmp 78) (.tmp 80) 22 22 27 rfl Try.underlying22 _ 2 16 infoId rfl (.slice po o.length co) o.length (o.flatMap idC) rfl HRow.out _ 1 _ rfl HSrc.out HL.out.1 HL.out.2.1 ?qnext)
                case qnext =>
                  intro v' Y a1 a2 a3
                  obtain ⟨p1, c3, hv', _⟩ := a1.form
                  subst hv'
                  obtain ⟨y0, y1, yf0, yf1, hol, hB2⟩ := HBZ.out.putO (a, nn) (by rw [HidN.out.1]; exact a1) a2 a3
                  obtain ⟨Y1, hY1⟩ : ∃ Y1, Y1 = Y.setCell ⟨bn, 0, none⟩ (.slice p1 (o.length + 1) c3) := ⟨_, rfl⟩
                  rw [← hY1] at hB2
                  have HB2 : Hid (Bw W bn (o ++ [(a, nn)]) o (.slice p1 (o.length + 1) c3) (.slice pe o.length ce) Y1) := hB2
                  have HY1 : Hid (Y1 = Y.setCell ⟨bn, 0, none⟩ (.slice p1 (o.length + 1) c3)) := hY1
                  clear a1 a2 a3 HZe HBZ HRow b0 i0 i1 hol hY1 hB2
                  go_upto_region 15 with fail
                  rw [← HY1.out]
                  clear HY1 y0 y1 yf0 yf1
                  obtain ⟨r0, r1, r2⟩ := HRp.out _ (HUW.out.trans (HB2.out.old.mono HUW.out.size))
                  have x1 := HB2.out.c1
                  obtain ⟨Z2, hZ2⟩ : ∃ Z2, Z2 = Y1.alloc (.cells #[.int .i64 re, .int .i64 rt, .slice pq np cq] 31) := ⟨_, rfl⟩
                  have hBZ2 : Bw W bn (o ++ [(a, nn)]) o (.slice p1 (o.length + 1) c3) (.slice pe o.length ce) Z2 := HB2.out.below (by rw [hZ2]; exact below_alloc _ _)
                  have HBZ2 : Hid (Bw W bn (o ++ [(a, nn)]) o (.slice p1 (o.length + 1) c3) (.slice pe o.length ce) Z2) := hBZ2
                  have HRow2 : Hid (RowC Z2 3 (.slice pe o.length ce) o.length (o.flatMap reC)) := hBZ2.re
                  have HSrc2 : Hid (Src Try.prog 3 41 (.slice (some ⟨Y1.heap.size, 0, none⟩) 1 1) 1 [.int .i64 re, .int .i64 rt, .slice pq np cq] Z2) := by
                    rw [hZ2]
                    have q := src_re Y1 (a, nn) HNn.out.2.2.2
                    dsimp only at q
                    rw [HNn.out.2.1, HNn.out.2.2.1, HNn.out.2.2.2, HidN.out.2] at q
                    exact q
                  have HZ2 : Hid (Z2 = Y1.alloc (.cells #[.int .i64 re, .int .i64 rt, .slice pq np cq] 31)) := hZ2
                  clear hBZ2 hZ2 HB2
                  go_wp2_with (at_builtin; rw [← HZ2.out]; refine wpList_append_rowC rfl (.tmp 84) (.tmp 86) 41 41 31 rfl Try.underlying41 _ 3 40 infoRe rfl (.slice pe o.length ce) o.length (o.flatMap reC) rfl HRow2.out _ 1 _ rfl HSrc2.out HL.out.2.2 HL.out.2.1 ?qnext2)
                  case qnext2 =>
                    intro v2 Y2 a1 a2 a3
                    obtain ⟨p2, c4, hv2, _⟩ := a1.form
                    subst hv2
                    obtain ⟨q0, q1, qf0, qf1, hol, hB3⟩ := HBZ2.out.putE (a, nn) (by rw [HidN.out.2]; exact a1) a2 a3
                    have HB3' : Hid (Bw W bn (o ++ [(a, nn)]) (o ++ [(a, nn)]) (.slice p1 (o.length + 1) c3) (.slice p2 (o.length + 1) c4) (Y2.setCell ⟨bn, 1, none⟩ (.slice p2 (o.length + 1) c4))) := hB3
                    clear a1 a2 a3 hol HZ2 HBZ2 HRow2 r0 r1 r2 x1
                    clear hB3
                    go_wp2
                    go_meet
                    exact ⟨_, _, _, _, rfl, by unfold stA; rw [if_pos ⟨rfl, HcA.out⟩], HB3'⟩
              | false =>
                have HsA : Hid (stA a nn (o, d) k = (o, d)) := by
                  show _ = _
                  unfold stA
                  refine if_neg (fun h' => ?_)
                  have h1 : d = false := h'.1
                  have h2 : a ≤ k := h'.2
                  simp [h1, h2] at hcA'
                clear hcA'
                go_wp2
                go_meet
                exact ⟨o, d, vo, ve, rfl, HsA.out, HBc⟩
            case rest =>
              obtain ⟨o1, d1, vo1, ve1, rfl, hsA, HBd⟩ := hcut
              have HLen1 : Hid (o1.length ≤ 129) := by
                have q := HLen.out
                unfold stA at hsA
                split at hsA
                · have e : o ++ [(a, nn)] = o1 := congrArg Prod.fst hsA
                  rw [← e]
                  show _ ≤ _
                  simp
                  omega
                · have e : o = o1 := congrArg Prod.fst hsA
                  rw [← e]
                  show _ ≤ _
                  omega
              have HSA : Hid (stA a nn (o, d) k = (o1, d1)) := hsA
              clear hsA HLen
              have HUc : Hid (Below u.heap.size u wc) := HUW.out.trans (HBd.out.old.mono HUW.out.size)
              have HFo1 : Hid ((t.take (i + 1)).foldl (st a nn) ([], false) = (stB a o1 (k, z), d1)) := by
                show _ = _
                rw [HTake.out i _ HZ.out.1, List.foldl_append, HFo.out]
                show st a nn (o, d) (k, z) = _
                unfold st
                dsimp only
                rw [HSA.out]
              obtain ⟨i0, i1⟩ := HI.out _ HUc.out
              obtain ⟨t0, t1⟩ := HTb.out _ HUc.out
              obtain ⟨k0, k1, k2, k3, k4⟩ := HCl.out _ HUc.out
              by_cases hka : k = a
              · have HSt : Hid (stB a o1 (k, z) = o1) := by show _ = _; unfold stB; rw [if_pos hka]
                have hkb : (k == a) = true := by simpa using hka
                have HBd' : Hid (Bw W bn o1 o1 vo1 ve1 wc.drew) := HBd.out.below (Below.refl _ _).drew
                clear hka
                go_upto_region 17 with fail
                go_region
                go_wp2
                go_roundw
                case rel => exact ⟨i + 1, o1, d1, vo1, ve1, rfl, by go_num, by omega, by rw [HFo1.out, HSt.out], HBd'⟩
                case measure => simp [intOf]; omega
              · have HSt : Hid (stB a o1 (k, z) = o1 ++ [(k, z)]) := by show _ = _; unfold stB; rw [if_neg hka]
                have hkb : (k == a) = false := by simpa using hka
                have HBd' : Hid (Bw W bn o1 o1 vo1 ve1 wc.drew) := HBd.out.below (Below.refl _ _).drew
                clear hka
                go_upto_region 17 with fail
                go_region
                go_upto_region 18 with fail
                obtain ⟨wd, hwd⟩ : ∃ wd, wd = wc.drew := ⟨_, rfl⟩
                rw [← hwd] at HBd' ⊢
                clear hwd i0 i1 t0 t1 k0 k1 k2 k3 k4
                obtain ⟨po, co, pe, ce, hvo, hve⟩ := HBd'.out.shapes
                subst hvo hve
                have HSS : Hid (∀ X, Below W.heap.size W X → X.cell? ⟨bt, 0, none⟩ = some (.slice (some ⟨gi, oi, none⟩) n ci) ∧ X.cell? ⟨gi, oi + i * 2, none⟩ = some (.int .i64 k) ∧ X.cell? ⟨gi, oi + i * 2 + 1, none⟩ = some (.int .i64 sq)) := fun X hX => by
                  have hX' := HUW.out.trans (hX.mono HUW.out.size)
                  exact ⟨(HTb.out _ hX').1, (HCl.out _ hX').1, (HCl.out _ hX').2.1⟩
                have HSE : Hid (∀ X, Below W.heap.size W X → X.cell? ⟨bt, 1, none⟩ = some (.slice (some ⟨gr, orr, none⟩) n cr) ∧ X.cell? ⟨gr, orr + i * 3, none⟩ = some (.int .i64 er) ∧ X.cell? ⟨gr, orr + i * 3 + 1, none⟩ = some (.int .i64 at') ∧ X.cell? ⟨gr, orr + i * 3 + 2, none⟩ = some (.slice pp np' cp)) := fun X hX => by
                  have hX' := HUW.out.trans (hX.mono HUW.out.size)
                  exact ⟨(HTb.out _ hX').2, (HCl.out _ hX').2.2⟩
                have HidE : Hid (idC (k, z) = [.int .i64 k, .int .i64 sq] ∧ reC (k, z) = [.int .i64 er, .int .i64 at', .slice pp np' cp]) := by
                  refine ⟨?_, ?_⟩
                  · unfold idC; dsimp only; rw [HZ.out.2.1]
                  · unfold reC; dsimp only; rw [HZ.out.2.2.1, HZ.out.2.2.2.1, HZ.out.2.2.2.2]
                go_cut [11] from 50 to 117 (fun x wx => x = .int .i64 (i : Int) ∧ ∃ vo2, Hid (Bw W bn (o1 ++ [(k, z)]) o1 vo2 (.slice pe o1.length ce) wx))
                case first =>
                  have hS0 := HSS.out wd.drew (HBd'.out.below (Below.refl _ _).drew).old
                  refine wp_region_held_drew (S := fun X => X.cell? ⟨bt, 0, none⟩ = some (.slice (some ⟨gi, oi, none⟩) n ci) ∧ X.cell? ⟨gi, oi + i * 2, none⟩ = some (.int .i64 k) ∧ X.cell? ⟨gi, oi + i * 2 + 1, none⟩ = some (.int .i64 sq)) (by kernel_rfl) hS0 (fun hHeld => ?_)
                  clear hS0
                  refine take7 (i := 0) (d := 98) (v := .pointer (some ⟨bn, 0, none⟩)) rfl rfl (by kernel_rfl) (by kernel_rfl) (by kernel_rfl) (fun _ _ _ h => h) (Or.inl ⟨by rfl, ?_⟩) (by assumption) ?_
                  · intro X hSw
                    go_simp
                  simp only [Act.put, List.setIfInBounds_toArray, List.set_cons_zero, List.set_cons_succ]
                  refine take7 (i := 2) (d := 100) (v := .pointer (some ⟨bt, 0, none⟩)) rfl rfl (by kernel_rfl) (by kernel_rfl) (by kernel_rfl) (fun _ _ _ h => h) (Or.inl ⟨by rfl, ?_⟩) (by assumption) ?_
                  · intro X hSw
                    go_simp
                  simp only [Act.put, List.setIfInBounds_toArray, List.set_cons_zero, List.set_cons_succ]
                  refine take7 (i := 3) (d := 101) (v := .slice (some ⟨gi, oi, none⟩) n ci) rfl rfl (by kernel_rfl) (by kernel_rfl) (by kernel_rfl) (fun _ _ _ h => h) (Or.inl ⟨by rfl, ?_⟩) (by assumption) ?_
                  · intro X hSw
                    go_simp
                  simp only [Act.put, List.setIfInBounds_toArray, List.set_cons_zero, List.set_cons_succ]
                  refine take7 (i := 4) (d := 102) (v := .int .i64 (i : Int)) rfl rfl (by kernel_rfl) (by kernel_rfl) (by kernel_rfl) (fun _ _ _ h => h) (Or.inl ⟨by rfl, ?_⟩) (by assumption) ?_
                  · intro X hSw
                    go_simp
                  simp only [Act.put, List.setIfInBounds_toArray, List.set_cons_zero, List.set_cons_succ]
                  refine take7 (i := 5) (d := 103) (v := .pointer (some ⟨gi, oi + i * 2, none⟩)) rfl rfl (by kernel_rfl) (by kernel_rfl) (by kernel_rfl) (fun _ _ _ h => h) (Or.inl ⟨by rfl, ?_⟩) (by assumption) ?_
                  · intro X hSw
                    go_simp
                  simp only [Act.put, List.setIfInBounds_toArray, List.set_cons_zero, List.set_cons_succ]
                  refine take7 (i := 6) (d := 104) (v := .agg #[.int .i64 k, .int .i64 sq]) rfl rfl (by kernel_rfl) (by kernel_rfl) (by kernel_rfl) (fun _ _ _ h => h) (Or.inl ⟨by rfl, ?_⟩) (by assumption) ?_
                  · intro X hSw
                    go_simp
                  simp only [Act.put, List.setIfInBounds_toArray, List.set_cons_zero, List.set_cons_succ]
                  obtain ⟨X1, hX1⟩ : ∃ X1, X1 = wd.drew := ⟨_, rfl⟩
                  have hBX : Bw W bn o1 o1 (.slice po o1.length co) (.slice pe o1.length ce) X1 := by rw [hX1]; exact HBd'.out.below (Below.refl _ _).drew
                  rw [← hX1] at hHeld ⊢
                  clear hX1
                  have b0 := hBX.c0
                  obtain ⟨Z, hZ⟩ : ∃ Z, Z = X1.alloc (.cells #[.int .i64 k, .int .i64 sq] 27) := ⟨_, rfl⟩
                  have hBZ : Bw W bn o1 o1 (.slice po o1.length co) (.slice pe o1.length ce) Z := hBX.below (by rw [hZ]; exact below_alloc _ _)
                  have HBZ : Hid (Bw W bn o1 o1 (.slice po o1.length co) (.slice pe o1.length ce) Z) := hBZ
                  have z0 := hBZ.c0
                  have HRow : Hid (RowC Z 2 (.slice po o1.length co) o1.length (o1.flatMap idC)) := hBZ.ro
                  have HSrc : Hid (Src Try.prog 2 22 (.slice (some ⟨X1.heap.size, 0, none⟩) 1 1) 1 [.int .i64 k, .int .i64 sq] Z) := by
                    rw [hZ]
                    have q := src_id X1 (k, z)
                    dsimp only at q
                    rw [HZ.out.2.1, HidE.out.1] at q
                    exact q
                  have HL : Hid ((o1.length + 1) * 16 ≤ 140737488355328 ∧ o1.length + 1 ≤ maxLen) := by have := HLen1.out; unfold maxLen; exact ⟨by omega, by omega⟩
                  have hSX : ∀ X, Below W.heap.size W X → X.cell? ⟨bt, 0, none⟩ = some (.slice (some ⟨gi, oi, none⟩) n ci) ∧ X.cell? ⟨gi, oi + i * 2, none⟩ = some (.int .i64 k) ∧ X.cell? ⟨gi, oi + i * 2 + 1, none⟩ = some (.int .i64 sq) := HSS.out
                  have hZ1 : Z.cell? ⟨bt, 0, none⟩ = some (.slice (some ⟨gi, oi, none⟩) n ci) ∧ Z.cell? ⟨gi, oi + i * 2, none⟩ = some (.int .i64 k) ∧ Z.cell? ⟨gi, oi + i * 2 + 1, none⟩ = some (.int .i64 sq) := hSX _ hBZ.old
                  have HPut : Hid (∀ v' Y, RowC Y 2 v' (o1.length + 1) (o1.flatMap idC ++ [.int .i64 k, .int .i64 sq]) → Z.grownBy Y (cBlk (.slice po o1.length co)) → (∀ q, cBlk v' = some q → cBlk (.slice po o1.length co) = some q ∨ Z.heap.size ≤ q) → Y.cell? ⟨bn, 0, none⟩ = some (.slice po o1.length co) ∧ Y.frozen? ⟨bn, 0, none⟩ = false ∧ (Y.cell? ⟨bt, 0, none⟩ = some (.slice (some ⟨gi, oi, none⟩) n ci) ∧ Y.cell? ⟨gi, oi + i * 2, none⟩ = some (.int .i64 k) ∧ Y.cell? ⟨gi, oi + i * 2 + 1, none⟩ = some (.int .i64 sq)) ∧ Bw W bn (o1 ++ [(k, z)]) o1 v' (.slice pe o1.length ce) (Y.setCell ⟨bn, 0, none⟩ v') ∧ ((Y.setCell ⟨bn, 0, none⟩ v').cell? ⟨bt, 0, none⟩ = some (.slice (some ⟨gi, oi, none⟩) n ci) ∧ (Y.setCell ⟨bn, 0, none⟩ v').cell? ⟨gi, oi + i * 2, none⟩ = some (.int .i64 k) ∧ (Y.setCell ⟨bn, 0, none⟩ v').cell? ⟨gi, oi + i * 2 + 1, none⟩ = some (.int .i64 sq))) := fun v' Y g1 g2 g3 => by
                    obtain ⟨y0, y1, z0', z1', hol, hB'⟩ := HBZ.out.putO (k, z) (by rw [HidE.out.1]; exact g1) g2 g3
                    exact ⟨y0, z0', hSX _ hol, hB', hSX _ hB'.old⟩
                  clear hBX hBZ hSX
                  refine wpAnyH_ready (rs := [1, 7]) (by kernel_rfl) (by simp) ?_
                  refine AllReadyH.cons rfl (fun K hK => ?_) (AllReadyH.cons rfl (fun K hK => ?_) AllReadyH.nil)
                  · go_simp
                    refine hK.out _ _ hHeld (fun hHeld => ?_)
                    clear hK K
                    try simp only [Act.put, List.setIfInBounds_toArray, List.set_cons_zero, List.set_cons_succ]
                    refine wpAnyH_ready (rs := [7]) (by kernel_rfl) (by simp) ?_
                    refine AllReadyH.cons rfl (fun K hK => ?_) AllReadyH.nil
                    go_simp
                    rw [← hZ]
                    refine hK.out _ _ hZ1 (fun hHeld => ?_)
                    clear hK K hZ
                    try simp only [Act.put, List.setIfInBounds_toArray, List.set_cons_zero, List.set_cons_succ]
                    refine wpAnyH_ready (rs := [8]) (by kernel_rfl) (by simp) ?_
                    refine AllReadyH.cons rfl (fun K hK => ?_) AllReadyH.nil
                    refine step7 106 rfl rfl (.tmp 99) (.tmp 105) 22 22 27 rfl Try.underlying22 _ 2 16 infoId rfl (.slice po o1.length co) o1.length (o1.flatMap idC) (by simp [Act.eval]) HRow.out _ 1 _ (by simp [Act.eval]) HSrc.out HL.out.1 HL.out.2 ?_
                    intro v' Y g1 g2 g3
                    obtain ⟨p9, c9, hv', _⟩ := g1.form
                    subst hv'
                    obtain ⟨y0, yf, yS, hB', yS'⟩ := HPut.out _ Y g1 g2 g3
                    have HB' : Hid (Bw W bn (o1 ++ [(k, z)]) o1 (.slice p9 (o1.length + 1) c9) (.slice pe o1.length ce) (Y.setCell ⟨bn, 0, none⟩ (.slice p9 (o1.length + 1) c9))) := hB'
                    clear g1 g2 g3 hB'
                    refine hK.out _ _ yS (fun hHeld => ?_)
                    clear hK K
                    simp only [Act.put, List.setIfInBounds_toArray, List.set_cons_zero, List.set_cons_succ]
                    refine take7 (i := 9) (d := 107) (v := .pointer (some ⟨bn, 0, none⟩)) rfl rfl (by kernel_rfl) (by kernel_rfl) (by kernel_rfl) (fun _ _ _ h => h) (Or.inl ⟨by rfl, ?_⟩) (by assumption) ?_
                    · intro X hSw
                      go_simp
                    simp only [Act.put, List.setIfInBounds_toArray, List.set_cons_zero, List.set_cons_succ]
                    refine wpAnyH_ready (rs := [10]) (by kernel_rfl) (by simp) ?_
                    refine AllReadyH.cons rfl (fun K hK => ?_) AllReadyH.nil
                    go_simp
                    refine hK.out _ _ yS' (fun hHeld => ?_)
                    clear hK K hHeld y0 yf yS yS'
                    refine wpAnyH_done (by kernel_rfl) ?_ _
                    go_wp2
                    go_meet
                    exact ⟨rfl, _, HB'⟩
                  · go_simp
                    rw [← hZ]
                    refine hK.out _ _ hZ1 (fun hHeld => ?_)
                    clear hK K hZ
                    try simp only [Act.put, List.setIfInBounds_toArray, List.set_cons_zero, List.set_cons_succ]
                    refine wpAnyH_ready (rs := [1]) (by kernel_rfl) (by simp) ?_
                    refine AllReadyH.cons rfl (fun K hK => ?_) AllReadyH.nil
                    go_simp
                    refine hK.out _ _ hZ1 (fun hHeld => ?_)
                    clear hK K
                    try simp only [Act.put, List.setIfInBounds_toArray, List.set_cons_zero, List.set_cons_succ]
                    refine wpAnyH_ready (rs := [8]) (by kernel_rfl) (by simp) ?_
                    refine AllReadyH.cons rfl (fun K hK => ?_) AllReadyH.nil
                    refine step7 106 rfl rfl (.tmp 99) (.tmp 105) 22 22 27 rfl Try.underlying22 _ 2 16 infoId rfl (.slice po o1.length co) o1.length (o1.flatMap idC) (by simp [Act.eval]) HRow.out _ 1 _ (by simp [Act.eval]) HSrc.out HL.out.1 HL.out.2 ?_
                    intro v' Y g1 g2 g3
                    obtain ⟨p9, c9, hv', _⟩ := g1.form
                    subst hv'
                    obtain ⟨y0, yf, yS, hB', yS'⟩ := HPut.out _ Y g1 g2 g3
                    have HB' : Hid (Bw W bn (o1 ++ [(k, z)]) o1 (.slice p9 (o1.length + 1) c9) (.slice pe o1.length ce) (Y.setCell ⟨bn, 0, none⟩ (.slice p9 (o1.length + 1) c9))) := hB'
                    clear g1 g2 g3 hB'
                    refine hK.out _ _ yS (fun hHeld => ?_)
                    clear hK K
                    simp only [Act.put, List.setIfInBounds_toArray, List.set_cons_zero, List.set_cons_succ]
                    refine take7 (i := 9) (d := 107) (v := .pointer (some ⟨bn, 0, none⟩)) rfl rfl (by kernel_rfl) (by kernel_rfl) (by kernel_rfl) (fun _ _ _ h => h) (Or.inl ⟨by rfl, ?_⟩) (by assumption) ?_
                    · intro X hSw
                      go_simp
                    simp only [Act.put, List.setIfInBounds_toArray, List.set_cons_zero, List.set_cons_succ]
                    refine wpAnyH_ready (rs := [10]) (by kernel_rfl) (by simp) ?_
                    refine AllReadyH.cons rfl (fun K hK => ?_) AllReadyH.nil
                    go_simp
                    refine hK.out _ _ yS' (fun hHeld => ?_)
                    clear hK K hHeld y0 yf yS yS'
                    refine wpAnyH_done (by kernel_rfl) ?_ _
                    go_wp2
                    go_meet
                    exact ⟨rfl, _, HB'⟩
                case rest =>
                  obtain ⟨rfl, vo2, HBe⟩ := hcut
                  go_upto_region 19 with fail
                  have hS0 := HSE.out wc.drew (HBe.out.below (Below.refl _ _).drew).old
                  refine wp_region_held_drew (S := fun X => X.cell? ⟨bt, 1, none⟩ = some (.slice (some ⟨gr, orr, none⟩) n cr) ∧ X.cell? ⟨gr, orr + i * 3, none⟩ = some (.int .i64 er) ∧ X.cell? ⟨gr, orr + i * 3 + 1, none⟩ = some (.int .i64 at') ∧ X.cell? ⟨gr, orr + i * 3 + 2, none⟩ = some (.slice pp np' cp)) (by kernel_rfl) hS0 (fun hHeld => ?_)
                  clear hS0
                  refine take7 (i := 0) (d := 108) (v := .pointer (some ⟨bn, 1, none⟩)) rfl rfl (by kernel_rfl) (by kernel_rfl) (by kernel_rfl) (fun _ _ _ h => h) (Or.inl ⟨by rfl, ?_⟩) (by assumption) ?_
                  · intro X hSw
                    go_simp
                  simp only [Act.put, List.setIfInBounds_toArray, List.set_cons_zero, List.set_cons_succ]
                  refine take7 (i := 2) (d := 110) (v := .pointer (some ⟨bt, 1, none⟩)) rfl rfl (by kernel_rfl) (by kernel_rfl) (by kernel_rfl) (fun _ _ _ h => h) (Or.inl ⟨by rfl, ?_⟩) (by assumption) ?_
                  · intro X hSw
                    go_simp
                  simp only [Act.put, List.setIfInBounds_toArray, List.set_cons_zero, List.set_cons_succ]
                  refine take7 (i := 3) (d := 111) (v := .slice (some ⟨gr, orr, none⟩) n cr) rfl rfl (by kernel_rfl) (by kernel_rfl) (by kernel_rfl) (fun _ _ _ h => h) (Or.inl ⟨by rfl, ?_⟩) (by assumption) ?_
                  · intro X hSw
                    go_simp
                  simp only [Act.put, List.setIfInBounds_toArray, List.set_cons_zero, List.set_cons_succ]
                  refine take7 (i := 4) (d := 112) (v := .int .i64 (i : Int)) rfl rfl (by kernel_rfl) (by kernel_rfl) (by kernel_rfl) (fun _ _ _ h => h) (Or.inl ⟨by rfl, ?_⟩) (by assumption) ?_
                  · intro X hSw
                    go_simp
                  simp only [Act.put, List.setIfInBounds_toArray, List.set_cons_zero, List.set_cons_succ]
                  refine take7 (i := 5) (d := 113) (v := .pointer (some ⟨gr, orr + i * 3, none⟩)) rfl rfl (by kernel_rfl) (by kernel_rfl) (by kernel_rfl) (fun _ _ _ h => h) (Or.inl ⟨by rfl, ?_⟩) (by assumption) ?_
                  · intro X hSw
                    go_simp
                  simp only [Act.put, List.setIfInBounds_toArray, List.set_cons_zero, List.set_cons_succ]
                  refine take7 (i := 6) (d := 114) (v := .agg #[.int .i64 er, .int .i64 at', .slice pp np' cp]) rfl rfl (by kernel_rfl) (by kernel_rfl) (by kernel_rfl) (fun _ _ _ h => h) (Or.inl ⟨by rfl, ?_⟩) (by assumption) ?_
                  · intro X hSw
                    go_simp
                  simp only [Act.put, List.setIfInBounds_toArray, List.set_cons_zero, List.set_cons_succ]
                  obtain ⟨X1, hX1⟩ : ∃ X1, X1 = wc.drew := ⟨_, rfl⟩
                  have hBX : Bw W bn (o1 ++ [(k, z)]) o1 vo2 (.slice pe o1.length ce) X1 := by rw [hX1]; exact HBe.out.below (Below.refl _ _).drew
                  rw [← hX1] at hHeld ⊢
                  clear hX1
                  have b0 := hBX.c1
                  obtain ⟨Z, hZ⟩ : ∃ Z, Z = X1.alloc (.cells #[.int .i64 er, .int .i64 at', .slice pp np' cp] 31) := ⟨_, rfl⟩
                  have hBZ : Bw W bn (o1 ++ [(k, z)]) o1 vo2 (.slice pe o1.length ce) Z := hBX.below (by rw [hZ]; exact below_alloc _ _)
                  have HBZ : Hid (Bw W bn (o1 ++ [(k, z)]) o1 vo2 (.slice pe o1.length ce) Z) := hBZ
                  have z0 := hBZ.c1
                  have HRow : Hid (RowC Z 3 (.slice pe o1.length ce) o1.length (o1.flatMap reC)) := hBZ.re
                  have HSrc : Hid (Src Try.prog 3 41 (.slice (some ⟨X1.heap.size, 0, none⟩) 1 1) 1 [.int .i64 er, .int .i64 at', .slice pp np' cp] Z) := by
                    rw [hZ]
                    have q := src_re X1 (k, z) HZ.out.2.2.2.2
                    dsimp only at q
                    rw [HZ.out.2.2.1, HZ.out.2.2.2.1, HZ.out.2.2.2.2, HidE.out.2] at q
                    exact q
                  have HL : Hid ((o1.length + 1) * 40 ≤ 140737488355328 ∧ o1.length + 1 ≤ maxLen) := by have := HLen1.out; unfold maxLen; exact ⟨by omega, by omega⟩
                  have hSX : ∀ X, Below W.heap.size W X → X.cell? ⟨bt, 1, none⟩ = some (.slice (some ⟨gr, orr, none⟩) n cr) ∧ X.cell? ⟨gr, orr + i * 3, none⟩ = some (.int .i64 er) ∧ X.cell? ⟨gr, orr + i * 3 + 1, none⟩ = some (.int .i64 at') ∧ X.cell? ⟨gr, orr + i * 3 + 2, none⟩ = some (.slice pp np' cp) := HSE.out
                  have hZ1 : Z.cell? ⟨bt, 1, none⟩ = some (.slice (some ⟨gr, orr, none⟩) n cr) ∧ Z.cell? ⟨gr, orr + i * 3, none⟩ = some (.int .i64 er) ∧ Z.cell? ⟨gr, orr + i * 3 + 1, none⟩ = some (.int .i64 at') ∧ Z.cell? ⟨gr, orr + i * 3 + 2, none⟩ = some (.slice pp np' cp) := hSX _ hBZ.old
                  have HPut : Hid (∀ v' Y, RowC Y 3 v' (o1.length + 1) (o1.flatMap reC ++ [.int .i64 er, .int .i64 at', .slice pp np' cp]) → Z.grownBy Y (cBlk (.slice pe o1.length ce)) → (∀ q, cBlk v' = some q → cBlk (.slice pe o1.length ce) = some q ∨ Z.heap.size ≤ q) → Y.cell? ⟨bn, 1, none⟩ = some (.slice pe o1.length ce) ∧ Y.frozen? ⟨bn, 1, none⟩ = false ∧ (Y.cell? ⟨bt, 1, none⟩ = some (.slice (some ⟨gr, orr, none⟩) n cr) ∧ Y.cell? ⟨gr, orr + i * 3, none⟩ = some (.int .i64 er) ∧ Y.cell? ⟨gr, orr + i * 3 + 1, none⟩ = some (.int .i64 at') ∧ Y.cell? ⟨gr, orr + i * 3 + 2, none⟩ = some (.slice pp np' cp)) ∧ Bw W bn (o1 ++ [(k, z)]) (o1 ++ [(k, z)]) vo2 v' (Y.setCell ⟨bn, 1, none⟩ v') ∧ ((Y.setCell ⟨bn, 1, none⟩ v').cell? ⟨bt, 1, none⟩ = some (.slice (some ⟨gr, orr, none⟩) n cr) ∧ (Y.setCell ⟨bn, 1, none⟩ v').cell? ⟨gr, orr + i * 3, none⟩ = some (.int .i64 er) ∧ (Y.setCell ⟨bn, 1, none⟩ v').cell? ⟨gr, orr + i * 3 + 1, none⟩ = some (.int .i64 at') ∧ (Y.setCell ⟨bn, 1, none⟩ v').cell? ⟨gr, orr + i * 3 + 2, none⟩ = some (.slice pp np' cp))) := fun v' Y g1 g2 g3 => by
                    obtain ⟨y0, y1, z0', z1', hol, hB'⟩ := HBZ.out.putE (k, z) (by rw [HidE.out.2]; exact g1) g2 g3
                    exact ⟨y1, z1', hSX _ hol, hB', hSX _ hB'.old⟩
                  clear hBX hBZ hSX
                  refine wpAnyH_ready (rs := [1, 7]) (by kernel_rfl) (by simp) ?_
                  refine AllReadyH.cons rfl (fun K hK => ?_) (AllReadyH.cons rfl (fun K hK => ?_) AllReadyH.nil)
                  · go_simp
                    refine hK.out _ _ hHeld (fun hHeld => ?_)
                    clear hK K
                    try simp only [Act.put, List.setIfInBounds_toArray, List.set_cons_zero, List.set_cons_succ]
                    refine wpAnyH_ready (rs := [7]) (by kernel_rfl) (by simp) ?_
                    refine AllReadyH.cons rfl (fun K hK => ?_) AllReadyH.nil
                    go_simp
                    rw [← hZ]
                    refine hK.out _ _ hZ1 (fun hHeld => ?_)
                    clear hK K hZ
                    try simp only [Act.put, List.setIfInBounds_toArray, List.set_cons_zero, List.set_cons_succ]
                    refine wpAnyH_ready (rs := [8]) (by kernel_rfl) (by simp) ?_
                    refine AllReadyH.cons rfl (fun K hK => ?_) AllReadyH.nil
                    refine step7 116 rfl rfl (.tmp 109) (.tmp 115) 41 41 31 rfl Try.underlying41 _ 3 40 infoRe rfl (.slice pe o1.length ce) o1.length (o1.flatMap reC) (by simp [Act.eval]) HRow.out _ 1 _ (by simp [Act.eval]) HSrc.out HL.out.1 HL.out.2 ?_
                    intro v' Y g1 g2 g3
                    obtain ⟨p9, c9, hv', _⟩ := g1.form
                    subst hv'
                    obtain ⟨y0, yf, yS, hB', yS'⟩ := HPut.out _ Y g1 g2 g3
                    have HB' : Hid (Bw W bn (o1 ++ [(k, z)]) (o1 ++ [(k, z)]) vo2 (.slice p9 (o1.length + 1) c9) (Y.setCell ⟨bn, 1, none⟩ (.slice p9 (o1.length + 1) c9))) := hB'
                    clear g1 g2 g3 hB'
                    refine hK.out _ _ yS (fun hHeld => ?_)
                    clear hK K
                    simp only [Act.put, List.setIfInBounds_toArray, List.set_cons_zero, List.set_cons_succ]
                    refine take7 (i := 9) (d := 117) (v := .pointer (some ⟨bn, 1, none⟩)) rfl rfl (by kernel_rfl) (by kernel_rfl) (by kernel_rfl) (fun _ _ _ h => h) (Or.inl ⟨by rfl, ?_⟩) (by assumption) ?_
                    · intro X hSw
                      go_simp
                    simp only [Act.put, List.setIfInBounds_toArray, List.set_cons_zero, List.set_cons_succ]
                    refine wpAnyH_ready (rs := [10]) (by kernel_rfl) (by simp) ?_
                    refine AllReadyH.cons rfl (fun K hK => ?_) AllReadyH.nil
                    go_simp
                    refine hK.out _ _ yS' (fun hHeld => ?_)
                    clear hK K hHeld y0 yf yS yS'
                    refine wpAnyH_done (by kernel_rfl) ?_ _
                    go_wp2
                    go_roundw
                    case rel => exact ⟨i + 1, _, d1, _, _, rfl, by go_num, by omega, by rw [HFo1.out, HSt.out], HB'⟩
                    case measure => simp [intOf]; omega
                  · go_simp
                    rw [← hZ]
                    refine hK.out _ _ hZ1 (fun hHeld => ?_)
                    clear hK K hZ
                    try simp only [Act.put, List.setIfInBounds_toArray, List.set_cons_zero, List.set_cons_succ]
                    refine wpAnyH_ready (rs := [1]) (by kernel_rfl) (by simp) ?_
                    refine AllReadyH.cons rfl (fun K hK => ?_) AllReadyH.nil
                    go_simp
                    refine hK.out _ _ hZ1 (fun hHeld => ?_)
                    clear hK K
                    try simp only [Act.put, List.setIfInBounds_toArray, List.set_cons_zero, List.set_cons_succ]
                    refine wpAnyH_ready (rs := [8]) (by kernel_rfl) (by simp) ?_
                    refine AllReadyH.cons rfl (fun K hK => ?_) AllReadyH.nil
                    refine step7 116 rfl rfl (.tmp 109) (.tmp 115) 41 41 31 rfl Try.underlying41 _ 3 40 infoRe rfl (.slice pe o1.length ce) o1.length (o1.flatMap reC) (by simp [Act.eval]) HRow.out _ 1 _ (by simp [Act.eval]) HSrc.out HL.out.1 HL.out.2 ?_
                    intro v' Y g1 g2 g3
                    obtain ⟨p9, c9, hv', _⟩ := g1.form
                    subst hv'
                    obtain ⟨y0, yf, yS, hB', yS'⟩ := HPut.out _ Y g1 g2 g3
                    have HB' : Hid (Bw W bn (o1 ++ [(k, z)]) (o1 ++ [(k, z)]) vo2 (.slice p9 (o1.length + 1) c9) (Y.setCell ⟨bn, 1, none⟩ (.slice p9 (o1.length + 1) c9))) := hB'
                    clear g1 g2 g3 hB'
                    refine hK.out _ _ yS (fun hHeld => ?_)
                    clear hK K
                    simp only [Act.put, List.setIfInBounds_toArray, List.set_cons_zero, List.set_cons_succ]
                    refine take7 (i := 9) (d := 117) (v := .pointer (some ⟨bn, 1, none⟩)) rfl rfl (by kernel_rfl) (by kernel_rfl) (by kernel_rfl) (fun _ _ _ h => h) (Or.inl ⟨by rfl, ?_⟩) (by assumption) ?_
                    · intro X hSw
                      go_simp
                    simp only [Act.put, List.setIfInBounds_toArray, List.set_cons_zero, List.set_cons_succ]
                    refine wpAnyH_ready (rs := [10]) (by kernel_rfl) (by simp) ?_
                    refine AllReadyH.cons rfl (fun K hK => ?_) AllReadyH.nil
                    go_simp
                    refine hK.out _ _ yS' (fun hHeld => ?_)
                    clear hK K hHeld y0 yf yS yS'
                    refine wpAnyH_done (by kernel_rfl) ?_ _
                    go_wp2
                    go_roundw
                    case rel => exact ⟨i + 1, _, d1, _, _, rfl, by go_num, by omega, by rw [HFo1.out, HSt.out], HB'⟩
                    case measure => simp [intOf]; omega
        · have hne : i = n := by omega
          subst hne
          have HFn : Hid (fin a nn (o, d) = Se.ins a nn t) := HIns.out _ (by rw [← HFo.out, HN0.out])
          cases d with
          | true =>
            obtain ⟨x0, x1, f0, f1⟩ := HR.out _ HU.out
            obtain ⟨po, co, pe, ce, hvo, hve⟩ := HBw.out.shapes
            subst hvo hve
            have b0 := HBw.out.c0
            have b1 := HBw.out.c1
            go_wp2
            refine bodyPost_ret (v := .tuple #[.agg #[.slice po o.length co, .slice pe o.length ce], .int .i64 0]) ?qres rfl ?qpost
            case qres => simp [results, Try.results14, go_sem, x0, x1]
            case qpost => exact HQ.out _ _ _ _ _ _ HUW.out HBw.out HFn.out
          | false =>
            obtain ⟨po, co, pe, ce, hvo, hve⟩ := HBw.out.shapes
            subst hvo hve
            obtain ⟨i0, i1⟩ := HI.out _ (HUW.out.trans (HBw.out.old.mono HUW.out.size))
            have b0 := HBw.out.c0
            obtain ⟨Z, hZ⟩ : ∃ Z, Z = wr.alloc (.cells #[.int .i64 a, .int .i64 b] 27) := ⟨_, rfl⟩
            have hBZ : Bw W bn o o (.slice po o.length co) (.slice pe o.length ce) Z := HBw.out.below (by rw [hZ]; exact below_alloc _ _)
            have HBZ : Hid (Bw W bn o o (.slice po o.length co) (.slice pe o.length ce) Z) := hBZ
            have HRow : Hid (RowC Z 2 (.slice po o.length co) o.length (o.flatMap idC)) := hBZ.ro
            have HSrc : Hid (Src Try.prog 2 22 (.slice (some ⟨wr.heap.size, 0, none⟩) 1 1) 1 [.int .i64 a, .int .i64 b] Z) := by
              rw [hZ]
              have q := src_id wr (a, nn)
              dsimp only at q
              rw [HNn.out.1, HidN.out.1] at q
              exact q
            have HL : Hid ((o.length + 1) * 16 ≤ 140737488355328 ∧ o.length + 1 ≤ maxLen ∧ (o.length + 1) * 40 ≤ 140737488355328) := by have := HLen.out; unfold maxLen; exact ⟨by omega, by omega, by omega⟩
            have HZs : Hid (Z.heap.size = wr.heap.size + 1) := by rw [hZ]; show _ = _; simp
            have HZe : Hid (Z = wr.alloc (.cells #[.int .i64 a, .int .i64 b] 27)) := hZ
            clear hBZ hZ
            go_wp2_with (at_builtin; rw [← HZe.out]; refine wpList_append_rowC rfl (.tmp 121) (.tmp 123) 22 22 27 rfl Try.underlying22 _ 2 16 infoId rfl (.slice po o.length co) o.length (o.flatMap idC) rfl HRow.out _ 1 _ rfl HSrc.out HL.out.1 HL.out.2.1 ?qnext)
            case qnext =>
              intro v' Y a1 a2 a3
              obtain ⟨p1, c3, hv', _⟩ := a1.form
              subst hv'
              obtain ⟨y0, y1, yf0, yf1, hol, hB2⟩ := HBZ.out.putO (a, nn) (by rw [HidN.out.1]; exact a1) a2 a3
              obtain ⟨Y1, hY1⟩ : ∃ Y1, Y1 = Y.setCell ⟨bn, 0, none⟩ (.slice p1 (o.length + 1) c3) := ⟨_, rfl⟩
              rw [← hY1] at hB2
              have HB2 : Hid (Bw W bn (o ++ [(a, nn)]) o (.slice p1 (o.length + 1) c3) (.slice pe o.length ce) Y1) := hB2
              have HY1 : Hid (Y1 = Y.setCell ⟨bn, 0, none⟩ (.slice p1 (o.length + 1) c3)) := hY1
              clear a1 a2 a3 HZe HBZ HRow b0 i0 i1 hol hY1 hB2
              go_upto_region 22 with fail
              rw [← HY1.out]
              clear HY1 y0 y1 yf0 yf1
              obtain ⟨r0, r1, r2⟩ := HRp.out _ (HUW.out.trans (HB2.out.old.mono HUW.out.size))
              have x1 := HB2.out.c1
              obtain ⟨Z2, hZ2⟩ : ∃ Z2, Z2 = Y1.alloc (.cells #[.int .i64 re, .int .i64 rt, .slice pq np cq] 31) := ⟨_, rfl⟩
              have hBZ2 : Bw W bn (o ++ [(a, nn)]) o (.slice p1 (o.length + 1) c3) (.slice pe o.length ce) Z2 := HB2.out.below (by rw [hZ2]; exact below_alloc _ _)
              have HBZ2 : Hid (Bw W bn (o ++ [(a, nn)]) o (.slice p1 (o.length + 1) c3) (.slice pe o.length ce) Z2) := hBZ2
              have HRow2 : Hid (RowC Z2 3 (.slice pe o.length ce) o.length (o.flatMap reC)) := hBZ2.re
              have HSrc2 : Hid (Src Try.prog 3 41 (.slice (some ⟨Y1.heap.size, 0, none⟩) 1 1) 1 [.int .i64 re, .int .i64 rt, .slice pq np cq] Z2) := by
                rw [hZ2]
                have q := src_re Y1 (a, nn) HNn.out.2.2.2
                dsimp only at q
                rw [HNn.out.2.1, HNn.out.2.2.1, HNn.out.2.2.2, HidN.out.2] at q
                exact q
              have HZ2 : Hid (Z2 = Y1.alloc (.cells #[.int .i64 re, .int .i64 rt, .slice pq np cq] 31)) := hZ2
              clear hBZ2 hZ2 HB2
              go_wp2_with (at_builtin; rw [← HZ2.out]; refine wpList_append_rowC rfl (.tmp 127) (.tmp 129) 41 41 31 rfl Try.underlying41 _ 3 40 infoRe rfl (.slice pe o.length ce) o.length (o.flatMap reC) rfl HRow2.out _ 1 _ rfl HSrc2.out HL.out.2.2 HL.out.2.1 ?qnext2)
              case qnext2 =>
                intro v2 Y2 a1 a2 a3
                obtain ⟨p2, c4, hv2, _⟩ := a1.form
                subst hv2
                obtain ⟨q0, q1, qf0, qf1, hol, hB3⟩ := HBZ2.out.putE (a, nn) (by rw [HidN.out.2]; exact a1) a2 a3
                have HB3' : Hid (Bw W bn (o ++ [(a, nn)]) (o ++ [(a, nn)]) (.slice p1 (o.length + 1) c3) (.slice p2 (o.length + 1) c4) (Y2.setCell ⟨bn, 1, none⟩ (.slice p2 (o.length + 1) c4))) := hB3
                clear a1 a2 a3 hol HZ2 HBZ2 HRow2 r0 r1 r2 x1
                clear hB3
                go_upto_region 23 with fail
                obtain ⟨Y3, hY3⟩ : ∃ Y3, Y3 = Y2.setCell ⟨bn, 1, none⟩ (.slice p2 (o.length + 1) c4) := ⟨_, rfl⟩
                rw [← hY3] at HB3' ⊢
                clear hY3 q0 q1 qf0 qf1
                obtain ⟨x0, x1, f0, f1⟩ := HR.out _ (HUW.out.trans (HB3'.out.old.mono HUW.out.size))
                have b0 := HB3'.out.c0
                have b1 := HB3'.out.c1
                go_wp2
                refine bodyPost_ret (v := .tuple #[.agg #[.slice p1 (o.length + 1) c3, .slice p2 (o.length + 1) c4], .int .i64 0]) ?qres rfl ?qpost
                case qres => simp [results, Try.results14, go_sem, x0, x1]
                case qpost => exact HQ.out _ _ _ _ _ _ HUW.out HB3'.out HFn.out

end
end Go.Proofs.Ytnfjfhjhofaodaa
