/-
  The document's table: Put.
-/
import Derived.Test.YtnfjfhjhofaodaaSeRefF
import Derived.Deep.CutRange
namespace Go.Proofs.Ytnfjfhjhofaodaa
open Go.RowKit

/-- The boxes of Put. -/
structure Hx (w u : World) (vi vr : Value) (a b e t : Int) (pv : Value) : Prop where
  below : Below w.heap.size w u
  size : u.heap.size = w.heap.size + 4
  tb : ∀ X, Below u.heap.size u X → X.cell? ⟨w.heap.size, 0, none⟩ = some vi ∧ X.cell? ⟨w.heap.size, 1, none⟩ = some vr
  id : ∀ X, Below u.heap.size u X → X.cell? ⟨w.heap.size + 1, 0, none⟩ = some (.int .i64 a) ∧ X.cell? ⟨w.heap.size + 1, 1, none⟩ = some (.int .i64 b)
  rp : ∀ X, Below u.heap.size u X → X.cell? ⟨w.heap.size + 1 + 1, 0, none⟩ = some (.int .i64 e) ∧ X.cell? ⟨w.heap.size + 1 + 1, 1, none⟩ = some (.int .i64 t) ∧ X.cell? ⟨w.heap.size + 1 + 1, 2, none⟩ = some pv
  re : ∀ X, Below u.heap.size u X → X.cell? ⟨w.heap.size + 1 + 1 + 1, 0, none⟩ = some (.slice none 0 0) ∧ X.cell? ⟨w.heap.size + 1 + 1 + 1, 1, none⟩ = some (.slice none 0 0) ∧ X.frozen? ⟨w.heap.size + 1 + 1 + 1, 0, none⟩ = false ∧ X.frozen? ⟨w.heap.size + 1 + 1 + 1, 1, none⟩ = false

theorem Hx.of (w : World) (vi vr : Value) (a b e t : Int) (pv : Value) {T T' T'' : TypeId} {u0 u1 u2 u : World} (h0 : u0 = w.alloc (.cells #[vi, vr] T)) (h1 : u1 = u0.alloc (.cells #[.int .i64 a, .int .i64 b] T')) (h2 : u2 = u1.alloc (.cells #[.int .i64 e, .int .i64 t, pv] T'')) (h3 : u = u2.alloc (.cells #[.slice none 0 0, .slice none 0 0] T)) : Hx w u vi vr a b e t pv := by
  have b0 : Below w.heap.size w u0 := by rw [h0]; exact below_alloc _ _
  have b1 : Below u0.heap.size u0 u1 := by rw [h1]; exact below_alloc _ _
  have b2 : Below u1.heap.size u1 u2 := by rw [h2]; exact below_alloc _ _
  have b3 : Below u2.heap.size u2 u := by rw [h3]; exact below_alloc _ _
  have s0 : u0.heap.size = w.heap.size + 1 := by rw [h0]; simp
  have s1 : u1.heap.size = w.heap.size + 1 + 1 := by rw [h1]; simp [s0]
  have s2 : u2.heap.size = w.heap.size + 1 + 1 + 1 := by rw [h2]; simp [s1]
  have s3 : u.heap.size = w.heap.size + 4 := by rw [h3]; simp [s2]
  have c1 : Below u1.heap.size u1 u := b2.trans (b3.mono (by omega))
  have c0 : Below u0.heap.size u0 u := b1.trans (c1.mono (by omega))
  have ct : ∀ j, u.cell? ⟨w.heap.size, j, none⟩ = (#[vi, vr] : Array Value)[j]? := fun j => by
    rw [c0.cell (p := ⟨w.heap.size, j, none⟩) (by show w.heap.size < _; omega), h0]
    exact World.cell?_alloc_mark w _ _ _ j
  have ci : ∀ j, u.cell? ⟨w.heap.size + 1, j, none⟩ = (#[.int .i64 a, .int .i64 b] : Array Value)[j]? := fun j => by
    rw [c1.cell (p := ⟨w.heap.size + 1, j, none⟩) (by show w.heap.size + 1 < _; omega), h1, ← s0]
    exact World.cell?_alloc_mark u0 _ _ _ j
  have cp : ∀ j, u.cell? ⟨w.heap.size + 1 + 1, j, none⟩ = (#[.int .i64 e, .int .i64 t, pv] : Array Value)[j]? := fun j => by
    rw [b3.cell (p := ⟨w.heap.size + 1 + 1, j, none⟩) (by show w.heap.size + 1 + 1 < _; omega), h2, ← s1]
    exact World.cell?_alloc_mark u1 _ _ _ j
  have cr : ∀ j, u.cell? ⟨w.heap.size + 1 + 1 + 1, j, none⟩ = (#[.slice none 0 0, .slice none 0 0] : Array Value)[j]? := fun j => by
    rw [h3, ← s2]
    exact World.cell?_alloc_mark u2 _ _ _ j
  have fr : ∀ j, u.frozen? ⟨w.heap.size + 1 + 1 + 1, j, none⟩ = false := fun j => by
    rw [h3, ← s2, World.frozen?_alloc_mark]
    simp
  have hc : ∀ X, Below u.heap.size u X → ∀ k j, k < u.heap.size → X.cell? ⟨k, j, none⟩ = u.cell? ⟨k, j, none⟩ := fun X hX k j hk => hX.cell (p := ⟨k, j, none⟩) hk
  refine ⟨b0.trans (c0.mono (by omega)), s3, fun X hX => ?_, fun X hX => ?_, fun X hX => ?_, fun X hX => ?_⟩
  · rw [hc X hX _ _ (by omega), hc X hX _ _ (by omega)]
    exact ⟨ct 0, ct 1⟩
  · rw [hc X hX _ _ (by omega), hc X hX _ _ (by omega)]
    exact ⟨ci 0, ci 1⟩
  · rw [hc X hX _ _ (by omega), hc X hX _ _ (by omega), hc X hX _ _ (by omega)]
    exact ⟨cp 0, cp 1, cp 2⟩
  · have hf : ∀ j, X.frozen? ⟨w.heap.size + 1 + 1 + 1, j, none⟩ = false := fun j => (hX.frozen (p := ⟨w.heap.size + 1 + 1 + 1, j, none⟩) (by show w.heap.size + 1 + 1 + 1 < _; omega)).trans (fr j)
    rw [hc X hX _ _ (by omega), hc X hX _ _ (by omega)]
    exact ⟨cr 0, cr 1, hf 0, hf 1⟩

def fin2 (X : World) (br : Nat) (a b : Value) : World := (X.setCell ⟨br, 0, none⟩ a).setCell ⟨br, 1, none⟩ b
theorem fin2_below {w X : World} {br : Nat} (hb : Below w.heap.size w X) (h1 : w.heap.size ≤ br) (a b : Value) : Below w.heap.size w (fin2 X br a b) := (hb.setCell (p := ⟨br, 0, none⟩) h1 _).setCell (p := ⟨br, 1, none⟩) h1 _
theorem fin2_other {X : World} {br k : Nat} (h1 : k ≠ br) (a b : Value) : (fin2 X br a b).heap[k]? = X.heap[k]? := by
  unfold fin2
  rw [Below.heap_setCell _ _ _ _ h1, Below.heap_setCell _ _ _ _ h1]

/-- What Put answers. -/
def RPo (w : World) (t : List Row) (a b : Int) (r : Mo.Re) (e : Ending) (w' : World) : Prop :=
  ∃ vi vr t', e = .returned (.tuple #[.agg #[vi, vr], .int .i64 (Se.putE (bare t) a b r)]) ∧ RT w' (.agg #[vi, vr]) t' ∧ bare t' = Se.put (bare t) a b r ∧ Below w.heap.size w w'

theorem RPo.no {w : World} {vi vr : Value} {t : List Row} (h : RT w (.agg #[vi, vr]) t) {a b : Int} {r : Mo.Re} {c : Int} (he : Se.putE (bare t) a b r = c) (hc : c ≠ 0) (X : World) (hX : Below w.heap.size w X) : RPo w t a b r (.returned (.tuple #[.agg #[vi, vr], .int .i64 c])) X := by
  have e : Se.put (bare t) a b r = bare t := by unfold Se.put; rw [he, if_neg hc]
  exact ⟨vi, vr, t, by rw [he], h.below hX, e.symm, hX⟩

section
variable {w : World} {t : List Row}

set_option maxHeartbeats 4000000 in
set_option maxRecDepth 20000 in
theorem rPut_bad {v : Value} (h : RT w v t) (a b : Int) (r : Mo.Re) {pv : Value} (hp : PoR w pv r.posts) (hm : Se.may a b = false) : Calls Try.prog 14 #[v, .agg #[.int .i64 a, .int .i64 b], .agg #[.int .i64 r.err, .int .i64 r.at_, pv]] w (RPo w t a b r) := by
  obtain ⟨vi, vr, hv, hri, hrr⟩ := h.val
  subst hv
  obtain ⟨pi, ci, hvi, hci1, hci2⟩ := hri.form
  obtain ⟨pr, cr, hvr, hcr1, hcr2⟩ := hrr.form
  subst hvi hvr
  obtain ⟨pq, cq, hpq, _⟩ := hp.form
  subst hpq
  obtain ⟨u, hu⟩ : ∃ u, u = (((w.alloc (.cells #[.slice pi t.length ci, .slice pr t.length cr] 43)).alloc (.cells #[.int .i64 a, .int .i64 b] 27)).alloc (.cells #[.int .i64 r.err, .int .i64 r.at_, .slice pq r.posts.length cq] 31)).alloc (.cells #[.slice none 0 0, .slice none 0 0] 43) := ⟨_, rfl⟩
  have hF := Hx.of w (.slice pi t.length ci) (.slice pr t.length cr) a b r.err r.at_ (.slice pq r.posts.length cq) rfl rfl rfl hu
  have HY := rMay_c a b u
  rw [hm] at HY
  have HY : Hid _ := HY
  have HR : Hid _ := hF.re
  have HI : Hid _ := hF.id
  have HTb : Hid _ := hF.tb
  have HRp : Hid _ := hF.rp
  obtain ⟨bt, hbt⟩ : ∃ bt, bt = w.heap.size := ⟨_, rfl⟩
  obtain ⟨bx, hbx⟩ : ∃ bx, bx = w.heap.size + 1 := ⟨_, rfl⟩
  obtain ⟨bq, hbq⟩ : ∃ bq, bq = w.heap.size + 1 + 1 := ⟨_, rfl⟩
  obtain ⟨br, hbr⟩ : ∃ br, br = w.heap.size + 1 + 1 + 1 := ⟨_, rfl⟩
  rw [← hbr] at HR
  rw [← hbq] at HRp
  rw [← hbx] at HI
  rw [← hbt] at HTb
  have HE : Hid (Below w.heap.size w u ∧ w.heap.size ≤ br ∧ br < u.heap.size) := ⟨hF.below, by omega, by rw [hF.size]; omega⟩
  have HQ : Hid (∀ X, Below w.heap.size w X → RPo w t a b r (.returned (.tuple #[.agg #[.slice pi t.length ci, .slice pr t.length cr], .int .i64 1])) X) := RPo.no h (by simp [Se.putE, hm]) (by decide)
  generalize RPo w t a b r = Q at HQ ⊢
  generalize r.err = re at *
  generalize r.at_ = rt at *
  generalize r.posts.length = np at *
  generalize t.length = n at *
  clear h hF hm hri hrr hci1 hcr1 hp 
  go_enter Try.func14, Try.ntmps14
  go_wp2_with fail
  rw [← hu]
  rw [← hbr, ← hbq, ← hbx, ← hbt]
  clear hu hbx hbr hbt hbq
  refine Calls.mono HY.out ?_
  rintro e w2 ⟨rfl, hb⟩
  have HB : Hid (Below u.heap.size u w2) := hb
  obtain ⟨x0, x1, f0, f1⟩ := HR.out _ hb
  obtain ⟨i0, i1⟩ := HI.out _ hb
  obtain ⟨t0, t1⟩ := HTb.out _ hb
  obtain ⟨r0, r1, r2⟩ := HRp.out _ hb
  clear hb
  go_wp2
  refine bodyPost_ret (v := .tuple #[.agg #[.slice pi n ci, .slice pr n cr], .int .i64 1]) ?qres rfl ?qpost
  case qres => simp [results, Try.results14, go_sem, x0, x1]
  case qpost => exact HQ.out _ (fin2_below (HE.out.1.trans (HB.out.mono HE.out.1.size)) HE.out.2.1 _ _)

set_option maxHeartbeats 4000000 in
set_option maxRecDepth 20000 in
theorem rPut_long {v : Value} (h : RT w v t) (a b : Int) (r : Mo.Re) {pv : Value} (hp : PoR w pv r.posts) (hm : Se.may a b = true) (hl : 64 < r.posts.length) : Calls Try.prog 14 #[v, .agg #[.int .i64 a, .int .i64 b], .agg #[.int .i64 r.err, .int .i64 r.at_, pv]] w (RPo w t a b r) := by
  obtain ⟨vi, vr, hv, hri, hrr⟩ := h.val
  subst hv
  obtain ⟨pi, ci, hvi, hci1, hci2⟩ := hri.form
  obtain ⟨pr, cr, hvr, hcr1, hcr2⟩ := hrr.form
  subst hvi hvr
  obtain ⟨pq, cq, hpq, _⟩ := hp.form
  subst hpq
  obtain ⟨u, hu⟩ : ∃ u, u = (((w.alloc (.cells #[.slice pi t.length ci, .slice pr t.length cr] 43)).alloc (.cells #[.int .i64 a, .int .i64 b] 27)).alloc (.cells #[.int .i64 r.err, .int .i64 r.at_, .slice pq r.posts.length cq] 31)).alloc (.cells #[.slice none 0 0, .slice none 0 0] 43) := ⟨_, rfl⟩
  have hF := Hx.of w (.slice pi t.length ci) (.slice pr t.length cr) a b r.err r.at_ (.slice pq r.posts.length cq) rfl rfl rfl hu
  have HY := rMay_c a b u
  rw [hm] at HY
  have HY : Hid _ := HY
  have HR : Hid _ := hF.re
  have HI : Hid _ := hF.id
  have HTb : Hid _ := hF.tb
  have HRp : Hid _ := hF.rp
  obtain ⟨bt, hbt⟩ : ∃ bt, bt = w.heap.size := ⟨_, rfl⟩
  obtain ⟨bx, hbx⟩ : ∃ bx, bx = w.heap.size + 1 := ⟨_, rfl⟩
  obtain ⟨bq, hbq⟩ : ∃ bq, bq = w.heap.size + 1 + 1 := ⟨_, rfl⟩
  obtain ⟨br, hbr⟩ : ∃ br, br = w.heap.size + 1 + 1 + 1 := ⟨_, rfl⟩
  rw [← hbr] at HR
  rw [← hbq] at HRp
  rw [← hbx] at HI
  rw [← hbt] at HTb
  have HE : Hid (Below w.heap.size w u ∧ w.heap.size ≤ br ∧ br < u.heap.size) := ⟨hF.below, by omega, by rw [hF.size]; omega⟩
  have HQ : Hid (∀ X, Below w.heap.size w X → RPo w t a b r (.returned (.tuple #[.agg #[.slice pi t.length ci, .slice pr t.length cr], .int .i64 1])) X) := RPo.no h (by simp [Se.putE, hm, hl]) (by decide)
  generalize RPo w t a b r = Q at HQ ⊢
  generalize r.err = re at *
  generalize r.at_ = rt at *
  generalize r.posts.length = np at *
  generalize t.length = n at *
  have hl1 : (np : Int) > 64 := by omega
  clear h hF hm hri hrr hci1 hcr1 hp hl
  go_enter Try.func14, Try.ntmps14
  go_wp2_with fail
  rw [← hu]
  rw [← hbr, ← hbq, ← hbx, ← hbt]
  clear hu hbx hbr hbt hbq
  refine Calls.mono HY.out ?_
  rintro e w2 ⟨rfl, hb⟩
  have HB : Hid (Below u.heap.size u w2) := hb
  obtain ⟨x0, x1, f0, f1⟩ := HR.out _ hb
  obtain ⟨i0, i1⟩ := HI.out _ hb
  obtain ⟨t0, t1⟩ := HTb.out _ hb
  obtain ⟨r0, r1, r2⟩ := HRp.out _ hb
  clear hb
  go_wp2
  refine bodyPost_ret (v := .tuple #[.agg #[.slice pi n ci, .slice pr n cr], .int .i64 1]) ?qres rfl ?qpost
  case qres => simp [results, Try.results14, go_sem, x0, x1]
  case qpost => exact HQ.out _ (fin2_below (HE.out.1.trans (HB.out.mono HE.out.1.size)) HE.out.2.1 _ _)

set_option maxHeartbeats 4000000 in
set_option maxRecDepth 20000 in
theorem rPut_old {v : Value} (h : RT w v t) (a b : Int) (r : Mo.Re) {pv : Value} (hp : PoR w pv r.posts) (hm : Se.may a b = true) (hl : r.posts.length ≤ 64) {m : Nat} {l : Se.Ls} {pv0 : Value} (hg : t[m]? = some (a, l, pv0)) (hn : ∀ (j : Nat), j < m → ∀ p : Row, t[j]? = some p → p.1 ≠ a) (hc : b ≤ l.seq) : Calls Try.prog 14 #[v, .agg #[.int .i64 a, .int .i64 b], .agg #[.int .i64 r.err, .int .i64 r.at_, pv]] w (RPo w t a b r) := by
  obtain ⟨vi, vr, hv, hri, hrr⟩ := h.val
  subst hv
  obtain ⟨pi, ci, hvi, hci1, hci2⟩ := hri.form
  obtain ⟨pr, cr, hvr, hcr1, hcr2⟩ := hrr.form
  subst hvi hvr
  obtain ⟨pq, cq, hpq, _⟩ := hp.form
  subst hpq
  obtain ⟨u, hu⟩ : ∃ u, u = (((w.alloc (.cells #[.slice pi t.length ci, .slice pr t.length cr] 43)).alloc (.cells #[.int .i64 a, .int .i64 b] 27)).alloc (.cells #[.int .i64 r.err, .int .i64 r.at_, .slice pq r.posts.length cq] 31)).alloc (.cells #[.slice none 0 0, .slice none 0 0] 43) := ⟨_, rfl⟩
  have hF := Hx.of w (.slice pi t.length ci) (.slice pr t.length cr) a b r.err r.at_ (.slice pq r.posts.length cq) rfl rfl rfl hu
  have HY := rMay_c a b u
  rw [hm] at HY
  have HY : Hid _ := HY
  have HR : Hid _ := hF.re
  have HI : Hid _ := hF.id
  have HTb : Hid _ := hF.tb
  have HRp : Hid _ := hF.rp
  obtain ⟨bt, hbt⟩ : ∃ bt, bt = w.heap.size := ⟨_, rfl⟩
  obtain ⟨bx, hbx⟩ : ∃ bx, bx = w.heap.size + 1 := ⟨_, rfl⟩
  obtain ⟨bq, hbq⟩ : ∃ bq, bq = w.heap.size + 1 + 1 := ⟨_, rfl⟩
  obtain ⟨br, hbr⟩ : ∃ br, br = w.heap.size + 1 + 1 + 1 := ⟨_, rfl⟩
  rw [← hbr] at HR
  rw [← hbq] at HRp
  rw [← hbx] at HI
  rw [← hbt] at HTb
  have HE : Hid (Below w.heap.size w u ∧ w.heap.size ≤ br ∧ br < u.heap.size) := ⟨hF.below, by omega, by rw [hF.size]; omega⟩
  have hml := (List.getElem?_eq_some_iff.1 hg).1
  have HP : Hid (∀ X, Below u.heap.size u X → Calls Try.prog 29 #[.agg #[.slice pi t.length ci, .slice pr t.length cr], .int .i64 a] X fun e w' => e = .returned (.int .i64 (m : Int)) ∧ Below X.heap.size X w') := fun X hX => by
    have hX' := hF.below.trans (hX.mono hF.below.size)
    exact place_yes (hri.below hX') (hrr.below hX') a hg hn
  obtain ⟨gi, oi, hpi, hci⟩ := RT.idAt hri hml
  have HC : Hid (∀ X, Below u.heap.size u X → X.cell? ⟨gi, oi + m * 2 + 1, none⟩ = some (.int .i64 l.seq)) := fun X hX => by
    have hX' := hF.below.trans (hX.mono hF.below.size)
    exact (hci X hX' _ hg).2
  subst hpi
  have hget := bare_at h.rise hg
  generalize hq : l.seq = q at hc HC
  have hm0 : (0 : Int) ≤ (m : Int) := by omega
  have hm1 : (m : Int) < (t.length : Int) := by omega
  have hm2 : m < t.length := hml
  have hmn : ¬ (m : Int) < 0 := by omega
  have hmd : decide ((m : Int) < 0) = false := decide_eq_false hmn
  have hme : decide ((m : Int) ≥ 0) = true := decide_eq_true hm0
  have HQ : Hid (∀ X, Below w.heap.size w X → RPo w t a b r (.returned (.tuple #[.agg #[.slice (some ⟨gi, oi, none⟩) t.length ci, .slice pr t.length cr], .int .i64 110])) X) := RPo.no h (by simp [Se.putE, hm, Nat.not_lt.2 hl, hget, hq, hc]) (by decide)
  generalize RPo w t a b r = Q at HQ ⊢
  generalize r.err = re at *
  generalize r.at_ = rt at *
  generalize r.posts.length = np at *
  generalize t.length = n at *
  have hl1 : ¬ (np : Int) > 64 := by omega
  have hc1 : q ≥ b := hc
  clear h hF hm hri hrr hci1 hcr1 hp hl hg hn hget hq hci hml
  go_enter Try.func14, Try.ntmps14
  go_wp2_with fail
  rw [← hu]
  rw [← hbr, ← hbq, ← hbx, ← hbt]
  clear hu hbx hbr hbt hbq
  refine Calls.mono HY.out ?_
  rintro e w2 ⟨rfl, hb⟩
  have HB : Hid (Below u.heap.size u w2) := hb
  obtain ⟨x0, x1, f0, f1⟩ := HR.out _ hb
  obtain ⟨i0, i1⟩ := HI.out _ hb
  obtain ⟨t0, t1⟩ := HTb.out _ hb
  obtain ⟨r0, r1, r2⟩ := HRp.out _ hb
  clear hb
  go_wp2_with fail
  refine (HP.out _ HB.out).mono ?_
  rintro e w3 ⟨rfl, hb⟩
  have HB3 : Hid (Below u.heap.size u w3) := HB.out.trans (hb.mono HB.out.size)
  clear x0 x1 f0 f1 i0 i1 t0 t1 r0 r1 r2
  obtain ⟨x0, x1, f0, f1⟩ := HR.out _ HB3.out
  obtain ⟨i0, i1⟩ := HI.out _ HB3.out
  obtain ⟨t0, t1⟩ := HTb.out _ HB3.out
  obtain ⟨r0, r1, r2⟩ := HRp.out _ HB3.out
  clear hb
  have c0 := HC.out _ HB3.out
  go_wp2
  go_region
  go_wp2
  refine bodyPost_ret (v := .tuple #[.agg #[.slice (some ⟨gi, oi, none⟩) n ci, .slice pr n cr], .int .i64 110]) ?qres rfl ?qpost
  case qres => simp [results, Try.results14, go_sem, x0, x1]
  case qpost => exact HQ.out _ (fin2_below ((HE.out.1.trans (HB3.out.mono HE.out.1.size)).drew) HE.out.2.1 _ _)

set_option maxHeartbeats 4000000 in
set_option maxRecDepth 20000 in
theorem rPut_full {v : Value} (h : RT w v t) (a b : Int) (r : Mo.Re) {pv : Value} (hp : PoR w pv r.posts) (hm : Se.may a b = true) (hl : r.posts.length ≤ 64) (hg : Se.get (bare t) a = none) (hn : ∀ p ∈ t, p.1 ≠ a) (hc : 64 ≤ t.length) : Calls Try.prog 14 #[v, .agg #[.int .i64 a, .int .i64 b], .agg #[.int .i64 r.err, .int .i64 r.at_, pv]] w (RPo w t a b r) := by
  obtain ⟨vi, vr, hv, hri, hrr⟩ := h.val
  subst hv
  obtain ⟨pi, ci, hvi, hci1, hci2⟩ := hri.form
  obtain ⟨pr, cr, hvr, hcr1, hcr2⟩ := hrr.form
  subst hvi hvr
  obtain ⟨pq, cq, hpq, _⟩ := hp.form
  subst hpq
  obtain ⟨u, hu⟩ : ∃ u, u = (((w.alloc (.cells #[.slice pi t.length ci, .slice pr t.length cr] 43)).alloc (.cells #[.int .i64 a, .int .i64 b] 27)).alloc (.cells #[.int .i64 r.err, .int .i64 r.at_, .slice pq r.posts.length cq] 31)).alloc (.cells #[.slice none 0 0, .slice none 0 0] 43) := ⟨_, rfl⟩
  have hF := Hx.of w (.slice pi t.length ci) (.slice pr t.length cr) a b r.err r.at_ (.slice pq r.posts.length cq) rfl rfl rfl hu
  have HY := rMay_c a b u
  rw [hm] at HY
  have HY : Hid _ := HY
  have HR : Hid _ := hF.re
  have HI : Hid _ := hF.id
  have HTb : Hid _ := hF.tb
  have HRp : Hid _ := hF.rp
  obtain ⟨bt, hbt⟩ : ∃ bt, bt = w.heap.size := ⟨_, rfl⟩
  obtain ⟨bx, hbx⟩ : ∃ bx, bx = w.heap.size + 1 := ⟨_, rfl⟩
  obtain ⟨bq, hbq⟩ : ∃ bq, bq = w.heap.size + 1 + 1 := ⟨_, rfl⟩
  obtain ⟨br, hbr⟩ : ∃ br, br = w.heap.size + 1 + 1 + 1 := ⟨_, rfl⟩
  rw [← hbr] at HR
  rw [← hbq] at HRp
  rw [← hbx] at HI
  rw [← hbt] at HTb
  have HE : Hid (Below w.heap.size w u ∧ w.heap.size ≤ br ∧ br < u.heap.size) := ⟨hF.below, by omega, by rw [hF.size]; omega⟩
  have HP : Hid (∀ X, Below u.heap.size u X → Calls Try.prog 29 #[.agg #[.slice pi t.length ci, .slice pr t.length cr], .int .i64 a] X fun e w' => e = .returned (.int .i64 (-1)) ∧ Below X.heap.size X w') := fun X hX => by
    have hX' := hF.below.trans (hX.mono hF.below.size)
    exact place_no (hri.below hX') (hrr.below hX') a hn
  have HQ : Hid (∀ X, Below w.heap.size w X → RPo w t a b r (.returned (.tuple #[.agg #[.slice pi t.length ci, .slice pr t.length cr], .int .i64 2])) X) := RPo.no h (by simp [Se.putE, hm, Nat.not_lt.2 hl, hg, bare_len, hc]) (by decide)
  generalize RPo w t a b r = Q at HQ ⊢
  generalize r.err = re at *
  generalize r.at_ = rt at *
  generalize r.posts.length = np at *
  generalize t.length = n at *
  have hl1 : ¬ (np : Int) > 64 := by omega
  have hc1 : (n : Int) ≥ 64 := by omega
  clear h hF hm hri hrr hci1 hcr1 hp hl hg hn hc
  go_enter Try.func14, Try.ntmps14
  go_wp2_with fail
  rw [← hu]
  rw [← hbr, ← hbq, ← hbx, ← hbt]
  clear hu hbx hbr hbt hbq
  refine Calls.mono HY.out ?_
  rintro e w2 ⟨rfl, hb⟩
  have HB : Hid (Below u.heap.size u w2) := hb
  obtain ⟨x0, x1, f0, f1⟩ := HR.out _ hb
  obtain ⟨i0, i1⟩ := HI.out _ hb
  obtain ⟨t0, t1⟩ := HTb.out _ hb
  obtain ⟨r0, r1, r2⟩ := HRp.out _ hb
  clear hb
  go_wp2_with fail
  refine (HP.out _ HB.out).mono ?_
  rintro e w3 ⟨rfl, hb⟩
  have HB3 : Hid (Below u.heap.size u w3) := HB.out.trans (hb.mono HB.out.size)
  clear x0 x1 f0 f1 i0 i1 t0 t1 r0 r1 r2
  obtain ⟨x0, x1, f0, f1⟩ := HR.out _ HB3.out
  obtain ⟨i0, i1⟩ := HI.out _ HB3.out
  obtain ⟨t0, t1⟩ := HTb.out _ HB3.out
  obtain ⟨r0, r1, r2⟩ := HRp.out _ HB3.out
  clear hb
  go_wp2
  go_region
  go_wp2
  refine bodyPost_ret (v := .tuple #[.agg #[.slice pi n ci, .slice pr n cr], .int .i64 2]) ?qres rfl ?qpost
  case qres => simp [results, Try.results14, go_sem, x0, x1]
  case qpost => exact HQ.out _ (fin2_below ((HE.out.1.trans (HB3.out.mono HE.out.1.size)).drew) HE.out.2.1 _ _)

end
end Go.Proofs.Ytnfjfhjhofaodaa
