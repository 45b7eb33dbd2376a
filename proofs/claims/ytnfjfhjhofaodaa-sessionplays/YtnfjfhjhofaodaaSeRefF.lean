/-
  The document's table: where a session stands, and Find.
-/
import Derived.Test.YtnfjfhjhofaodaaSeRef
import Derived.Test.YtnfjfhjhofaodaaSeFind
namespace Go.Proofs.Ytnfjfhjhofaodaa
open Go.RowKit

theorem rMay_c (a b : Int) (w : World) : Calls Try.prog 28 #[.agg #[.int .i64 a, .int .i64 b]] w fun e w' => e = .returned (.bool (Se.may a b)) ∧ Below w.heap.size w w' := by
  have HB : Hid (Below w.heap.size w (w.alloc (.cells #[.int .i64 a, .int .i64 b] 27))) := below_alloc _ _
  by_cases h0 : 0 ≤ a
  · by_cases h1 : a ≤ 2147483647
    · by_cases h2 : 1 ≤ b
      · have e : Se.may a b = decide (b ≤ 2147483647) := by simp [Se.may, h0, h1, h2]
        rw [e]
        clear e
        go_enter Try.func28, Try.ntmps28
        go_wp2
        go_ret
        exact ⟨by simp, HB.out⟩
      · have e : Se.may a b = false := by simp [Se.may]; omega
        rw [e]
        clear e
        go_enter Try.func28, Try.ntmps28
        go_wp2
        go_ret
        exact ⟨by simp, HB.out⟩
    · have e : Se.may a b = false := by simp [Se.may]; omega
      rw [e]
      clear e
      go_enter Try.func28, Try.ntmps28
      go_wp2
      go_ret
      exact ⟨by simp, HB.out⟩
  · have e : Se.may a b = false := by simp [Se.may]; omega
    rw [e]
    clear e
    go_enter Try.func28, Try.ntmps28
    go_wp2
    go_ret
    exact ⟨by simp, HB.out⟩


section
variable {w : World} {t : List Row} {vi vr : Value}

/-- The cells of an id. -/
theorem RT.idAt {p : Option Addr} {c i : Nat} (h : Rd w (.slice p t.length c) t.length (t.flatMap idC)) (hi : i < t.length) : ∃ g o, p = some ⟨g, o, none⟩ ∧ ∀ X, Below w.heap.size w X → ∀ q, t[i]? = some q → X.cell? ⟨g, o + i * 2, none⟩ = some (.int .i64 q.1) ∧ X.cell? ⟨g, o + i * 2 + 1, none⟩ = some (.int .i64 q.2.1.seq) := by
  obtain ⟨g, o, hp, hc⟩ := Rd.at (K := 2) (by omega) idC_len h rfl hi
  refine ⟨g, o, hp, fun X hX q hq => ?_⟩
  have k0 := hc q hq 0 _ rfl
  have k1 := hc q hq 1 _ rfl
  have hl := World.block_lt_of_cell? _ _ k0
  exact ⟨(hX.cell (p := ⟨g, o + i * 2, none⟩) hl).trans k0, (hX.cell (p := ⟨g, o + i * 2 + 1, none⟩) hl).trans k1⟩
theorem RT.reAt {p : Option Addr} {c i : Nat} (h : Rd w (.slice p t.length c) t.length (t.flatMap reC)) (hi : i < t.length) : ∃ g o, p = some ⟨g, o, none⟩ ∧ ∀ X, Below w.heap.size w X → ∀ q, t[i]? = some q → X.cell? ⟨g, o + i * 3, none⟩ = some (.int .i64 q.2.1.re.err) ∧ X.cell? ⟨g, o + i * 3 + 1, none⟩ = some (.int .i64 q.2.1.re.at_) ∧ X.cell? ⟨g, o + i * 3 + 2, none⟩ = some q.2.2 := by
  obtain ⟨g, o, hp, hc⟩ := Rd.at (K := 3) (by omega) reC_len h rfl hi
  refine ⟨g, o, hp, fun X hX q hq => ?_⟩
  have k0 := hc q hq 0 _ rfl
  have k1 := hc q hq 1 _ rfl
  have k2 := hc q hq 2 _ rfl
  have hl := World.block_lt_of_cell? _ _ k0
  exact ⟨(hX.cell (p := ⟨g, o + i * 3, none⟩) hl).trans k0, (hX.cell (p := ⟨g, o + i * 3 + 1, none⟩) hl).trans k1, (hX.cell (p := ⟨g, o + i * 3 + 2, none⟩) hl).trans k2⟩

set_option maxHeartbeats 1000000 in
theorem place_no (hi : Rd w vi t.length (t.flatMap idC)) (hr : Rd w vr t.length (t.flatMap reC)) (x : Int) (hn : ∀ p ∈ t, p.1 ≠ x) : Calls Try.prog 29 #[.agg #[vi, vr], .int .i64 x] w fun e w' => e = .returned (.int .i64 (-1)) ∧ Below w.heap.size w w' := by
  obtain ⟨p, c, hv, hc1, hc2⟩ := hi.form
  obtain ⟨p', c', hv', _⟩ := hr.form
  subst hv hv'
  obtain ⟨u, hu⟩ : ∃ u, u = w.alloc (.cells #[.slice p t.length c, .slice p' t.length c'] 43) := ⟨_, rfl⟩
  have hub : Below w.heap.size w u := by rw [hu]; exact below_alloc _ _
  obtain ⟨bt, hbt⟩ : ∃ bt, bt = w.heap.size := ⟨_, rfl⟩
  have k0 : u.cell? ⟨bt, 0, none⟩ = some (.slice p t.length c) := by rw [hu, hbt]; exact World.cell?_alloc_mark w _ _ _ 0
  have HI : Hid (∀ i, i < t.length → ∃ g o k, p = some ⟨g, o, none⟩ ∧ k ≠ x ∧ u.cell? ⟨g, o + i * 2, none⟩ = some (.int .i64 k)) := fun i hi' => by
    obtain ⟨g, o, hp, hX⟩ := RT.idAt hi hi'
    have := hX u hub t[i] (List.getElem?_eq_getElem hi')
    exact ⟨g, o, _, hp, hn _ (List.getElem_mem hi'), this.1⟩
  have HB : Hid (Below w.heap.size w u) := hub
  have hlm : t.length ≤ 9223372036854775807 := by unfold maxLen at hc2; omega
  generalize t.length = n at *
  clear hi hr hn hc1 hc2 hub
  go_enter Try.func29, Try.ntmps29
  go_wp2
  rw [← hu, ← hbt]
  clear hu hbt
  go_loop [5] (fun v => ∃ i : Nat, v = .int .i64 (i : Int) ∧ i ≤ n) (fun v => n - (intOf v).toNat)
  case atStart => exact ⟨0, rfl, Nat.zero_le _⟩
  case round =>
    obtain ⟨i, rfl, hin⟩ := hrel
    by_cases hlt : i < n
    · obtain ⟨g, o, k, hp, hkx, k1⟩ := HI.out i hlt
      subst hp
      have hkb : (k == x) = false := by simpa using hkx
      have hi0 : (0 : Int) ≤ (i : Int) := by omega
      have hi1 : (i : Int) < (n : Int) := by omega
      go_wp2
      go_round
      case rel => exact ⟨i + 1, by go_num, by omega⟩
      case measure => simp [intOf]; omega
    · go_wp2
      go_ret
      exact ⟨rfl, HB.out⟩

set_option maxHeartbeats 1000000 in
theorem place_yes (hi : Rd w vi t.length (t.flatMap idC)) (hr : Rd w vr t.length (t.flatMap reC)) (x : Int) {m : Nat} {z : Se.Ls × Value} (hm : t[m]? = some (x, z)) (hn : ∀ (j : Nat), j < m → ∀ p : Row, t[j]? = some p → p.1 ≠ x) : Calls Try.prog 29 #[.agg #[vi, vr], .int .i64 x] w fun e w' => e = .returned (.int .i64 (m : Int)) ∧ Below w.heap.size w w' := by
  obtain ⟨p, c, hv, hc1, hc2⟩ := hi.form
  obtain ⟨p', c', hv', _⟩ := hr.form
  subst hv hv'
  have hml := (List.getElem?_eq_some_iff.1 hm).1
  obtain ⟨u, hu⟩ : ∃ u, u = w.alloc (.cells #[.slice p t.length c, .slice p' t.length c'] 43) := ⟨_, rfl⟩
  have hub : Below w.heap.size w u := by rw [hu]; exact below_alloc _ _
  obtain ⟨bt, hbt⟩ : ∃ bt, bt = w.heap.size := ⟨_, rfl⟩
  have k0 : u.cell? ⟨bt, 0, none⟩ = some (.slice p t.length c) := by rw [hu, hbt]; exact World.cell?_alloc_mark w _ _ _ 0
  have HI : Hid (∀ i, i < m → ∃ g o k, p = some ⟨g, o, none⟩ ∧ k ≠ x ∧ u.cell? ⟨g, o + i * 2, none⟩ = some (.int .i64 k)) := fun i hi' => by
    have hil : i < t.length := by omega
    obtain ⟨g, o, hp, hX⟩ := RT.idAt hi hil
    have := hX u hub t[i] (List.getElem?_eq_getElem hil)
    exact ⟨g, o, _, hp, hn i hi' _ (List.getElem?_eq_getElem hil), this.1⟩
  have HM : Hid (∃ g o, p = some ⟨g, o, none⟩ ∧ u.cell? ⟨g, o + m * 2, none⟩ = some (.int .i64 x)) := by
    obtain ⟨g, o, hp, hX⟩ := RT.idAt hi hml
    exact ⟨g, o, hp, (hX u hub _ hm).1⟩
  have HB : Hid (Below w.heap.size w u) := hub
  have hlm : t.length ≤ 9223372036854775807 := by unfold maxLen at hc2; omega
  generalize t.length = n at *
  clear hi hr hn hc1 hc2 hub hm
  go_enter Try.func29, Try.ntmps29
  go_wp2
  rw [← hu, ← hbt]
  clear hu hbt
  go_loop [5] (fun v => ∃ i : Nat, v = .int .i64 (i : Int) ∧ i ≤ m) (fun v => n - (intOf v).toNat)
  case atStart => exact ⟨0, rfl, Nat.zero_le _⟩
  case round =>
    obtain ⟨i, rfl, hin⟩ := hrel
    have hi0 : (0 : Int) ≤ (i : Int) := by omega
    have hi1 : (i : Int) < (n : Int) := by omega
    have hin' : i < n := by omega
    by_cases hlt : i < m
    · obtain ⟨g, o, k, hp, hkx, k1⟩ := HI.out i hlt
      subst hp
      have hkb : (k == x) = false := by simpa using hkx
      go_wp2
      go_round
      case rel => exact ⟨i + 1, by go_num, by omega⟩
      case measure => simp [intOf]; omega
    · obtain rfl : i = m := by omega
      obtain ⟨g, o, hp, k1⟩ := HM.out
      subst hp
      go_wp2
      go_ret
      exact ⟨rfl, HB.out⟩


/-- The boxes of Find. -/
structure Gx (w u : World) (vi vr : Value) (a b : Int) : Prop where
  below : Below w.heap.size w u
  size : u.heap.size = w.heap.size + 3
  tb : ∀ X, Below u.heap.size u X → X.cell? ⟨w.heap.size, 0, none⟩ = some vi ∧ X.cell? ⟨w.heap.size, 1, none⟩ = some vr
  id : ∀ X, Below u.heap.size u X → X.cell? ⟨w.heap.size + 1, 0, none⟩ = some (.int .i64 a) ∧ X.cell? ⟨w.heap.size + 1, 1, none⟩ = some (.int .i64 b)
  re : ∀ X, Below u.heap.size u X → X.cell? ⟨w.heap.size + 1 + 1, 0, none⟩ = some (.int .i64 0) ∧ X.cell? ⟨w.heap.size + 1 + 1, 1, none⟩ = some (.int .i64 0) ∧ X.cell? ⟨w.heap.size + 1 + 1, 2, none⟩ = some (.slice none 0 0) ∧ X.frozen? ⟨w.heap.size + 1 + 1, 0, none⟩ = false ∧ X.frozen? ⟨w.heap.size + 1 + 1, 1, none⟩ = false ∧ X.frozen? ⟨w.heap.size + 1 + 1, 2, none⟩ = false

theorem Gx.of (w : World) (vi vr : Value) (a b : Int) {T T' T'' : TypeId} {u0 u1 u : World} (h0 : u0 = w.alloc (.cells #[vi, vr] T)) (h1 : u1 = u0.alloc (.cells #[.int .i64 a, .int .i64 b] T')) (h2 : u = u1.alloc (.cells #[.int .i64 0, .int .i64 0, .slice none 0 0] T'')) : Gx w u vi vr a b := by
  have b0 : Below w.heap.size w u0 := by rw [h0]; exact below_alloc _ _
  have b1 : Below u0.heap.size u0 u1 := by rw [h1]; exact below_alloc _ _
  have b2 : Below u1.heap.size u1 u := by rw [h2]; exact below_alloc _ _
  have s0 : u0.heap.size = w.heap.size + 1 := by rw [h0]; simp
  have s1 : u1.heap.size = w.heap.size + 1 + 1 := by rw [h1]; simp [s0]
  have s2 : u.heap.size = w.heap.size + 3 := by rw [h2]; simp [s1]
  have ct : ∀ j, u.cell? ⟨w.heap.size, j, none⟩ = (#[vi, vr] : Array Value)[j]? := fun j => by
    rw [b2.cell (p := ⟨w.heap.size, j, none⟩) (by show w.heap.size < _; omega), b1.cell (p := ⟨w.heap.size, j, none⟩) (by show w.heap.size < _; omega), h0]
    exact World.cell?_alloc_mark w _ _ _ j
  have ci : ∀ j, u.cell? ⟨w.heap.size + 1, j, none⟩ = (#[.int .i64 a, .int .i64 b] : Array Value)[j]? := fun j => by
    rw [b2.cell (p := ⟨w.heap.size + 1, j, none⟩) (by show w.heap.size + 1 < _; omega), h1, ← s0]
    exact World.cell?_alloc_mark u0 _ _ _ j
  have cr : ∀ j, u.cell? ⟨w.heap.size + 1 + 1, j, none⟩ = (#[.int .i64 0, .int .i64 0, .slice none 0 0] : Array Value)[j]? := fun j => by
    rw [h2, ← s1]
    exact World.cell?_alloc_mark u1 _ _ _ j
  have fr : ∀ j, u.frozen? ⟨w.heap.size + 1 + 1, j, none⟩ = false := fun j => by
    rw [h2, ← s1, World.frozen?_alloc_mark]
    simp
  refine ⟨(b0.trans (b1.mono (by omega))).trans (b2.mono (by omega)), s2, fun X hX => ?_, fun X hX => ?_, fun X hX => ?_⟩
  · rw [hX.cell (p := ⟨w.heap.size, 0, none⟩) (by show w.heap.size < _; omega), hX.cell (p := ⟨w.heap.size, 1, none⟩) (by show w.heap.size < _; omega)]
    exact ⟨ct 0, ct 1⟩
  · rw [hX.cell (p := ⟨w.heap.size + 1, 0, none⟩) (by show w.heap.size + 1 < _; omega), hX.cell (p := ⟨w.heap.size + 1, 1, none⟩) (by show w.heap.size + 1 < _; omega)]
    exact ⟨ci 0, ci 1⟩
  · have hc : ∀ j, X.cell? ⟨w.heap.size + 1 + 1, j, none⟩ = u.cell? ⟨w.heap.size + 1 + 1, j, none⟩ := fun j => hX.cell (p := ⟨w.heap.size + 1 + 1, j, none⟩) (by show w.heap.size + 1 + 1 < _; omega)
    have hf : ∀ j, X.frozen? ⟨w.heap.size + 1 + 1, j, none⟩ = false := fun j => (hX.frozen (p := ⟨w.heap.size + 1 + 1, j, none⟩) (by show w.heap.size + 1 + 1 < _; omega)).trans (fr j)
    rw [hc, hc, hc]
    exact ⟨cr 0, cr 1, cr 2, hf 0, hf 1, hf 2⟩

/-- What Find answers. -/
def RFo (w : World) (t : List Row) (a b : Int) (e : Ending) (w' : World) : Prop :=
  ∃ pv, e = .returned (.tuple #[.agg #[.int .i64 (Se.find (bare t) a b).1.err, .int .i64 (Se.find (bare t) a b).1.at_, pv], .int .i64 (Se.find (bare t) a b).2]) ∧ PoR w' pv (Se.find (bare t) a b).1.posts ∧ Below w.heap.size w w'

set_option maxHeartbeats 1000000 in
set_option maxRecDepth 20000 in
theorem rFind_bad {v : Value} (h : RT w v t) (a b : Int) (hm : Se.may a b = false) : Calls Try.prog 15 #[v, .agg #[.int .i64 a, .int .i64 b]] w (RFo w t a b) := by
  obtain ⟨vi, vr, hv, hri, hrr⟩ := h.val
  subst hv
  obtain ⟨pi, ci, hvi, hci1, hci2⟩ := hri.form
  obtain ⟨pr, cr, hvr, hcr1, hcr2⟩ := hrr.form
  subst hvi hvr
  obtain ⟨u, hu⟩ : ∃ u, u = ((w.alloc (.cells #[.slice pi t.length ci, .slice pr t.length cr] 43)).alloc (.cells #[.int .i64 a, .int .i64 b] 27)).alloc (.cells #[.int .i64 0, .int .i64 0, .slice none 0 0] 31) := ⟨_, rfl⟩
  have hF := Gx.of w (.slice pi t.length ci) (.slice pr t.length cr) a b rfl rfl hu
  have HY := rMay_c a b u
  rw [hm] at HY
  have HY : Hid _ := HY
  have HR : Hid _ := hF.re
  have HI : Hid _ := hF.id
  have HTb : Hid _ := hF.tb
  obtain ⟨bt, hbt⟩ : ∃ bt, bt = w.heap.size := ⟨_, rfl⟩
  obtain ⟨bx, hbx⟩ : ∃ bx, bx = w.heap.size + 1 := ⟨_, rfl⟩
  obtain ⟨br, hbr⟩ : ∃ br, br = w.heap.size + 1 + 1 := ⟨_, rfl⟩
  rw [← hbr] at HR
  rw [← hbx] at HI
  rw [← hbt] at HTb
  have HE : Hid (Below w.heap.size w u ∧ w.heap.size ≤ br ∧ br < u.heap.size) := ⟨hF.below, by omega, by rw [hF.size]; omega⟩
  have HQ : Hid (∀ X, Below w.heap.size w X → RFo w t a b (.returned (.tuple #[.agg #[.int .i64 0, .int .i64 0, .slice none 0 0], .int .i64 1])) X) := fun X hX => by
    have e : Se.find (bare t) a b = (Se.zero, 1) := by simp [Se.find, hm]
    unfold RFo
    rw [e]
    exact ⟨_, rfl, PoR.nil _, hX⟩
  generalize RFo w t a b = Q at HQ ⊢
  generalize t.length = n at HTb hu ⊢
  clear h hF hm hri hrr hci1 hcr1 hci2 hcr2
  go_enter Try.func15, Try.ntmps15
  go_wp2_with fail
  rw [← hu]
  rw [← hbr, ← hbx, ← hbt]
  clear hu hbx hbr hbt
  refine Calls.mono HY.out ?_
  rintro e w2 ⟨rfl, hb⟩
  have HB : Hid (Below u.heap.size u w2) := hb
  obtain ⟨x0, x1, x2, f0, f1, f2⟩ := HR.out _ hb
  obtain ⟨i0, i1⟩ := HI.out _ hb
  obtain ⟨t0, t1⟩ := HTb.out _ hb
  clear hb
  go_wp2
  refine bodyPost_ret (v := .tuple #[.agg #[.int .i64 0, .int .i64 0, .slice none 0 0], .int .i64 1]) ?qres rfl ?qpost
  case qres => simp [results, Try.results15, go_sem, x0, x1, x2]
  case qpost => exact HQ.out _ (fin3_below (HE.out.1.trans (HB.out.mono HE.out.1.size)) HE.out.2.1 _ _ _)

set_option maxHeartbeats 1000000 in
set_option maxRecDepth 20000 in
theorem rFind_none {v : Value} (h : RT w v t) (a b : Int) (hm : Se.may a b = true) (hg : Se.get (bare t) a = none) (hn : ∀ p ∈ t, p.1 ≠ a) : Calls Try.prog 15 #[v, .agg #[.int .i64 a, .int .i64 b]] w (RFo w t a b) := by
  obtain ⟨vi, vr, hv, hri, hrr⟩ := h.val
  subst hv
  obtain ⟨pi, ci, hvi, hci1, hci2⟩ := hri.form
  obtain ⟨pr, cr, hvr, hcr1, hcr2⟩ := hrr.form
  subst hvi hvr
  obtain ⟨u, hu⟩ : ∃ u, u = ((w.alloc (.cells #[.slice pi t.length ci, .slice pr t.length cr] 43)).alloc (.cells #[.int .i64 a, .int .i64 b] 27)).alloc (.cells #[.int .i64 0, .int .i64 0, .slice none 0 0] 31) := ⟨_, rfl⟩
  have hF := Gx.of w (.slice pi t.length ci) (.slice pr t.length cr) a b rfl rfl hu
  have HY := rMay_c a b u
  rw [hm] at HY
  have HY : Hid _ := HY
  have HR : Hid _ := hF.re
  have HI : Hid _ := hF.id
  have HTb : Hid _ := hF.tb
  obtain ⟨bt, hbt⟩ : ∃ bt, bt = w.heap.size := ⟨_, rfl⟩
  obtain ⟨bx, hbx⟩ : ∃ bx, bx = w.heap.size + 1 := ⟨_, rfl⟩
  obtain ⟨br, hbr⟩ : ∃ br, br = w.heap.size + 1 + 1 := ⟨_, rfl⟩
  rw [← hbr] at HR
  rw [← hbx] at HI
  rw [← hbt] at HTb
  have HE : Hid (Below w.heap.size w u ∧ w.heap.size ≤ br ∧ br < u.heap.size) := ⟨hF.below, by omega, by rw [hF.size]; omega⟩
  have HP : Hid (∀ X, Below u.heap.size u X → Calls Try.prog 29 #[.agg #[.slice pi t.length ci, .slice pr t.length cr], .int .i64 a] X fun e w' => e = .returned (.int .i64 (-1)) ∧ Below X.heap.size X w') := fun X hX => by
    have hX' := hF.below.trans (hX.mono hF.below.size)
    exact place_no (hri.below hX') (hrr.below hX') a hn
  have HQ : Hid (∀ X, Below w.heap.size w X → RFo w t a b (.returned (.tuple #[.agg #[.int .i64 0, .int .i64 0, .slice none 0 0], .int .i64 3])) X) := fun X hX => by
    have e : Se.find (bare t) a b = (Se.zero, 3) := by simp [Se.find, hm, hg]
    unfold RFo
    rw [e]
    exact ⟨_, rfl, PoR.nil _, hX⟩
  generalize RFo w t a b = Q at HQ ⊢
  generalize t.length = n at HTb HP hu ⊢
  clear h hF hm hri hrr hci1 hcr1 hci2 hcr2 hg hn
  go_enter Try.func15, Try.ntmps15
  go_wp2_with fail
  rw [← hu]
  rw [← hbr, ← hbx, ← hbt]
  clear hu hbx hbr hbt
  refine Calls.mono HY.out ?_
  rintro e w2 ⟨rfl, hb⟩
  have HB : Hid (Below u.heap.size u w2) := hb
  obtain ⟨x0, x1, x2, f0, f1, f2⟩ := HR.out _ hb
  obtain ⟨i0, i1⟩ := HI.out _ hb
  obtain ⟨t0, t1⟩ := HTb.out _ hb
  clear hb
  go_wp2_with fail
  refine (HP.out _ HB.out).mono ?_
  rintro e w3 ⟨rfl, hb⟩
  have HB3 : Hid (Below u.heap.size u w3) := HB.out.trans (hb.mono HB.out.size)
  clear x0 x1 x2 f0 f1 f2 i0 i1 t0 t1
  obtain ⟨x0, x1, x2, f0, f1, f2⟩ := HR.out _ HB3.out
  obtain ⟨i0, i1⟩ := HI.out _ HB3.out
  obtain ⟨t0, t1⟩ := HTb.out _ HB3.out
  clear hb
  go_wp2
  go_region
  go_wp2
  refine bodyPost_ret (v := .tuple #[.agg #[.int .i64 0, .int .i64 0, .slice none 0 0], .int .i64 3]) ?qres rfl ?qpost
  case qres => simp [results, Try.results15, go_sem, x0, x1, x2]
  case qpost => exact HQ.out _ (fin3_below ((HE.out.1.trans (HB3.out.mono HE.out.1.size)).drew) HE.out.2.1 _ _ _)

theorem bare_at {t : List Row} (hr : Se.Rise t) {m : Nat} {a : Int} {l : Se.Ls} {pv : Value} (h : t[m]? = some (a, l, pv)) : Se.get (bare t) a = some l := by
  induction t generalizing m with
  | nil => simp at h
  | cons p t ih =>
    obtain ⟨h1, h2⟩ := List.pairwise_cons.1 hr
    obtain ⟨k, l', v'⟩ := p
    cases m with
    | zero =>
      have e : (k, l', v') = (a, l, pv) := by simpa using h
      injection e with e1 e2
      injection e2 with e2 e3
      show (if k = a then some l' else Se.get (bare t) a) = _
      rw [if_pos e1, e2]
    | succ m =>
      have h' : t[m]? = some (a, l, pv) := by simpa using h
      have h3 : k < a := h1 _ (List.mem_of_getElem? h')
      show (if k = a then some l' else Se.get (bare t) a) = _
      rw [if_neg (by omega)]
      exact ih h2 h'

set_option maxHeartbeats 1000000 in
set_option maxRecDepth 20000 in
theorem rFind_later {v : Value} (h : RT w v t) (a b : Int) (hm : Se.may a b = true) {m : Nat} {l : Se.Ls} {pv : Value} (hg : t[m]? = some (a, l, pv)) (hn : ∀ (j : Nat), j < m → ∀ p : Row, t[j]? = some p → p.1 ≠ a) (hc : l.seq < b) : Calls Try.prog 15 #[v, .agg #[.int .i64 a, .int .i64 b]] w (RFo w t a b) := by
  obtain ⟨vi, vr, hv, hri, hrr⟩ := h.val
  subst hv
  obtain ⟨pi, ci, hvi, hci1, hci2⟩ := hri.form
  obtain ⟨pr, cr, hvr, hcr1, hcr2⟩ := hrr.form
  subst hvi hvr
  obtain ⟨u, hu⟩ : ∃ u, u = ((w.alloc (.cells #[.slice pi t.length ci, .slice pr t.length cr] 43)).alloc (.cells #[.int .i64 a, .int .i64 b] 27)).alloc (.cells #[.int .i64 0, .int .i64 0, .slice none 0 0] 31) := ⟨_, rfl⟩
  have hF := Gx.of w (.slice pi t.length ci) (.slice pr t.length cr) a b rfl rfl hu
  have HY := rMay_c a b u
  rw [hm] at HY
  have HY : Hid _ := HY
  have HR : Hid _ := hF.re
  have HI : Hid _ := hF.id
  have HTb : Hid _ := hF.tb
  obtain ⟨bt, hbt⟩ : ∃ bt, bt = w.heap.size := ⟨_, rfl⟩
  obtain ⟨bx, hbx⟩ : ∃ bx, bx = w.heap.size + 1 := ⟨_, rfl⟩
  obtain ⟨br, hbr⟩ : ∃ br, br = w.heap.size + 1 + 1 := ⟨_, rfl⟩
  rw [← hbr] at HR
  rw [← hbx] at HI
  rw [← hbt] at HTb
  have HE : Hid (Below w.heap.size w u ∧ w.heap.size ≤ br ∧ br < u.heap.size) := ⟨hF.below, by omega, by rw [hF.size]; omega⟩
  have hml := (List.getElem?_eq_some_iff.1 hg).1
  have HP : Hid (∀ X, Below u.heap.size u X → Calls Try.prog 29 #[.agg #[.slice pi t.length ci, .slice pr t.length cr], .int .i64 a] X fun e w' => e = .returned (.int .i64 (m : Int)) ∧ Below X.heap.size X w') := fun X hX => by
    have hX' := hF.below.trans (hX.mono hF.below.size)
    exact place_yes (hri.below hX') (hrr.below hX') a hg hn
  obtain ⟨gi, oi, hpi, hci⟩ := RT.idAt hri hml
  obtain ⟨gr, orr, hpr, hcr⟩ := RT.reAt hrr hml
  have HC : Hid (∀ X, Below u.heap.size u X → X.cell? ⟨gi, oi + m * 2 + 1, none⟩ = some (.int .i64 l.seq) ∧ X.cell? ⟨gr, orr + m * 3, none⟩ = some (.int .i64 l.re.err) ∧ X.cell? ⟨gr, orr + m * 3 + 1, none⟩ = some (.int .i64 l.re.at_) ∧ X.cell? ⟨gr, orr + m * 3 + 2, none⟩ = some pv) := fun X hX => by
    have hX' := hF.below.trans (hX.mono hF.below.size)
    exact ⟨(hci X hX' _ hg).2, hcr X hX' _ hg⟩
  have hpo := h.posts _ (List.mem_of_getElem? hg)
  dsimp only at hpo
  obtain ⟨pp, cp, hpp, _⟩ := hpo.form
  subst hpp
  subst hpi hpr
  have hget := bare_at h.rise hg
  generalize hq : l.seq = q at hc HC
  generalize hre : l.re.err = re at HC
  generalize hrt : l.re.at_ = rt at HC
  have hm0 : (0 : Int) ≤ (m : Int) := by omega
  have hm1 : (m : Int) < (t.length : Int) := by omega
  have hm2 : m < t.length := hml
  have hmn : ¬ (m : Int) < 0 := by omega
  have hmd : decide ((m : Int) < 0) = false := decide_eq_false hmn
  have HQ : Hid (∀ X, Below w.heap.size w X → RFo w t a b (.returned (.tuple #[.agg #[.int .i64 0, .int .i64 0, .slice none 0 0], .int .i64 3])) X) := fun X hX => by
    have e : Se.find (bare t) a b = (Se.zero, 3) := by simp [Se.find, hm, hget, hq, hc]
    unfold RFo
    rw [e]
    exact ⟨_, rfl, PoR.nil _, hX⟩
  generalize hnn : l.re.posts.length = np at *
  generalize RFo w t a b = Q at HQ ⊢
  generalize t.length = n at *
  clear h hF hm hri hrr hci1 hcr1 hci2 hcr2 hg hn hpo hget hq hre hrt hci hcr hnn
  go_enter Try.func15, Try.ntmps15
  go_wp2_with fail
  rw [← hu]
  rw [← hbr, ← hbx, ← hbt]
  clear hu hbx hbr hbt
  refine Calls.mono HY.out ?_
  rintro e w2 ⟨rfl, hb⟩
  have HB : Hid (Below u.heap.size u w2) := hb
  obtain ⟨x0, x1, x2, f0, f1, f2⟩ := HR.out _ hb
  obtain ⟨i0, i1⟩ := HI.out _ hb
  obtain ⟨t0, t1⟩ := HTb.out _ hb
  clear hb
  go_wp2_with fail
  refine (HP.out _ HB.out).mono ?_
  rintro e w3 ⟨rfl, hb⟩
  have HB3 : Hid (Below u.heap.size u w3) := HB.out.trans (hb.mono HB.out.size)
  clear x0 x1 x2 f0 f1 f2 i0 i1 t0 t1
  obtain ⟨x0, x1, x2, f0, f1, f2⟩ := HR.out _ HB3.out
  obtain ⟨i0, i1⟩ := HI.out _ HB3.out
  obtain ⟨t0, t1⟩ := HTb.out _ HB3.out
  clear hb
  obtain ⟨c0, c1, c2, c3⟩ := HC.out _ HB3.out
  go_wp2
  go_region
  go_wp2
  refine bodyPost_ret (v := .tuple #[.agg #[.int .i64 0, .int .i64 0, .slice none 0 0], .int .i64 3]) ?qres rfl ?qpost
  case qres => simp [results, Try.results15, go_sem, x0, x1, x2]
  case qpost => exact HQ.out _ (fin3_below ((HE.out.1.trans (HB3.out.mono HE.out.1.size)).drew) HE.out.2.1 _ _ _)

set_option maxHeartbeats 1000000 in
set_option maxRecDepth 20000 in
theorem rFind_old {v : Value} (h : RT w v t) (a b : Int) (hm : Se.may a b = true) {m : Nat} {l : Se.Ls} {pv : Value} (hg : t[m]? = some (a, l, pv)) (hn : ∀ (j : Nat), j < m → ∀ p : Row, t[j]? = some p → p.1 ≠ a) (hc : b < l.seq) : Calls Try.prog 15 #[v, .agg #[.int .i64 a, .int .i64 b]] w (RFo w t a b) := by
  obtain ⟨vi, vr, hv, hri, hrr⟩ := h.val
  subst hv
  obtain ⟨pi, ci, hvi, hci1, hci2⟩ := hri.form
  obtain ⟨pr, cr, hvr, hcr1, hcr2⟩ := hrr.form
  subst hvi hvr
  obtain ⟨u, hu⟩ : ∃ u, u = ((w.alloc (.cells #[.slice pi t.length ci, .slice pr t.length cr] 43)).alloc (.cells #[.int .i64 a, .int .i64 b] 27)).alloc (.cells #[.int .i64 0, .int .i64 0, .slice none 0 0] 31) := ⟨_, rfl⟩
  have hF := Gx.of w (.slice pi t.length ci) (.slice pr t.length cr) a b rfl rfl hu
  have HY := rMay_c a b u
  rw [hm] at HY
  have HY : Hid _ := HY
  have HR : Hid _ := hF.re
  have HI : Hid _ := hF.id
  have HTb : Hid _ := hF.tb
  obtain ⟨bt, hbt⟩ : ∃ bt, bt = w.heap.size := ⟨_, rfl⟩
  obtain ⟨bx, hbx⟩ : ∃ bx, bx = w.heap.size + 1 := ⟨_, rfl⟩
  obtain ⟨br, hbr⟩ : ∃ br, br = w.heap.size + 1 + 1 := ⟨_, rfl⟩
  rw [← hbr] at HR
  rw [← hbx] at HI
  rw [← hbt] at HTb
  have HE : Hid (Below w.heap.size w u ∧ w.heap.size ≤ br ∧ br < u.heap.size) := ⟨hF.below, by omega, by rw [hF.size]; omega⟩
  have hml := (List.getElem?_eq_some_iff.1 hg).1
  have HP : Hid (∀ X, Below u.heap.size u X → Calls Try.prog 29 #[.agg #[.slice pi t.length ci, .slice pr t.length cr], .int .i64 a] X fun e w' => e = .returned (.int .i64 (m : Int)) ∧ Below X.heap.size X w') := fun X hX => by
    have hX' := hF.below.trans (hX.mono hF.below.size)
    exact place_yes (hri.below hX') (hrr.below hX') a hg hn
  obtain ⟨gi, oi, hpi, hci⟩ := RT.idAt hri hml
  obtain ⟨gr, orr, hpr, hcr⟩ := RT.reAt hrr hml
  have HC : Hid (∀ X, Below u.heap.size u X → X.cell? ⟨gi, oi + m * 2 + 1, none⟩ = some (.int .i64 l.seq) ∧ X.cell? ⟨gr, orr + m * 3, none⟩ = some (.int .i64 l.re.err) ∧ X.cell? ⟨gr, orr + m * 3 + 1, none⟩ = some (.int .i64 l.re.at_) ∧ X.cell? ⟨gr, orr + m * 3 + 2, none⟩ = some pv) := fun X hX => by
    have hX' := hF.below.trans (hX.mono hF.below.size)
    exact ⟨(hci X hX' _ hg).2, hcr X hX' _ hg⟩
  have hpo := h.posts _ (List.mem_of_getElem? hg)
  dsimp only at hpo
  obtain ⟨pp, cp, hpp, _⟩ := hpo.form
  subst hpp
  subst hpi hpr
  have hget := bare_at h.rise hg
  generalize hq : l.seq = q at hc HC
  generalize hre : l.re.err = re at HC
  generalize hrt : l.re.at_ = rt at HC
  have hm0 : (0 : Int) ≤ (m : Int) := by omega
  have hm1 : (m : Int) < (t.length : Int) := by omega
  have hm2 : m < t.length := hml
  have hmn : ¬ (m : Int) < 0 := by omega
  have hmd : decide ((m : Int) < 0) = false := decide_eq_false hmn
  have HQ : Hid (∀ X, Below w.heap.size w X → RFo w t a b (.returned (.tuple #[.agg #[.int .i64 0, .int .i64 0, .slice none 0 0], .int .i64 110])) X) := fun X hX => by
    have e : Se.find (bare t) a b = (Se.zero, 110) := by simp [Se.find, hm, hget, hq, hc, Int.not_lt.2 (Int.le_of_lt hc)]
    unfold RFo
    rw [e]
    exact ⟨_, rfl, PoR.nil _, hX⟩
  generalize hnn : l.re.posts.length = np at *
  have hc' : ¬ q < b := by omega
  generalize RFo w t a b = Q at HQ ⊢
  generalize t.length = n at *
  clear h hF hm hri hrr hci1 hcr1 hci2 hcr2 hg hn hpo hget hq hre hrt hci hcr hnn
  go_enter Try.func15, Try.ntmps15
  go_wp2_with fail
  rw [← hu]
  rw [← hbr, ← hbx, ← hbt]
  clear hu hbx hbr hbt
  refine Calls.mono HY.out ?_
  rintro e w2 ⟨rfl, hb⟩
  have HB : Hid (Below u.heap.size u w2) := hb
  obtain ⟨x0, x1, x2, f0, f1, f2⟩ := HR.out _ hb
  obtain ⟨i0, i1⟩ := HI.out _ hb
  obtain ⟨t0, t1⟩ := HTb.out _ hb
  clear hb
  go_wp2_with fail
  refine (HP.out _ HB.out).mono ?_
  rintro e w3 ⟨rfl, hb⟩
  have HB3 : Hid (Below u.heap.size u w3) := HB.out.trans (hb.mono HB.out.size)
  clear x0 x1 x2 f0 f1 f2 i0 i1 t0 t1
  obtain ⟨x0, x1, x2, f0, f1, f2⟩ := HR.out _ HB3.out
  obtain ⟨i0, i1⟩ := HI.out _ HB3.out
  obtain ⟨t0, t1⟩ := HTb.out _ HB3.out
  clear hb
  obtain ⟨c0, c1, c2, c3⟩ := HC.out _ HB3.out
  go_wp2
  go_region
  go_wp2
  go_region
  go_wp2
  refine bodyPost_ret (v := .tuple #[.agg #[.int .i64 0, .int .i64 0, .slice none 0 0], .int .i64 110]) ?qres rfl ?qpost
  case qres => simp [results, Try.results15, go_sem, x0, x1, x2]
  case qpost => exact HQ.out _ (fin3_below ((HE.out.1.trans (HB3.out.mono HE.out.1.size)).drew.drew) HE.out.2.1 _ _ _)

set_option maxHeartbeats 1000000 in
set_option maxRecDepth 20000 in
theorem rFind_yes {v : Value} (h : RT w v t) (a b : Int) (hm : Se.may a b = true) {m : Nat} {l : Se.Ls} {pv : Value} (hg : t[m]? = some (a, l, pv)) (hn : ∀ (j : Nat), j < m → ∀ p : Row, t[j]? = some p → p.1 ≠ a) (hc : l.seq = b) : Calls Try.prog 15 #[v, .agg #[.int .i64 a, .int .i64 b]] w (RFo w t a b) := by
  obtain ⟨vi, vr, hv, hri, hrr⟩ := h.val
  subst hv
  obtain ⟨pi, ci, hvi, hci1, hci2⟩ := hri.form
  obtain ⟨pr, cr, hvr, hcr1, hcr2⟩ := hrr.form
  subst hvi hvr
  obtain ⟨u, hu⟩ : ∃ u, u = ((w.alloc (.cells #[.slice pi t.length ci, .slice pr t.length cr] 43)).alloc (.cells #[.int .i64 a, .int .i64 b] 27)).alloc (.cells #[.int .i64 0, .int .i64 0, .slice none 0 0] 31) := ⟨_, rfl⟩
  have hF := Gx.of w (.slice pi t.length ci) (.slice pr t.length cr) a b rfl rfl hu
  have HY := rMay_c a b u
  rw [hm] at HY
  have HY : Hid _ := HY
  have HR : Hid _ := hF.re
  have HI : Hid _ := hF.id
  have HTb : Hid _ := hF.tb
  obtain ⟨bt, hbt⟩ : ∃ bt, bt = w.heap.size := ⟨_, rfl⟩
  obtain ⟨bx, hbx⟩ : ∃ bx, bx = w.heap.size + 1 := ⟨_, rfl⟩
  obtain ⟨br, hbr⟩ : ∃ br, br = w.heap.size + 1 + 1 := ⟨_, rfl⟩
  rw [← hbr] at HR
  rw [← hbx] at HI
  rw [← hbt] at HTb
  have HE : Hid (Below w.heap.size w u ∧ w.heap.size ≤ br ∧ br < u.heap.size) := ⟨hF.below, by omega, by rw [hF.size]; omega⟩
  have hml := (List.getElem?_eq_some_iff.1 hg).1
  have HP : Hid (∀ X, Below u.heap.size u X → Calls Try.prog 29 #[.agg #[.slice pi t.length ci, .slice pr t.length cr], .int .i64 a] X fun e w' => e = .returned (.int .i64 (m : Int)) ∧ Below X.heap.size X w') := fun X hX => by
    have hX' := hF.below.trans (hX.mono hF.below.size)
    exact place_yes (hri.below hX') (hrr.below hX') a hg hn
  obtain ⟨gi, oi, hpi, hci⟩ := RT.idAt hri hml
  obtain ⟨gr, orr, hpr, hcr⟩ := RT.reAt hrr hml
  have HC : Hid (∀ X, Below u.heap.size u X → X.cell? ⟨gi, oi + m * 2 + 1, none⟩ = some (.int .i64 l.seq) ∧ X.cell? ⟨gr, orr + m * 3, none⟩ = some (.int .i64 l.re.err) ∧ X.cell? ⟨gr, orr + m * 3 + 1, none⟩ = some (.int .i64 l.re.at_) ∧ X.cell? ⟨gr, orr + m * 3 + 2, none⟩ = some pv) := fun X hX => by
    have hX' := hF.below.trans (hX.mono hF.below.size)
    exact ⟨(hci X hX' _ hg).2, hcr X hX' _ hg⟩
  have hpo := h.posts _ (List.mem_of_getElem? hg)
  dsimp only at hpo
  obtain ⟨pp, cp, hpp, _⟩ := hpo.form
  subst hpp
  subst hpi hpr
  have hget := bare_at h.rise hg
  generalize hq : l.seq = q at hc HC
  generalize hre : l.re.err = re at HC
  generalize hrt : l.re.at_ = rt at HC
  have hm0 : (0 : Int) ≤ (m : Int) := by omega
  have hm1 : (m : Int) < (t.length : Int) := by omega
  have hm2 : m < t.length := hml
  have hmn : ¬ (m : Int) < 0 := by omega
  have hmd : decide ((m : Int) < 0) = false := decide_eq_false hmn
  have HQ : Hid (∀ X, Below w.heap.size w X → RFo w t a b (.returned (.tuple #[.agg #[.int .i64 re, .int .i64 rt, .slice pp l.re.posts.length cp], .int .i64 0])) X) := fun X hX => by
    have e : Se.find (bare t) a b = (l.re, 0) := by simp [Se.find, hm, hget, hq, hc]
    unfold RFo
    rw [e, hre, hrt]
    exact ⟨_, rfl, hpo.below hX, hX⟩
  have hc1 : ¬ q < b := by omega
  have hc2 : ¬ b < q := by omega
  generalize hnn : l.re.posts.length = np at *
  generalize RFo w t a b = Q at HQ ⊢
  generalize t.length = n at *
  clear h hF hm hri hrr hci1 hcr1 hci2 hcr2 hg hn hpo hget hq hre hrt hci hcr hnn hc
  go_enter Try.func15, Try.ntmps15
  go_wp2_with fail
  rw [← hu]
  rw [← hbr, ← hbx, ← hbt]
  clear hu hbx hbr hbt
  refine Calls.mono HY.out ?_
  rintro e w2 ⟨rfl, hb⟩
  have HB : Hid (Below u.heap.size u w2) := hb
  obtain ⟨x0, x1, x2, f0, f1, f2⟩ := HR.out _ hb
  obtain ⟨i0, i1⟩ := HI.out _ hb
  obtain ⟨t0, t1⟩ := HTb.out _ hb
  clear hb
  go_wp2_with fail
  refine (HP.out _ HB.out).mono ?_
  rintro e w3 ⟨rfl, hb⟩
  have HB3 : Hid (Below u.heap.size u w3) := HB.out.trans (hb.mono HB.out.size)
  clear x0 x1 x2 f0 f1 f2 i0 i1 t0 t1
  obtain ⟨x0, x1, x2, f0, f1, f2⟩ := HR.out _ HB3.out
  obtain ⟨i0, i1⟩ := HI.out _ HB3.out
  obtain ⟨t0, t1⟩ := HTb.out _ HB3.out
  clear hb
  obtain ⟨c0, c1, c2, c3⟩ := HC.out _ HB3.out
  go_wp2
  go_region
  go_wp2
  go_region
  go_wp2
  refine bodyPost_ret (v := .tuple #[.agg #[.int .i64 re, .int .i64 rt, .slice pp np cp], .int .i64 0]) ?qres rfl ?qpost
  case qres => simp [results, Try.results15, go_sem, x0, x1, x2]
  case qpost => exact HQ.out _ (fin3_below ((HE.out.1.trans (HB3.out.mono HE.out.1.size)).drew.drew) HE.out.2.1 _ _ _)

theorem rFind_c {v : Value} (h : RT w v t) (a b : Int) : Calls Try.prog 15 #[v, .agg #[.int .i64 a, .int .i64 b]] w (RFo w t a b) := by
  cases hm : Se.may a b with
  | false => exact rFind_bad h a b hm
  | true =>
    rcases bare_get (x := a) (t := t) with ⟨h1, h2⟩ | ⟨i, l, pv, h1, h2, h3⟩
    · exact rFind_none h a b hm h1 h2
    · by_cases c1 : l.seq < b
      · exact rFind_later h a b hm h1 h2 c1
      · by_cases c2 : b < l.seq
        · exact rFind_old h a b hm h1 h2 c2
        · exact rFind_yes h a b hm h1 h2 (by omega)

end
end Go.Proofs.Ytnfjfhjhofaodaa
