/-
  The document's own folding of records: index, May, New, last, end. The document's Fold. The document's Fold: an entry that fits.
-/
import Derived.Test.YtagcnhkodmjkgaaWlSame
import Derived.Laws.ResultCell
import Derived.Deep.RegionHeld
import Derived.BigQuiet
import Derived.Test.YtagcnhkodmjkgaaWlDo
namespace Go.Proofs.Ytagcnhkodmjkgaa
open Go.RowKit

theorem refIndex_c (n l : Int) (w : World) : Calls Try.prog 65 #[.int .i64 n, .int .i64 l] w fun e w' => e = .returned (.bool (decide (l ≤ n) && decide (n ≤ 1099511627776))) ∧ w' = w := by
  obtain ⟨b1, h1⟩ : ∃ b, decide (l ≤ n) = b := ⟨_, rfl⟩
  obtain ⟨b2, h2⟩ : ∃ b, decide (n ≤ 1099511627776) = b := ⟨_, rfl⟩
  rw [h1, h2]
  cases b1
  case false =>
    go_enter Try.func65, Try.ntmps65
    go_wp2
    go_ret
    exact ⟨rfl, rfl⟩
  cases b2
  all_goals
    go_enter Try.func65, Try.ntmps65
    go_wp2
    go_ret
    exact ⟨rfl, rfl⟩

theorem refNew_c (w : World) : Calls Try.prog 28 #[] w fun e w' => e = .returned (savV W.new (.slice none 0 0)) ∧ Below w.heap.size w w' := by
  unfold savV W.new
  dsimp only
  go_enter Try.func28, Try.ntmps28
  go_wp2
  refine bodyPost_ret (v := .agg #[.int .i64 0, .int .i64 (-1), .int .i64 0, .int .i64 0, .string ⟨#[]⟩, .slice none 0 0]) ?qres rfl ?qpost
  case qres => simp [results, Try.results28, go_sem]
  case qpost => exact ⟨rfl, below_alloc _ _⟩

theorem refLast_c {w : World} {s : W.Sv} {v : Value} (h : EntR w v s.ents) (ok : W.Ok s) : Calls Try.prog 36 #[savV s v] w fun e w' => e = .returned (.int .i64 (W.last s)) ∧ Below w.heap.size w w' := by
  obtain ⟨p, c, rfl, h1, h2, h3⟩ := h
  have k1 := ok.base
  have k2 := ok.last
  unfold W.last at k2 ⊢
  unfold savV
  obtain ⟨n, hn⟩ : ∃ n, n = s.ents.length := ⟨_, rfl⟩
  rw [← hn] at k2 ⊢
  obtain ⟨t, x, b, y, d, l⟩ := s
  dsimp only at k1 k2 ⊢
  have hwr : IntKind.i64.wrap (b + (n : Int)) = b + (n : Int) := wraps_i64 _ (by omega) (by rw [pow63]; omega)
  clear h1 h2 h3 ok hn k1 k2
  go_enter Try.func36, Try.ntmps36
  go_wp2
  all_goals (go_ret; exact ⟨by first | rfl | rw [hwr], below_alloc _ _⟩)

theorem refEnd_c {w : World} {s : W.Sv} {v : Value} (h : EntR w v s.ents) : Calls Try.prog 37 #[savV s v] w fun e w' => e = .returned (.int .i64 (W.termAt s (W.last s))) ∧ Below w.heap.size w w' := by
  rw [W.termAt_last]
  obtain ⟨p, c, rfl, h1, h2, h3⟩ := h
  unfold savV
  obtain ⟨t, x, b, y, d, l⟩ := s
  dsimp only at h1 h3 ⊢
  by_cases hl : l = []
  · subst hl
    clear h1 h2 h3
    go_enter Try.func37, Try.ntmps37
    go_wp2
    go_ret
    exact ⟨rfl, below_alloc _ _⟩
  · obtain ⟨g, off, rfl, hc⟩ := h3.resolve_left hl
    obtain ⟨m, hm⟩ : ∃ m, l.length = m + 1 := ⟨l.length - 1, by have := List.length_pos_iff.2 hl; omega⟩
    obtain ⟨e, he⟩ : ∃ e, l[m]? = some e := ⟨_, List.getElem?_eq_getElem (by omega)⟩
    have q := (hc m e he).1
    have hg : g < w.heap.size := World.block_lt_of_cell? w ⟨g, off + m * 2, none⟩ q
    have hv : ((l.getLast?).map Prod.fst).getD y = e.1 := by rw [List.getLast?_eq_getElem?, hm, Nat.add_sub_cancel, he]; rfl
    rw [hv, hm]
    rw [hm] at h1
    have hb : m + 1 < 9223372036854775808 := by unfold maxLen at h2; omega
    obtain ⟨te, de⟩ := e
    dsimp only at q ⊢
    have hpos : (0 : Int) < ((m + 1 : Nat) : Int) := by omega
    have hsub : ((m + 1 : Nat) : Int) - 1 = (m : Int) := by omega
    have hm0 : (0 : Int) ≤ (m : Int) := by omega
    have hm1 : (m : Int) < ((m + 1 : Nat) : Int) := by omega
    clear h1 h2 h3 hc hl hm he hv
    go_enter Try.func37, Try.ntmps37
    go_wp2
    go_ret
    exact ⟨rfl, below_alloc _ _⟩

set_option maxHeartbeats 800000 in
theorem refMay_c (r : W.Rec) (w : World) : Calls Try.prog 29 #[recV r] w fun e w' => e = .returned (.bool (W.may r)) ∧ Below w.heap.size w w' := by
  have HI : Hid (∀ n l u, Calls Try.prog 65 #[.int .i64 n, .int .i64 l] u fun e w' => e = .returned (.bool (decide (l ≤ n) && decide (n ≤ 1099511627776))) ∧ w' = u) := refIndex_c
  obtain ⟨g, k, i, t, v, d⟩ := r
  unfold W.may W.mayK recV
  dsimp only
  by_cases hg : 0 ≤ g ∧ g < 9
  case neg =>
    rw [show W.isGroup g = false by unfold W.isGroup; simp; omega, Bool.false_and]
    by_cases h0 : g < 0
    · go_enter Try.func29, Try.ntmps29
      go_wp2
      go_ret
      exact ⟨rfl, below_alloc _ _⟩
    · have h9 : 9 ≤ g := by omega
      go_enter Try.func29, Try.ntmps29
      go_wp2
      go_ret
      exact ⟨rfl, below_alloc _ _⟩
  rw [W.isGroup_iff.2 hg, Bool.true_and]
  have hg0 : ¬ g < 0 := by omega
  have hg9 : ¬ 9 ≤ g := by omega
  clear hg
  have HT : Hid _ := HI.out t 0
  have HX1 : Hid _ := HI.out i 1
  have HX0 : Hid _ := HI.out i 0
  obtain ⟨bt, hbt⟩ : ∃ b, b = (decide (0 ≤ t) && decide (t ≤ 1099511627776)) := ⟨_, rfl⟩
  obtain ⟨b1, hb1⟩ : ∃ b, b = (decide (1 ≤ i) && decide (i ≤ 1099511627776)) := ⟨_, rfl⟩
  obtain ⟨b0, hb0⟩ : ∃ b, b = (decide (0 ≤ i) && decide (i ≤ 1099511627776)) := ⟨_, rfl⟩
  rw [← hbt] at HT
  rw [← hb1] at HX1
  rw [← hb0] at HX0
  have f1 : W.mayHard ⟨g, k, i, t, v, d⟩ = ((i == 0) && bt && decide (-1 ≤ v) && decide (v < 7) && d.toList.isEmpty) := by
    unfold W.mayHard W.ix
    dsimp only
    rw [← hbt]
    cases (i == 0) <;> cases bt <;> simp
  have f2 : W.mayEntry ⟨g, k, i, t, v, d⟩ = (b1 && bt && (v == 0) && decide ((d.size : Int) ≤ 131072)) := by
    unfold W.mayEntry W.mayBase W.ix
    dsimp only
    rw [← hbt, hb1, show decide (d.size ≤ 131072) = decide ((d.size : Int) ≤ 131072) from decide_eq_decide.2 (by omega)]
    rw [Bool.eq_iff_iff]
    simp only [Bool.and_eq_true, decide_eq_true_eq, beq_iff_eq]
    constructor
    · rintro ⟨h1, ⟨⟨⟨h2, h3⟩, h4⟩, h5⟩, h6⟩; exact ⟨⟨⟨⟨h1, h3⟩, h4⟩, h6⟩, h5⟩
    · rintro ⟨⟨⟨⟨h1, h3⟩, h4⟩, h6⟩, h5⟩; exact ⟨h1, ⟨⟨⟨by omega, h3⟩, h4⟩, h5⟩, h6⟩
  have f3 : W.mayCut ⟨g, k, i, t, v, d⟩ = (b1 && (t == 0) && (v == 0) && d.toList.isEmpty) := by
    unfold W.mayCut W.ix
    dsimp only
    rw [hb1]
    rw [Bool.eq_iff_iff]
    simp only [Bool.and_eq_true, decide_eq_true_eq, beq_iff_eq]
    constructor
    · rintro ⟨⟨⟨⟨h1, h2, h3⟩, h4⟩, h5⟩, h6⟩; exact ⟨⟨⟨⟨h1, h3⟩, h4⟩, h5⟩, h6⟩
    · rintro ⟨⟨⟨⟨h1, h3⟩, h4⟩, h5⟩, h6⟩; exact ⟨⟨⟨⟨h1, by omega, h3⟩, h4⟩, h5⟩, h6⟩
  have f4 : W.mayBase ⟨g, k, i, t, v, d⟩ = (b0 && bt && (v == 0) && decide ((d.size : Int) ≤ 131072)) := by
    unfold W.mayBase W.ix
    dsimp only
    rw [← hbt, ← hb0, show decide (d.size ≤ 131072) = decide ((d.size : Int) ≤ 131072) from decide_eq_decide.2 (by omega)]
    cases b0 <;> cases bt <;> cases (v == 0) <;> simp
  rw [f1, f2, f3, f4]
  clear f1 f2 f3 f4 hbt hb1 hb0 HI
  by_cases k1 : k = 1
  · subst k1
    rw [if_pos rfl]
    obtain ⟨c1, hc1⟩ : ∃ c, (i == 0) = c := ⟨_, rfl⟩
    rw [hc1]
    clear HX1 HX0
    cases c1
    · clear HT
      go_enter Try.func29, Try.ntmps29
      go_wp2
      go_ret
      exact ⟨rfl, below_alloc _ _⟩
    · go_enter Try.func29, Try.ntmps29
      go_wp2_with fail
      refine Calls.mono (HT.out _) ?_
      rintro e w1 ⟨rfl, hw⟩
      subst hw
      go_wp2
      all_goals (go_ret; refine ⟨?_, below_alloc _ _⟩; first | (simp_all; done) | (simp_all; omega))
  rw [if_neg k1]
  by_cases k2 : k = 2
  · subst k2
    rw [if_pos rfl]
    obtain ⟨c1, hc1⟩ : ∃ c, (v == 0) = c := ⟨_, rfl⟩
    obtain ⟨c2, hc2⟩ : ∃ c, decide ((d.size : Int) ≤ 131072) = c := ⟨_, rfl⟩
    rw [hc1, hc2]
    clear HX0 k1
    cases b1
    · clear HT
      go_enter Try.func29, Try.ntmps29
      go_wp2_with fail
      refine Calls.mono (HX1.out _) ?_
      rintro e w1 ⟨rfl, hw⟩
      subst hw
      go_wp2
      go_ret
      exact ⟨rfl, below_alloc _ _⟩
    · cases bt
      all_goals
        go_enter Try.func29, Try.ntmps29
        go_wp2_with fail
        refine Calls.mono (HX1.out _) ?_
        rintro e w1 ⟨rfl, hw⟩
        subst hw
        go_wp2_with fail
        refine Calls.mono (HT.out _) ?_
        rintro e w1 ⟨rfl, hw⟩
        subst hw
        go_wp2
        all_goals (go_ret; refine ⟨?_, below_alloc _ _⟩; first | (simp_all; done) | (simp_all; omega))
  rw [if_neg k2]
  by_cases k3 : k = 3
  · subst k3
    rw [if_pos rfl]
    clear HX0 HT k1 k2
    cases b1
    all_goals
      go_enter Try.func29, Try.ntmps29
      go_wp2_with fail
      refine Calls.mono (HX1.out _) ?_
      rintro e w1 ⟨rfl, hw⟩
      subst hw
      go_wp2
      all_goals (go_ret; refine ⟨?_, below_alloc _ _⟩; first | (simp_all; done) | (simp_all; omega))
  rw [if_neg k3]
  by_cases k4 : k = 4
  · subst k4
    rw [if_pos rfl]
    obtain ⟨c1, hc1⟩ : ∃ c, (v == 0) = c := ⟨_, rfl⟩
    obtain ⟨c2, hc2⟩ : ∃ c, decide ((d.size : Int) ≤ 131072) = c := ⟨_, rfl⟩
    rw [hc1, hc2]
    clear HX1 k1 k2 k3
    cases b0
    · clear HT
      go_enter Try.func29, Try.ntmps29
      go_wp2_with fail
      refine Calls.mono (HX0.out _) ?_
      rintro e w1 ⟨rfl, hw⟩
      subst hw
      go_wp2
      go_ret
      exact ⟨rfl, below_alloc _ _⟩
    · cases bt
      all_goals
        go_enter Try.func29, Try.ntmps29
        go_wp2_with fail
        refine Calls.mono (HX0.out _) ?_
        rintro e w1 ⟨rfl, hw⟩
        subst hw
        go_wp2_with fail
        refine Calls.mono (HT.out _) ?_
        rintro e w1 ⟨rfl, hw⟩
        subst hw
        go_wp2
        all_goals (go_ret; refine ⟨?_, below_alloc _ _⟩; first | (simp_all; done) | (simp_all; omega))
  rw [if_neg k4]
  have t1 : (k == 1) = false := by simpa using k1
  have t2 : (k == 2) = false := by simpa using k2
  have t3 : (k == 3) = false := by simpa using k3
  have t4 : (k == 4) = false := by simpa using k4
  clear k1 k2 k3 k4 HX0 HX1 HT
  go_enter Try.func29, Try.ntmps29
  go_wp2
  go_ret
  exact ⟨rfl, below_alloc _ _⟩

end Go.Proofs.Ytagcnhkodmjkgaa

namespace Go.Proofs.Ytagcnhkodmjkgaa
open Go.RowKit

theorem EntR.take {w : World} {p : Option Addr} {n c : Nat} {l : List (Int × ByteArray)} (h : EntR w (.slice p n c) l) {k : Nat} (hk : k ≤ n) : EntR w (.slice p k k) (l.take k) ∧ ∀ q, readBlk (.slice p k k) = some q → readBlk (.slice p n c) = some q := by
  obtain ⟨p', c', e, h1, h2, h3⟩ := h
  injection e with e1 e2 e3
  subst e1 e3
  have hl : (l.take k).length = k := by rw [List.length_take]; omega
  refine ⟨⟨p, k, by rw [hl], by omega, by omega, ?_⟩, ?_⟩
  · rcases h3 with e | ⟨g, off, e, hc⟩
    · left; rw [e, List.take_nil]
    · right
      refine ⟨g, off, e, fun i x hx => hc i x ?_⟩
      rw [List.getElem?_take] at hx
      split at hx
      · exact hx
      · cases hx
  · intro q hq
    cases p with
    | none => simp [readBlk] at hq
    | some a =>
      cases k with
      | zero => simp [readBlk] at hq
      | succ k =>
        obtain ⟨m, rfl⟩ : ∃ m, n = m + 1 := ⟨n - 1, by omega⟩
        exact hq

/-- What Fold answers. -/
def FoldOut (w : World) (s : W.Sv) (v : Value) (r : W.Rec) (e : Ending) (w' : World) : Prop :=
  ∃ v', e = .returned (.tuple #[savV (if W.fits s r then W.fold s r else s) v', .bool (W.fits s r)]) ∧ EntR w' v' (if W.fits s r then W.fold s r else s).ents ∧ Below w.heap.size w w' ∧ ∀ q, readBlk v' = some q → readBlk v = some q ∨ w.heap.size ≤ q

theorem below3 (w : World) (a b c : Obj) : Below w.heap.size w (((w.alloc a).alloc b).alloc c) :=
  ((below_alloc _ _).trans ((below_alloc _ _).mono (by simp))).trans ((below_alloc _ _).mono (by simp; omega))

theorem Below.set6 {B : Nat} {a w : World} (h : Below B a w) {b : Nat} (hb : B ≤ b) (u0 u1 u2 u3 u4 u5 : Value) :
    Below B a ((((((w.setCell ⟨b, 0, none⟩ u0).setCell ⟨b, 1, none⟩ u1).setCell ⟨b, 2, none⟩ u2).setCell ⟨b, 3, none⟩ u3).setCell ⟨b, 4, none⟩ u4).setCell ⟨b, 5, none⟩ u5) :=
  (((((h.setCell (p := ⟨b, 0, none⟩) hb u0).setCell (p := ⟨b, 1, none⟩) hb u1).setCell (p := ⟨b, 2, none⟩) hb u2).setCell (p := ⟨b, 3, none⟩) hb u3).setCell (p := ⟨b, 4, none⟩) hb u4).setCell (p := ⟨b, 5, none⟩) hb u5

/-- Three blocks that a call laid just now: what was saved, the record, the answer. -/
structure F3 (w X : World) (a : Nat) (S R Z : Array Value) : Prop where
  here : a = w.heap.size
  old : Below w.heap.size w X
  lt : a + 1 + 1 < X.heap.size
  s : ∀ j, X.cell? ⟨a, j, none⟩ = S[j]?
  r : ∀ j, X.cell? ⟨a + 1, j, none⟩ = R[j]?
  z : ∀ j, X.cell? ⟨a + 1 + 1, j, none⟩ = Z[j]?
  fs : ∀ j, X.frozen? ⟨a, j, none⟩ = false
  fz : ∀ j, X.frozen? ⟨a + 1 + 1, j, none⟩ = false
theorem F3.below {w X Y : World} {a : Nat} {S R Z : Array Value} (h : F3 w X a S R Z) (hb : Below X.heap.size X Y) : F3 w Y a S R Z := by
  have h0 := h.lt
  exact ⟨h.here, h.old.trans (hb.mono h.old.size), Nat.lt_of_lt_of_le h.lt hb.size, fun j => (hb.cell (p := ⟨a, j, none⟩) (by show a < _; omega)).trans (h.s j), fun j => (hb.cell (p := ⟨a + 1, j, none⟩) (by show a + 1 < _; omega)).trans (h.r j), fun j => (hb.cell (p := ⟨a + 1 + 1, j, none⟩) h0).trans (h.z j),
    fun j => (hb.frozen (p := ⟨a, j, none⟩) (by show a < _; omega)).trans (h.fs j), fun j => (hb.frozen (p := ⟨a + 1 + 1, j, none⟩) h0).trans (h.fz j)⟩
theorem F3.all {w X : World} {a : Nat} {s0 s1 s2 s3 s4 s5 z0 z1 z2 z3 z4 z5 : Value} {R : Array Value} (h : F3 w X a #[s0, s1, s2, s3, s4, s5] R #[z0, z1, z2, z3, z4, z5]) :
    X.cell? ⟨a, 0, none⟩ = some s0 ∧ X.cell? ⟨a, 1, none⟩ = some s1 ∧ X.cell? ⟨a, 2, none⟩ = some s2 ∧ X.cell? ⟨a, 3, none⟩ = some s3 ∧ X.cell? ⟨a, 4, none⟩ = some s4 ∧ X.cell? ⟨a, 5, none⟩ = some s5 ∧
    X.cell? ⟨a + 1 + 1, 0, none⟩ = some z0 ∧ X.cell? ⟨a + 1 + 1, 1, none⟩ = some z1 ∧ X.cell? ⟨a + 1 + 1, 2, none⟩ = some z2 ∧ X.cell? ⟨a + 1 + 1, 3, none⟩ = some z3 ∧ X.cell? ⟨a + 1 + 1, 4, none⟩ = some z4 ∧ X.cell? ⟨a + 1 + 1, 5, none⟩ = some z5 ∧
    (∀ j, X.frozen? ⟨a, j, none⟩ = false) ∧ (∀ j, X.frozen? ⟨a + 1 + 1, j, none⟩ = false) ∧ Below w.heap.size w X ∧ w.heap.size ≤ a :=
  ⟨h.s 0, h.s 1, h.s 2, h.s 3, h.s 4, h.s 5, h.z 0, h.z 1, h.z 2, h.z 3, h.z 4, h.z 5, h.fs, h.fz, h.old, Nat.le_of_eq h.here.symm⟩
theorem F3.start (w : World) (S R Z : Array Value) (t1 t2 t3 : TypeId) : F3 w (((w.alloc (.cells S t1)).alloc (.cells R t2)).alloc (.cells Z t3)) w.heap.size S R Z := by
  refine ⟨rfl, below3 _ _ _ _, by simp, fun j => ?_, fun j => ?_, fun j => ?_, fun j => ?_, fun j => ?_⟩
  · rw [World.cell?_alloc_lt _ _ _ (by simp; omega), World.cell?_alloc_lt _ _ _ (by simp)]
    exact World.cell?_alloc_mark w _ _ _ j
  · rw [World.cell?_alloc_lt _ _ _ (by simp)]
    have e := World.cell?_alloc_mark (w.alloc (.cells S t1)) R t2 (0, 0) j
    rw [← e]
    simp
  · have e := World.cell?_alloc_mark ((w.alloc (.cells S t1)).alloc (.cells R t2)) Z t3 (0, 0) j
    rw [← e]
    simp
  · rw [World.frozen?_alloc_old _ _ _ (by simp; omega), World.frozen?_alloc_old _ _ _ (by simp), World.frozen?_alloc_mark]
    simp
  · simp [go_sem]

set_option maxHeartbeats 800000 in
theorem refFold1 {w : World} {s : W.Sv} {v : Value} (h : EntR w v s.ents) (r : W.Rec) (hk : r.kind = 1) : Calls Try.prog 16 #[savV s v, recV r] w (FoldOut w s v r) := by
  have HE : Hid (EntR w v s.ents) := h
  obtain ⟨p, c, hv, _⟩ := h
  have HO : Hid (∀ u, Below w.heap.size w u → FoldOut w s v r (.returned (.tuple #[.agg #[.int .i64 r.term, .int .i64 r.vote, .int .i64 s.base, .int .i64 s.bterm, .string s.data, v], .bool true])) u) := by
    intro u hu
    have e1 : W.fits s r = true := by unfold W.fits; rw [if_pos hk]
    have e2 : W.fold s r = W.doHard s r := by unfold W.fold; rw [if_pos hk]
    unfold FoldOut
    rw [e1, if_pos rfl, e2]
    exact ⟨v, rfl, EntR.below HE.out hu, hu, fun q hq => .inl hq⟩
  generalize FoldOut w s v r = Q at HO ⊢
  unfold savV recV
  rw [hv] at HO ⊢
  obtain ⟨n, hn⟩ : ∃ n, n = s.ents.length := ⟨_, rfl⟩
  rw [← hn] at HO ⊢
  obtain ⟨t, x, b, y, d, l⟩ := s
  obtain ⟨rg, rk, ri, rt, rv, rd⟩ := r
  dsimp only at hk HO ⊢
  subst hk
  clear HE hn hv
  go_enter Try.func16, Try.ntmps16
  go_wp2
  refine bodyPost_ret (v := .tuple #[.agg #[.int .i64 rt, .int .i64 rv, .int .i64 b, .int .i64 y, .string d, .slice p n c], .bool true]) ?qres rfl ?qpost
  case qres => simp [results, Try.results16, go_sem]
  case qpost => exact HO.out _ (below3 _ _ _ _)

set_option maxHeartbeats 1600000 in
theorem refFold3 {w : World} {s : W.Sv} {v : Value} (h : EntR w v s.ents) (ok : W.Ok s) (r : W.Rec) (hk : r.kind = 3) (hi : 1 ≤ r.index ∧ r.index ≤ 1099511627776) : Calls Try.prog 16 #[savV s v, recV r] w (FoldOut w s v r) := by
  have HE : Hid (EntR w v s.ents) := h
  have HLs : Hid (∀ u, Below w.heap.size w u → Calls Try.prog 36 #[savV s v] u fun e w' => e = .returned (.int .i64 (W.last s)) ∧ Below u.heap.size u w') := fun u hu => refLast_c (EntR.below h hu) ok
  have ef : W.fits s r = W.fitsCut s r := by unfold W.fits; rw [if_neg (by omega), if_neg (by omega), if_pos hk]
  have ed : W.fold s r = W.doCut s r := by unfold W.fold; rw [if_neg (by omega), if_neg (by omega), if_pos hk]
  have HO1 : Hid (W.fitsCut s r = false → ∀ u, Below w.heap.size w u → FoldOut w s v r (.returned (.tuple #[savV s v, .bool false])) u) := by
    intro hf u hu
    unfold FoldOut
    rw [ef, hf]
    exact ⟨v, rfl, EntR.below HE.out hu, hu, fun q hq => .inl hq⟩
  obtain ⟨p, c, hv, hc1, hc2, hc3⟩ := h
  have HO2 : Hid (W.fitsCut s r = true → ∀ k : Nat, r.index - s.base - 1 = (k : Int) → k ≤ s.ents.length → ∀ u, Below w.heap.size w u → FoldOut w s v r (.returned (.tuple #[.agg #[.int .i64 s.term, .int .i64 s.vote, .int .i64 s.base, .int .i64 s.bterm, .string s.data, .slice p k k], .bool true])) u) := by
    intro hf k hk' hkl u hu
    unfold FoldOut
    rw [ef, hf, if_pos rfl, ed]
    have e := HE.out
    rw [hv] at e ⊢
    obtain ⟨e1, e2⟩ := EntR.take e hkl
    have e3 : (W.doCut s r).ents = s.ents.take k := by unfold W.doCut; rw [hk', Int.toNat_natCast]
    rw [e3]
    exact ⟨.slice p k k, rfl, EntR.below e1 hu, hu, fun q hq => .inl (e2 q hq)⟩
  generalize FoldOut w s v r = Q at HO1 HO2 ⊢
  have k1 := ok.base
  have k2 := ok.last
  obtain ⟨z, hz⟩ : ∃ z, z = W.last s := ⟨_, rfl⟩
  have hzl : z = s.base + (s.ents.length : Int) := hz
  rw [← hz] at HLs k2
  unfold W.fitsCut at HO1 HO2
  rw [← hz] at HO1 HO2
  unfold savV at HLs HO1 ⊢
  unfold recV
  rw [hv] at HO1 HLs ⊢
  obtain ⟨n, hn⟩ : ∃ n, n = s.ents.length := ⟨_, rfl⟩
  rw [← hn] at HO1 HO2 HLs hzl hc1 ⊢
  obtain ⟨t, x, b, y, d, l⟩ := s
  obtain ⟨rg, rk, ri, rt, rv, rd⟩ := r
  dsimp only at hk hi k1 HO1 HO2 HLs hzl ⊢
  subst hk
  clear HE hn hv ef ed ok hz hc3
  by_cases hb : ri ≤ b
  · have HF : Hid _ := HO1.out (by simp; omega)
    clear HO1 HO2 HLs k1 k2 hi hc1 hc2 hzl
    go_enter Try.func16, Try.ntmps16
    go_wp2
    go_quiet (fail)
    go_wp2
    refine bodyPost_ret (v := .tuple #[.agg #[.int .i64 t, .int .i64 x, .int .i64 b, .int .i64 y, .string d, .slice p n c], .bool false]) ?qres rfl ?qpost
    case qres => simp [results, Try.results16, go_sem]
    case qpost => exact HF.out _ (Below.set6 ((below3 _ _ _ _).trans ((below_drewN _ _).mono (below3 _ _ _ _).size)) (by omega) _ _ _ _ _ _)
  have HK : Hid (∀ X a S R Z, F3 w X a S R Z → Below w.heap.size w X) := fun _ _ _ _ _ h => h.old
  have hd1 : decide (ri ≤ b) = false := decide_eq_false hb
  by_cases hl : z < ri
  · have HF : Hid _ := HO1.out (by simp; omega)
    have hd2 : decide (z < ri) = true := decide_eq_true hl
    clear HO1 HO2 k1 k2 hi hc1 hc2 hzl hb hl
    go_enter Try.func16, Try.ntmps16
    go_wp2_with fail
    obtain ⟨u, a, hu, ha, h3⟩ : ∃ u a, u = ((w.alloc (.cells #[.int .i64 t, .int .i64 x, .int .i64 b, .int .i64 y, .string d, .slice p n c] 45)).alloc (.cells #[.int .i64 rg, .int .i64 3, .int .i64 ri, .int .i64 rt, .int .i64 rv, .string rd] 37)).alloc (.cells #[.int .i64 0, .int .i64 0, .int .i64 0, .int .i64 0, .string ⟨#[]⟩, .slice none 0 0] 45) ∧ a = w.heap.size ∧ F3 w u.drew a #[.int .i64 t, .int .i64 x, .int .i64 b, .int .i64 y, .string d, .slice p n c] #[.int .i64 rg, .int .i64 3, .int .i64 ri, .int .i64 rt, .int .i64 rv, .string rd] #[.int .i64 0, .int .i64 0, .int .i64 0, .int .i64 0, .string ⟨#[]⟩, .slice none 0 0] :=
      ⟨_, _, rfl, rfl, (F3.start w _ _ _ _ _ _).below (Below.refl _ _).drew⟩
    rw [← hu, ← ha]
    clear hu ha
    have KL : Hid (∀ X, F3 w X a #[.int .i64 t, .int .i64 x, .int .i64 b, .int .i64 y, .string d, .slice p n c] #[.int .i64 rg, .int .i64 3, .int .i64 ri, .int .i64 rt, .int .i64 rv, .string rd] #[.int .i64 0, .int .i64 0, .int .i64 0, .int .i64 0, .string ⟨#[]⟩, .slice none 0 0] → Calls Try.prog 36 #[.agg #[.int .i64 t, .int .i64 x, .int .i64 b, .int .i64 y, .string d, .slice p n c]] X fun e w' => e = .returned (.int .i64 z) ∧ F3 w w' a #[.int .i64 t, .int .i64 x, .int .i64 b, .int .i64 y, .string d, .slice p n c] #[.int .i64 rg, .int .i64 3, .int .i64 ri, .int .i64 rt, .int .i64 rv, .string rd] #[.int .i64 0, .int .i64 0, .int .i64 0, .int .i64 0, .string ⟨#[]⟩, .slice none 0 0]) := by
      intro X hX
      refine (HLs.out X hX.old).mono ?_
      rintro e w' ⟨rfl, hb⟩
      exact ⟨rfl, hX.below hb⟩
    have HC : Hid (∀ X, F3 w X a #[.int .i64 t, .int .i64 x, .int .i64 b, .int .i64 y, .string d, .slice p n c] #[.int .i64 rg, .int .i64 3, .int .i64 ri, .int .i64 rt, .int .i64 rv, .string rd] #[.int .i64 0, .int .i64 0, .int .i64 0, .int .i64 0, .string ⟨#[]⟩, .slice none 0 0] → X.cell? ⟨a, 0, none⟩ = some (.int .i64 t) ∧ X.cell? ⟨a, 1, none⟩ = some (.int .i64 x) ∧ X.cell? ⟨a, 2, none⟩ = some (.int .i64 b) ∧ X.cell? ⟨a, 3, none⟩ = some (.int .i64 y) ∧ X.cell? ⟨a, 4, none⟩ = some (.string d) ∧ X.cell? ⟨a, 5, none⟩ = some (.slice p n c) ∧ X.cell? ⟨a + 1, 2, none⟩ = some (.int .i64 ri)) := by
      intro X h
      exact ⟨h.s 0, h.s 1, h.s 2, h.s 3, h.s 4, h.s 5, h.r 2⟩
    go_region_held (fun X => X.cell? ⟨a, 0, none⟩ = some (.int .i64 t) ∧ X.cell? ⟨a, 1, none⟩ = some (.int .i64 x) ∧ X.cell? ⟨a, 2, none⟩ = some (.int .i64 b) ∧ X.cell? ⟨a, 3, none⟩ = some (.int .i64 y) ∧ X.cell? ⟨a, 4, none⟩ = some (.string d) ∧ X.cell? ⟨a, 5, none⟩ = some (.slice p n c) ∧ X.cell? ⟨a + 1, 2, none⟩ = some (.int .i64 ri))
      (exact HC.out _ (by assumption))
      (first | (go_at_call 36; refine (KL.out _ ?_).mono ?_; assumption; rintro e w6 ⟨rfl, hg6⟩))
    obtain ⟨y0, y1, y2, y3, y4, y5, z0, z1, z2, z3, z4, z5, ff, fg, hB, hA⟩ := hg6.all
    have HB : Hid _ := hB
    have HA : Hid _ := hA
    clear hg6 hB hA KL HC h3 HK HLs
    go_wp2
    refine bodyPost_ret (v := .tuple #[.agg #[.int .i64 t, .int .i64 x, .int .i64 b, .int .i64 y, .string d, .slice p n c], .bool false]) ?qres rfl ?qpost
    case qres => simp [results, Try.results16, go_sem, z0, z1, z2, z3, z4, z5]
    case qpost => exact HF.out _ (Below.set6 HB.out (by have := HA.out; omega) _ _ _ _ _ _)
  obtain ⟨k, hk⟩ : ∃ k : Nat, ri - b - 1 = (k : Int) := ⟨(ri - b - 1).toNat, by omega⟩
  have hkn : k ≤ n := by omega
  have HF : Hid _ := HO2.out (by simp; omega) k hk hkn
  have hd2 : decide (z < ri) = false := decide_eq_false hl
  have hw1 : IntKind.i64.wrap (ri - b) = (k : Int) + 1 := by rw [wraps_i64 _ (by omega) (by rw [pow63]; omega)]; omega
  have hw2 : IntKind.i64.wrap ((k : Int) + 1 - 1) = (k : Int) := by rw [wraps_i64 _ (by omega) (by rw [pow63]; omega)]; omega
  have hkc : k ≤ c := by omega
  have hcb : c < 9223372036854775808 := by unfold maxLen at hc2; omega
  have hk0 : (0 : Int) ≤ (k : Int) := by omega
  clear HO1 HO2 k1 k2 hi hc1 hc2 hzl hb hl hk hkn
  go_enter Try.func16, Try.ntmps16
  go_wp2_with fail
  obtain ⟨u, a, hu, ha, h3⟩ : ∃ u a, u = ((w.alloc (.cells #[.int .i64 t, .int .i64 x, .int .i64 b, .int .i64 y, .string d, .slice p n c] 45)).alloc (.cells #[.int .i64 rg, .int .i64 3, .int .i64 ri, .int .i64 rt, .int .i64 rv, .string rd] 37)).alloc (.cells #[.int .i64 0, .int .i64 0, .int .i64 0, .int .i64 0, .string ⟨#[]⟩, .slice none 0 0] 45) ∧ a = w.heap.size ∧ F3 w u.drew a #[.int .i64 t, .int .i64 x, .int .i64 b, .int .i64 y, .string d, .slice p n c] #[.int .i64 rg, .int .i64 3, .int .i64 ri, .int .i64 rt, .int .i64 rv, .string rd] #[.int .i64 0, .int .i64 0, .int .i64 0, .int .i64 0, .string ⟨#[]⟩, .slice none 0 0] :=
    ⟨_, _, rfl, rfl, (F3.start w _ _ _ _ _ _).below (Below.refl _ _).drew⟩
  rw [← hu, ← ha]
  clear hu ha
  have KL : Hid (∀ X, F3 w X a #[.int .i64 t, .int .i64 x, .int .i64 b, .int .i64 y, .string d, .slice p n c] #[.int .i64 rg, .int .i64 3, .int .i64 ri, .int .i64 rt, .int .i64 rv, .string rd] #[.int .i64 0, .int .i64 0, .int .i64 0, .int .i64 0, .string ⟨#[]⟩, .slice none 0 0] → Calls Try.prog 36 #[.agg #[.int .i64 t, .int .i64 x, .int .i64 b, .int .i64 y, .string d, .slice p n c]] X fun e w' => e = .returned (.int .i64 z) ∧ F3 w w' a #[.int .i64 t, .int .i64 x, .int .i64 b, .int .i64 y, .string d, .slice p n c] #[.int .i64 rg, .int .i64 3, .int .i64 ri, .int .i64 rt, .int .i64 rv, .string rd] #[.int .i64 0, .int .i64 0, .int .i64 0, .int .i64 0, .string ⟨#[]⟩, .slice none 0 0]) := by
    intro X hX
    refine (HLs.out X hX.old).mono ?_
    rintro e w' ⟨rfl, hb⟩
    exact ⟨rfl, hX.below hb⟩
  have HC : Hid (∀ X, F3 w X a #[.int .i64 t, .int .i64 x, .int .i64 b, .int .i64 y, .string d, .slice p n c] #[.int .i64 rg, .int .i64 3, .int .i64 ri, .int .i64 rt, .int .i64 rv, .string rd] #[.int .i64 0, .int .i64 0, .int .i64 0, .int .i64 0, .string ⟨#[]⟩, .slice none 0 0] → X.cell? ⟨a, 0, none⟩ = some (.int .i64 t) ∧ X.cell? ⟨a, 1, none⟩ = some (.int .i64 x) ∧ X.cell? ⟨a, 2, none⟩ = some (.int .i64 b) ∧ X.cell? ⟨a, 3, none⟩ = some (.int .i64 y) ∧ X.cell? ⟨a, 4, none⟩ = some (.string d) ∧ X.cell? ⟨a, 5, none⟩ = some (.slice p n c) ∧ X.cell? ⟨a + 1, 2, none⟩ = some (.int .i64 ri)) := by
    intro X h
    exact ⟨h.s 0, h.s 1, h.s 2, h.s 3, h.s 4, h.s 5, h.r 2⟩
  go_region_held (fun X => X.cell? ⟨a, 0, none⟩ = some (.int .i64 t) ∧ X.cell? ⟨a, 1, none⟩ = some (.int .i64 x) ∧ X.cell? ⟨a, 2, none⟩ = some (.int .i64 b) ∧ X.cell? ⟨a, 3, none⟩ = some (.int .i64 y) ∧ X.cell? ⟨a, 4, none⟩ = some (.string d) ∧ X.cell? ⟨a, 5, none⟩ = some (.slice p n c) ∧ X.cell? ⟨a + 1, 2, none⟩ = some (.int .i64 ri))
    (exact HC.out _ (by assumption))
    (first | (go_at_call 36; refine (KL.out _ ?_).mono ?_; assumption; rintro e w6 ⟨rfl, hg6⟩))
  obtain ⟨y0, y1, y2, y3, y4, y5, z0, z1, z2, z3, z4, z5, ff, fg, hB, hA⟩ := hg6.all
  have r2 : w6.cell? ⟨a + 1, 2, none⟩ = some (.int .i64 ri) := hg6.r 2
  have HB : Hid _ := hB
  have HA : Hid _ := hA
  clear hg6 hB hA KL HC h3 HK HLs
  go_wp2
  refine bodyPost_ret (v := .tuple #[.agg #[.int .i64 t, .int .i64 x, .int .i64 b, .int .i64 y, .string d, .slice p k k], .bool true]) ?qres rfl ?qpost
  case qres => simp [results, Try.results16, go_sem, z0, z1, z2, z3, z4, z5]
  case qpost => exact HF.out _ (Below.set6 (HB.out.setCell (by have := HA.out; exact this) _) (by have := HA.out; omega) _ _ _ _ _ _)
end Go.Proofs.Ytagcnhkodmjkgaa

namespace Go.Proofs.Ytagcnhkodmjkgaa
open Go.RowKit

theorem EntR.src {w : World} {p : Option Addr} {n c : Nat} {l : List (Int × ByteArray)} (h : EntR w (.slice p n c) l) : Src Try.prog 2 43 (.slice p n c) n (entCells l) w := by
  obtain ⟨p', c', e, h1, h2, h3⟩ := h
  injection e with e1 e2 e3
  subst e1 e2 e3
  by_cases hl : l = []
  · subst hl
    cases p
    · exact Src.ofNil w Try.underlying43 c
    · exact Src.ofSlice w Try.underlying43 _ _ _ _ rfl (fun j u hu => by simp [entCells] at hu) (entCells_one _)
  · obtain ⟨g, off, rfl, hc⟩ := h3.resolve_left hl
    refine Src.ofSlice w Try.underlying43 _ _ _ _ (entCells_len l) (fun j u hu => ?_) (entCells_one _)
    have hj : j < l.length * 2 := by rw [← entCells_len]; exact (List.getElem?_eq_some_iff.1 hu).1
    obtain ⟨x, hx⟩ : ∃ x, l[j / 2]? = some x := ⟨_, List.getElem?_eq_getElem (by omega)⟩
    obtain ⟨q1, q2⟩ := entCells_at l (j / 2) x hx
    obtain ⟨c1, c2⟩ := hc (j / 2) x hx
    have ea : (⟨g, off, none⟩ : Addr).add j = ⟨g, off + j, none⟩ := by simp [Addr.add]
    rw [ea]
    rcases Nat.mod_two_eq_zero_or_one j with m | m
    · have ej : j / 2 * 2 = j := by omega
      rw [ej, hu] at q1
      rw [ej] at c1
      rw [c1, ← q1]
    · have ej : j / 2 * 2 + 1 = j := by omega
      rw [ej, hu] at q2
      rw [Nat.add_assoc, ej] at c2
      rw [c2, ← q2]

theorem F3.grown {w X Y : World} {a : Nat} {S R Z : Array Value} {row : Option Nat} (h : F3 w X a S R Z) (hg : X.grownBy Y row) (hr : ∀ k, row = some k → a + 1 + 1 < k) : F3 w Y a S R Z := by
  have h0 := h.lt
  have hh := h.here
  have key : ∀ k, k ≤ a + 1 + 1 → Y.heap[k]? = X.heap[k]? := fun k hk => hg.block k (by omega) (fun e => by have := hr k e.symm; omega)
  exact ⟨h.here, h.old.grown hg (by exact h.old.size) (fun k e => by have := hr k e; omega), Nat.lt_of_lt_of_le h.lt hg.size,
    fun j => (World.cell?_of_block (a := ⟨a, j, none⟩) (key a (by omega))).trans (h.s j), fun j => (World.cell?_of_block (a := ⟨a + 1, j, none⟩) (key (a + 1) (by omega))).trans (h.r j), fun j => (World.cell?_of_block (a := ⟨a + 1 + 1, j, none⟩) (key (a + 1 + 1) (by omega))).trans (h.z j),
    fun j => (World.frozen?_of_block (a := ⟨a, j, none⟩) (key a (by omega))).trans (h.fs j), fun j => (World.frozen?_of_block (a := ⟨a + 1 + 1, j, none⟩) (key (a + 1 + 1) (by omega))).trans (h.fz j)⟩

theorem readBlk_row {p : Option Addr} {n c q : Nat} (h : readBlk (.slice p n c) = some q) (hc : n ≤ c) : rowBlk (.slice p n c) = some q := by
  cases p with
  | none => simp [readBlk] at h
  | some a =>
    cases n with
    | zero => simp [readBlk] at h
    | succ n =>
      obtain ⟨m, rfl⟩ : ∃ m, c = m + 1 := ⟨c - 1, by omega⟩
      exact h

set_option maxHeartbeats 1600000 in
theorem refFold2 {w : World} {s : W.Sv} {v : Value} (h : EntR w v s.ents) (ok : W.Ok s) (r : W.Rec) (hk : r.kind = 2) (hf : W.fitsEntry s r = true) (hi : r.index ≤ 1099511627776) : Calls Try.prog 16 #[savV s v, recV r] w (FoldOut w s v r) := by
  have HLs : Hid (∀ u, Below w.heap.size w u → Calls Try.prog 36 #[savV s v] u fun e w' => e = .returned (.int .i64 (W.last s)) ∧ Below u.heap.size u w') := fun u hu => refLast_c (EntR.below h hu) ok
  have HEs : Hid (∀ u, Below w.heap.size w u → Calls Try.prog 37 #[savV s v] u fun e w' => e = .returned (.int .i64 (W.termAt s (W.last s))) ∧ Below u.heap.size u w') := fun u hu => refEnd_c (EntR.below h hu)
  have HE : Hid (EntR w v s.ents) := h
  have ef : W.fits s r = true := by unfold W.fits; rw [if_neg (by omega), if_pos hk]; exact hf
  have ed : W.fold s r = W.doEntry s r := by unfold W.fold; rw [if_neg (by omega), if_pos hk]
  obtain ⟨p, c, hv, hc1, hc2, hc3⟩ := h
  have HO : Hid (∀ p' c' u, EntR u (.slice p' (s.ents.length + 1) c') (s.ents ++ [(r.term, r.data)]) → Below w.heap.size w u → (∀ q, readBlk (.slice p' (s.ents.length + 1) c') = some q → w.heap.size ≤ q) → FoldOut w s v r (.returned (.tuple #[.agg #[.int .i64 s.term, .int .i64 s.vote, .int .i64 s.base, .int .i64 s.bterm, .string s.data, .slice p' (s.ents.length + 1) c'], .bool true])) u) := by
    intro p' c' u h1 hu h2
    unfold FoldOut
    rw [ef, if_pos rfl, ed]
    exact ⟨_, rfl, h1, hu, fun q hq => .inr (h2 q hq)⟩
  generalize FoldOut w s v r = Q at HO ⊢
  have k1 := ok.base
  have k2 := ok.last
  unfold W.fitsEntry at hf
  simp only [Bool.and_eq_true, decide_eq_true_eq, beq_iff_eq] at hf
  obtain ⟨z, hz⟩ : ∃ z, z = W.last s := ⟨_, rfl⟩
  have hzl : z = s.base + (s.ents.length : Int) := hz
  rw [← hz] at HLs HEs k2 hf
  obtain ⟨te, hte⟩ : ∃ te, te = W.termAt s z := ⟨_, rfl⟩
  rw [← hte] at HEs hf
  unfold savV at HLs HEs ⊢
  unfold recV
  rw [hv] at HLs HEs HE ⊢
  obtain ⟨n, hn⟩ : ∃ n, n = s.ents.length := ⟨_, rfl⟩
  have HN : Hid (n = s.ents.length) := hn
  rw [← hn] at HO HLs HEs HE hzl hc1 ⊢
  obtain ⟨t, x, b, y, d, l⟩ := s
  obtain ⟨rg, rk, ri, rt, rv, rd⟩ := r
  dsimp only at hk hi hf k1 HO HLs HEs HE HN hzl ⊢
  subst hk
  obtain ⟨hf1, hf2⟩ := hf
  subst hf1
  have hd1 : ((z + 1 : Int) != z + 1) = false := by simp
  have hd2 : decide (rt < te) = false := decide_eq_false (by omega)
  have hnb : n ≤ 1099511627776 := by omega
  have hwz : IntKind.i64.wrap (z + 1) = z + 1 := wraps_i64 _ (by omega) (by rw [pow63]; omega)
  clear hn hv ef ed ok hz hc3 hte k1 k2 hzl hi hf2 hc1 hc2
  go_enter Try.func16, Try.ntmps16
  go_wp2_with fail
  obtain ⟨u, a, hu, ha, h3⟩ : ∃ u a, u = ((w.alloc (.cells #[.int .i64 t, .int .i64 x, .int .i64 b, .int .i64 y, .string d, .slice p n c] 45)).alloc (.cells #[.int .i64 rg, .int .i64 2, .int .i64 (z + 1), .int .i64 rt, .int .i64 rv, .string rd] 37)).alloc (.cells #[.int .i64 0, .int .i64 0, .int .i64 0, .int .i64 0, .string ⟨#[]⟩, .slice none 0 0] 45) ∧ a = w.heap.size ∧ F3 w u.drew a #[.int .i64 t, .int .i64 x, .int .i64 b, .int .i64 y, .string d, .slice p n c] #[.int .i64 rg, .int .i64 2, .int .i64 (z + 1), .int .i64 rt, .int .i64 rv, .string rd] #[.int .i64 0, .int .i64 0, .int .i64 0, .int .i64 0, .string ⟨#[]⟩, .slice none 0 0] :=
    ⟨_, _, rfl, rfl, (F3.start w _ _ _ _ _ _).below (Below.refl _ _).drew⟩
  rw [← hu, ← ha]
  clear hu ha
  have KL : Hid (∀ X, F3 w X a #[.int .i64 t, .int .i64 x, .int .i64 b, .int .i64 y, .string d, .slice p n c] #[.int .i64 rg, .int .i64 2, .int .i64 (z + 1), .int .i64 rt, .int .i64 rv, .string rd] #[.int .i64 0, .int .i64 0, .int .i64 0, .int .i64 0, .string ⟨#[]⟩, .slice none 0 0] → Calls Try.prog 36 #[.agg #[.int .i64 t, .int .i64 x, .int .i64 b, .int .i64 y, .string d, .slice p n c]] X fun e w' => e = .returned (.int .i64 z) ∧ F3 w w' a #[.int .i64 t, .int .i64 x, .int .i64 b, .int .i64 y, .string d, .slice p n c] #[.int .i64 rg, .int .i64 2, .int .i64 (z + 1), .int .i64 rt, .int .i64 rv, .string rd] #[.int .i64 0, .int .i64 0, .int .i64 0, .int .i64 0, .string ⟨#[]⟩, .slice none 0 0]) := by
    intro X hX
    refine (HLs.out X hX.old).mono ?_
    rintro e w' ⟨rfl, hb⟩
    exact ⟨rfl, hX.below hb⟩
  have KE : Hid (∀ X, F3 w X a #[.int .i64 t, .int .i64 x, .int .i64 b, .int .i64 y, .string d, .slice p n c] #[.int .i64 rg, .int .i64 2, .int .i64 (z + 1), .int .i64 rt, .int .i64 rv, .string rd] #[.int .i64 0, .int .i64 0, .int .i64 0, .int .i64 0, .string ⟨#[]⟩, .slice none 0 0] → Calls Try.prog 37 #[.agg #[.int .i64 t, .int .i64 x, .int .i64 b, .int .i64 y, .string d, .slice p n c]] X fun e w' => e = .returned (.int .i64 te) ∧ F3 w w' a #[.int .i64 t, .int .i64 x, .int .i64 b, .int .i64 y, .string d, .slice p n c] #[.int .i64 rg, .int .i64 2, .int .i64 (z + 1), .int .i64 rt, .int .i64 rv, .string rd] #[.int .i64 0, .int .i64 0, .int .i64 0, .int .i64 0, .string ⟨#[]⟩, .slice none 0 0]) := by
    intro X hX
    refine (HEs.out X hX.old).mono ?_
    rintro e w' ⟨rfl, hb⟩
    exact ⟨rfl, hX.below hb⟩
  have HC : Hid (∀ X, F3 w X a #[.int .i64 t, .int .i64 x, .int .i64 b, .int .i64 y, .string d, .slice p n c] #[.int .i64 rg, .int .i64 2, .int .i64 (z + 1), .int .i64 rt, .int .i64 rv, .string rd] #[.int .i64 0, .int .i64 0, .int .i64 0, .int .i64 0, .string ⟨#[]⟩, .slice none 0 0] → X.cell? ⟨a, 0, none⟩ = some (.int .i64 t) ∧ X.cell? ⟨a, 1, none⟩ = some (.int .i64 x) ∧ X.cell? ⟨a, 2, none⟩ = some (.int .i64 b) ∧ X.cell? ⟨a, 3, none⟩ = some (.int .i64 y) ∧ X.cell? ⟨a, 4, none⟩ = some (.string d) ∧ X.cell? ⟨a, 5, none⟩ = some (.slice p n c) ∧ X.cell? ⟨a + 1, 2, none⟩ = some (.int .i64 (z + 1)) ∧ X.cell? ⟨a + 1, 3, none⟩ = some (.int .i64 rt)) := by
    intro X h
    exact ⟨h.s 0, h.s 1, h.s 2, h.s 3, h.s 4, h.s 5, h.r 2, h.r 3⟩
  go_region_held (fun X => X.cell? ⟨a, 0, none⟩ = some (.int .i64 t) ∧ X.cell? ⟨a, 1, none⟩ = some (.int .i64 x) ∧ X.cell? ⟨a, 2, none⟩ = some (.int .i64 b) ∧ X.cell? ⟨a, 3, none⟩ = some (.int .i64 y) ∧ X.cell? ⟨a, 4, none⟩ = some (.string d) ∧ X.cell? ⟨a, 5, none⟩ = some (.slice p n c) ∧ X.cell? ⟨a + 1, 2, none⟩ = some (.int .i64 (z + 1)) ∧ X.cell? ⟨a + 1, 3, none⟩ = some (.int .i64 rt))
    (exact HC.out _ (by assumption))
    (first
      | (go_at_call 36; refine (KL.out _ ?_).mono ?_; assumption; rintro e w6 ⟨rfl, hg6⟩)
      | (go_at_call 37; refine (KE.out _ ?_).mono ?_; assumption; rintro e w7 ⟨rfl, hg7⟩))
  obtain ⟨y0, y1, y2, y3, y4, y5, z0, z1, z2, z3, z4, z5, ff, fg, hB, hA⟩ := hg7.all
  have r3 : w7.cell? ⟨a + 1, 3, none⟩ = some (.int .i64 rt) := hg7.r 3
  have r5 : w7.cell? ⟨a + 1, 5, none⟩ = some (.string rd) := hg7.r 5
  have HB : Hid _ := hB
  have HA : Hid _ := hA
  have HSrc : Hid (Src Try.prog 2 43 (.slice p n c) n (entCells l) w7) := EntR.src (EntR.below HE.out hB)
  have HG7 : Hid (F3 w w7 a #[.int .i64 t, .int .i64 x, .int .i64 b, .int .i64 y, .string d, .slice p n c] #[.int .i64 rg, .int .i64 2, .int .i64 (z + 1), .int .i64 rt, .int .i64 rv, .string rd] #[.int .i64 0, .int .i64 0, .int .i64 0, .int .i64 0, .string ⟨#[]⟩, .slice none 0 0]) := hg7
  have hn1 : Hid ((0 + n) * 24 ≤ 140737488355328) := by show _ ≤ _; omega
  have hn2 : Hid (0 + n ≤ maxLen) := by unfold maxLen; show _ ≤ _; omega
  clear hg6 hg7 hB hA KL KE HC h3 HLs HEs
  go_wp2_with (at_builtin; refine wpList_append_row rfl (.tmp 43) (.tmp 45) 43 43 77 rfl Try.underlying43 _ 2 24 infoEnt rfl (.slice none 0 0) 0 [] rfl (RowV.nil _ _ _ _) (.slice p n c) n (entCells l) rfl HSrc.out hn1.out hn2.out ?qnext)
  case qnext =>
    intro v1 w8 ho hg hloc
    have hb8 : Below w7.heap.size w7 w8 := (Below.refl _ w7).grown hg (Nat.le_refl _) (by intro k hk; simp [rowBlk] at hk)
    have HG8 : Hid (F3 w w8 a #[.int .i64 t, .int .i64 x, .int .i64 b, .int .i64 y, .string d, .slice p n c] #[.int .i64 rg, .int .i64 2, .int .i64 (z + 1), .int .i64 rt, .int .i64 rv, .string rd] #[.int .i64 0, .int .i64 0, .int .i64 0, .int .i64 0, .string ⟨#[]⟩, .slice none 0 0]) := HG7.out.below hb8
    have HR8 : Hid (RowV w8 77 2 v1 n (entCells l)) := by simpa [Hid] using ho
    have HK8 : Hid (∀ k, rowBlk v1 = some k → a + 1 + 1 < k) := by
      intro k hk
      have := HG7.out.lt
      rcases hloc k hk with q | q
      · simp [rowBlk] at q
      · omega
    obtain ⟨p1, c1, hv1, _⟩ := HR8.out.form
    subst hv1
    clear ho hg hloc hb8 HG7 HSrc hn1 hn2 y0 y1 y2 y3 y4 y5 z0 z1 z2 z3 z4 z5 ff fg r3 r5 HB HA
    obtain ⟨y0, y1, y2, y3, y4, y5, z0, z1, z2, z3, z4, z5, ff, fg, hB, hA⟩ := HG8.out.all
    have r3 : w8.cell? ⟨a + 1, 3, none⟩ = some (.int .i64 rt) := HG8.out.r 3
    have r5 : w8.cell? ⟨a + 1, 5, none⟩ = some (.string rd) := HG8.out.r 5
    have lt1 : a + 1 < w8.heap.size := by have := HG8.out.lt; omega
    have lt0 : a < w8.heap.size := by have := HG8.out.lt; omega
    have HB : Hid _ := hB
    have HA : Hid _ := hA
    clear hB hA
    have HMa : Hid (RowV (w8.alloc (.cells #[.int .i64 rt, .string rd] 77)) 77 2 (.slice p1 n c1) n (entCells l)) := HR8.out.carry (fun k hk => (below_alloc w8 (.cells #[.int .i64 rt, .string rd] 77)).block k (HR8.out.lt hk))
    have HS2 : Hid (Src Try.prog 2 43 (.slice (some ⟨w8.heap.size, 0, none⟩) 1 1) 1 [.int .i64 rt, .string rd] (w8.alloc (.cells #[.int .i64 rt, .string rd] 77))) := src_new w8 2 43 77 77 Try.underlying43 [.int .i64 rt, .string rd] rfl (by simp [Value.oneCell'])
    have hm1 : Hid ((n + 1) * 24 ≤ 140737488355328) := by show _ ≤ _; omega
    have hm2 : Hid (n + 1 ≤ maxLen) := by unfold maxLen; show _ ≤ _; omega
    go_wp2_with (at_builtin; refine wpList_append_row rfl (.tmp 47) (.tmp 53) 43 43 77 rfl Try.underlying43 _ 2 24 infoEnt rfl (.slice p1 n c1) n (entCells l) rfl HMa.out _ 1 _ rfl HS2.out hm1.out hm2.out ?qn2)
    case qn2 =>
      intro v2 w9 ho hg hloc
      have HG9 : Hid (F3 w w9 a #[.int .i64 t, .int .i64 x, .int .i64 b, .int .i64 y, .string d, .slice p n c] #[.int .i64 rg, .int .i64 2, .int .i64 (z + 1), .int .i64 rt, .int .i64 rv, .string rd] #[.int .i64 0, .int .i64 0, .int .i64 0, .int .i64 0, .string ⟨#[]⟩, .slice none 0 0]) := (HG8.out.below (below_alloc _ _)).grown hg HK8.out
      have HK9 : Hid (∀ k, rowBlk v2 = some k → a + 1 + 1 < k) := by
        intro k hk
        have := HG8.out.lt
        rcases hloc k hk with q | q
        · exact HK8.out k q
        · first | omega | (simp at q; omega)
      have HE9 : Hid (EntR w9 v2 (l ++ [(rt, rd)])) := by
        rw [← entCells_snoc l (rt, rd)] at ho
        refine EntV.read ?_
        unfold EntV
        rw [List.length_append, ← HN.out]
        exact ho
      obtain ⟨p2, c2, hv2, hc2, _⟩ := ho.form
      subst hv2
      have HC2 : Hid (n + 1 ≤ c2) := hc2
      clear ho hg hloc hc2 HMa HS2 hm1 hm2 HR8 HG8 HK8 y0 y1 y2 y3 y4 y5 z0 z1 z2 z3 z4 z5 ff fg r3 r5 HB HA lt1 lt0
      obtain ⟨y0, y1, y2, y3, y4, y5, z0, z1, z2, z3, z4, z5, ff, fg, hB, hA⟩ := HG9.out.all
      have HB : Hid _ := hB
      have HA : Hid _ := hA
      clear hB hA
      go_wp2
      refine bodyPost_ret (v := .tuple #[.agg #[.int .i64 t, .int .i64 x, .int .i64 b, .int .i64 y, .string d, .slice p2 (n + 1) c2], .bool true]) ?qres rfl ?qpost
      case qres => simp [results, Try.results16, go_sem, z0, z1, z2, z3, z4, z5]
      case qpost =>
        have hA := HA.out
        refine HO.out p2 c2 _ (EntR.carry HE9.out (fun k hk => ?_)) (Below.set6 (HB.out.setCell (by exact hA) _) (by omega) _ _ _ _ _ _) (fun q hq => by have := HK9.out q (readBlk_row hq HC2.out); omega)
        have := HK9.out k (readBlk_row hk HC2.out)
        rw [Below.heap_setCell _ _ _ _ (by show k ≠ a + 1 + 1; omega), Below.heap_setCell _ _ _ _ (by show k ≠ a + 1 + 1; omega), Below.heap_setCell _ _ _ _ (by show k ≠ a + 1 + 1; omega), Below.heap_setCell _ _ _ _ (by show k ≠ a + 1 + 1; omega), Below.heap_setCell _ _ _ _ (by show k ≠ a + 1 + 1; omega), Below.heap_setCell _ _ _ _ (by show k ≠ a + 1 + 1; omega), Below.heap_setCell _ _ _ _ (by show k ≠ a; omega)]
end Go.Proofs.Ytagcnhkodmjkgaa
