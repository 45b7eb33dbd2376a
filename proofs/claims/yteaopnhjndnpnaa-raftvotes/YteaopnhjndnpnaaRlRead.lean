/-
  A raft log's calls that read: the term at an index, an entry, which end is newer.
-/
import Derived.Test.YteaopnhjndnpnaaRlLog
namespace Go.Proofs.Yteaopnhjndnpnaa
open Go.RowKit

theorem Lg.drewN {w : World} {B : Nat} {s : G.L} {own : Nat → Prop} (h : Lg w B s own) (n : Nat) : Lg (w.drewN n) B s own := h.below (below_drewN w n)

/-- Nothing that was there is changed. -/
def Bel (u X : World) : Prop := Below u.heap.size u X

section
variable {w : World} {B : Nat} {s : G.L} {own : Nat → Prop}

/-- An entry's cells. -/
theorem LgV.entry {v : Value} {m : Nat} (h : LgV w B s own v m) (k : Nat) (x : Int × ByteArray) (hx : s.ents[k]? = some x) :
    ∃ g off c, v = .slice (some ⟨g, off, none⟩) s.ents.length c ∧ s.ents.length ≤ c ∧ c ≤ maxLen ∧ w.cell? ⟨g, off + k * 2, none⟩ = some (.int .i64 x.1) ∧ w.cell? ⟨g, off + k * 2 + 1, none⟩ = some (.string x.2) := by
  have hk := (List.getElem?_eq_some_iff.1 hx).1
  obtain ⟨g, off, c, hv, h1, h2, _, h3⟩ := h.row.cells (by omega)
  obtain ⟨e1, e2⟩ := entCells_at s.ents k x hx
  exact ⟨g, off, c + 1, hv, h1, h2, h3 _ _ e1, by have := h3 _ _ e2; rw [← Nat.add_assoc] at this; exact this⟩

theorem termAt_base (h : Lg w B s own) : Calls Try.prog 73 #[.pointer (some ⟨B, 0, none⟩), .int .i64 s.base] w fun e w' => e = .returned (.int .i64 s.term) ∧ w' = w := by
  obtain ⟨v, m, h⟩ := h
  have h1 := h.c1
  have h2 := h.c2
  have hd : (s.base == s.base) = true := by simp
  clear h
  go_enter Try.func73, Try.ntmps73
  go_wp2
  go_ret
  exact ⟨rfl, rfl⟩

set_option maxRecDepth 20000 in
theorem termAt_in (h : Lg w B s own) (k : Nat) (x : Int × ByteArray) (hx : s.ents[k]? = some x) :
    Calls Try.prog 73 #[.pointer (some ⟨B, 0, none⟩), .int .i64 (s.base + 1 + (k : Int))] w fun e w' => e = .returned (.int .i64 x.1) ∧ ∃ m, w' = w.drewN m := by
  have hk := (List.getElem?_eq_some_iff.1 hx).1
  have hlen := h.ok.len
  have HP : Hid (∀ n, Calls Try.prog 55 #[.pointer (some ⟨B, 0, none⟩), .int .i64 (s.base + 1 + (k : Int))] (w.drewN n) fun e w' => e = .returned (.int .i64 (k : Int)) ∧ w' = w.drewN n) := fun n => by
    have := place_c (h.drewN n) (s.base + 1 + (k : Int)) (by omega)
    rw [show s.base + 1 + (k : Int) - s.base - 1 = (k : Int) by omega] at this
    exact this
  obtain ⟨v, m, h⟩ := h
  obtain ⟨g, off, c, hv, hc1, hc2, y1, y2⟩ := h.entry k x hx
  have h1 := h.c1
  have h3 := h.c3
  rw [hv] at h3
  obtain ⟨n, hn⟩ : ∃ n, n = s.ents.length := ⟨_, rfl⟩
  rw [← hn] at h3 hk hc1
  obtain ⟨b, hb⟩ : ∃ b, b = s.base := ⟨_, rfl⟩
  rw [← hb] at h1 HP ⊢
  have hd : (b + 1 + (k : Int) == b) = false := by simp; omega
  unfold maxLen at hc2
  have hk0 : (0 : Int) ≤ (k : Int) := by omega
  have hkn : (k : Int) < (n : Int) := by omega
  clear h hv hn hb hx hlen
  go_enter Try.func73, Try.ntmps73
  go_wp2
  go_quiet (first | (go_at_call 55; exact Calls.quiet_of_same (HP.out _)))
  go_wp2
  go_ret
  exact ⟨rfl, _, rfl⟩

theorem termAt_c (h : Lg w B s own) (i : Int) (hi : s.base ≤ i ∧ i ≤ G.last s) :
    Calls Try.prog 73 #[.pointer (some ⟨B, 0, none⟩), .int .i64 i] w fun e w' => e = .returned (.int .i64 (G.termAt s i)) ∧ ∃ m, w' = w.drewN m := by
  unfold G.last at hi
  unfold G.termAt
  by_cases e : i = s.base
  · rw [if_pos e, e]
    refine (termAt_base h).mono ?_
    rintro e w' ⟨rfl, hw⟩
    exact ⟨rfl, 0, hw⟩
  · rw [if_neg e]
    have hk : (i - s.base - 1).toNat < s.ents.length := by omega
    rw [List.getElem?_eq_getElem hk]
    have := termAt_in h _ _ (List.getElem?_eq_getElem hk)
    rw [show s.base + 1 + (((i - s.base - 1).toNat : Nat) : Int) = i by omega] at this
    exact this

theorem Term_c (h : Lg w B s own) (i : Int) :
    Calls Try.prog 53 #[.pointer (some ⟨B, 0, none⟩), .int .i64 i] w fun e w' => e = .returned (.tuple #[.int .i64 (G.termA s i), .int .i64 (G.termE s i)]) ∧ ∃ m, w' = w.drewN m := by
  have HB : Hid _ := Base_c h
  have HL : Hid _ := Last_c h
  have HW : Hid (∀ n, Calls Try.prog 54 #[.pointer (some ⟨B, 0, none⟩), .int .i64 i, .int .i64 s.base, .int .i64 (G.last s)] (w.drewN n) fun e w' => e = .returned (.int .i64 (G.termE s i)) ∧ w' = w.drewN n) := fun n => within_c (h.drewN n) i s.base (G.last s)
  unfold G.termA
  by_cases e : G.termE s i = 0
  · have HT : Hid (∀ n, Calls Try.prog 73 #[.pointer (some ⟨B, 0, none⟩), .int .i64 i] (w.drewN n) fun e w' => e = .returned (.int .i64 (G.termAt s i)) ∧ ∃ m, w' = (w.drewN n).drewN m) := fun n => termAt_c (h.drewN n) i (G.within_zero.1 e)
    rw [e, if_pos rfl]
    rw [e] at HW
    generalize G.termAt s i = t at HT ⊢
    generalize G.last s = l at HL HW
    clear e h
    go_enter Try.func53, Try.ntmps53
    go_wp2_with fail
    refine Calls.mono HB.out ?_
    rintro e w1 ⟨rfl, hw⟩
    subst hw
    go_wp2_with fail
    refine Calls.mono HL.out ?_
    rintro e w2 ⟨rfl, hw⟩
    subst hw
    go_wp2_with fail
    refine Calls.mono (HW.out 1) ?_
    rintro e w3 ⟨rfl, hw⟩
    subst hw
    go_wp2_with fail
    refine Calls.mono (HT.out 1) ?_
    rintro e w4 ⟨rfl, m, hw⟩
    subst hw
    go_wp2
    go_ret2
    exact ⟨rfl, 1 + m, rfl⟩
  · have t0 : (G.termE s i != 0) = true := by simpa using e
    rw [if_neg e]
    generalize G.termE s i = x at HW t0 ⊢
    generalize G.last s = l at HL HW
    clear e h
    go_enter Try.func53, Try.ntmps53
    go_wp2_with fail
    refine Calls.mono HB.out ?_
    rintro e w1 ⟨rfl, hw⟩
    subst hw
    go_wp2_with fail
    refine Calls.mono HL.out ?_
    rintro e w2 ⟨rfl, hw⟩
    subst hw
    go_wp2_with fail
    refine Calls.mono (HW.out 1) ?_
    rintro e w3 ⟨rfl, hw⟩
    subst hw
    go_wp2
    go_ret2
    exact ⟨rfl, 1, rfl⟩

set_option maxRecDepth 20000 in
set_option maxHeartbeats 800000 in
theorem Entry_c (h : Lg w B s own) (i : Int) :
    Calls Try.prog 58 #[.pointer (some ⟨B, 0, none⟩), .int .i64 i] w fun e w' => e = .returned (.tuple #[.agg #[.int .i64 (G.entryA s i).1, .string (G.entryA s i).2], .int .i64 (G.entryE s i)]) ∧ Below w.heap.size w w' := by
  have hlen := h.ok.len
  have hb0 := h.ok.base
  have hBl := h.lt
  obtain ⟨u, hu⟩ : ∃ u, u = w.alloc (.cells #[.int .i64 0, .string ⟨#[]⟩] 79) := ⟨_, rfl⟩
  have HU : Hid (Below w.heap.size w u) := by rw [hu]; exact below_alloc w _
  have hlu : Lg u B s own := h.below HU.out
  have HB : Hid _ := Base_c hlu
  have HL : Hid _ := Last_c hlu
  have HW : Hid (∀ n, Calls Try.prog 54 #[.pointer (some ⟨B, 0, none⟩), .int .i64 i, .int .i64 (s.base + 1), .int .i64 (G.last s)] (u.drewN n) fun e w' => e = .returned (.int .i64 (G.entryE s i)) ∧ w' = u.drewN n) := fun n => within_c (hlu.drewN n) i (s.base + 1) (G.last s)
  have hw1 : IntKind.i64.wrap (s.base + 1) = s.base + 1 := by rw [IntKind.wrap_i64]; omega
  obtain ⟨bx, hbx⟩ : ∃ bx, bx = w.heap.size := ⟨_, rfl⟩
  have HBX : Hid (bx = w.heap.size) := hbx
  have u0 : u.cell? ⟨bx, 0, none⟩ = some (.int .i64 0) := by rw [hu, hbx]; exact World.cell?_alloc_mark w _ _ _ 0
  have u1 : u.cell? ⟨bx, 1, none⟩ = some (.string ⟨#[]⟩) := by rw [hu, hbx]; exact World.cell?_alloc_mark w _ _ _ 1
  have f0 : u.frozen? ⟨bx, 0, none⟩ = false := by rw [hu, hbx, World.frozen?_alloc_mark]; simp
  have f1 : u.frozen? ⟨bx, 1, none⟩ = false := by rw [hu, hbx, World.frozen?_alloc_mark]; simp
  unfold G.entryA
  by_cases e : G.entryE s i = 0
  · have hi := G.within_zero.1 e
    unfold G.last at hi
    obtain ⟨k, hk⟩ : ∃ k : Nat, i - s.base - 1 = (k : Int) := ⟨(i - s.base - 1).toNat, by omega⟩
    have HP : Hid (∀ X, Bel u X → Calls Try.prog 55 #[.pointer (some ⟨B, 0, none⟩), .int .i64 i] X fun e w' => e = .returned (.int .i64 (k : Int)) ∧ w' = X) := fun X hX => by
      have := place_c (hlu.below hX) i (by omega)
      rw [hk] at this
      exact this
    have hkl : k < s.ents.length := by omega
    obtain ⟨x, hx⟩ : ∃ x, s.ents[k]? = some x := ⟨_, List.getElem?_eq_getElem hkl⟩
    have he : G.entAt s i = x := by unfold G.entAt; rw [hk, Int.toNat_natCast, hx]
    rw [e, if_pos rfl, he]
    rw [e] at HW
    obtain ⟨v, m, hv0⟩ := h
    obtain ⟨g, off, c, hv, hc1, hc2, y1, y2⟩ := hv0.entry k x hx
    have h3 := hv0.c3
    rw [hv] at h3
    have hgl := World.block_lt_of_cell? _ _ y1
    have HN : Hid (B ≠ bx ∧ g ≠ bx) := ⟨by omega, fun e => by have : g < w.heap.size := hgl; omega⟩
    have h3 := (Below.cell HU.out (World.block_lt_of_cell? _ _ h3)).trans h3
    have y1 := (Below.cell HU.out (World.block_lt_of_cell? _ _ y1)).trans y1
    have y2 := (Below.cell HU.out (World.block_lt_of_cell? _ _ y2)).trans y2
    obtain ⟨n, hn⟩ : ∃ n, n = s.ents.length := ⟨_, rfl⟩
    rw [← hn] at h3 hkl hc1
    obtain ⟨b, hb⟩ : ∃ b, b = s.base := ⟨_, rfl⟩
    rw [← hb] at HW HB hw1
    unfold maxLen at hc2
    have hk0 : (0 : Int) ≤ (k : Int) := by omega
    have hkn : (k : Int) < (n : Int) := by omega
    generalize G.last s = l at HL HW
    obtain ⟨t, d⟩ := x
    dsimp only at y1 y2 ⊢
    clear hv hn hb hx hlen hi hk he e hb0 hv0 hgl hBl hlu
    go_enter Try.func58, Try.ntmps58
    go_wp2_with fail
    rw [← hu]
    try rw [← hbx]
    clear hu hbx
    refine Calls.mono HB.out ?_
    rintro e w1 ⟨rfl, hw⟩
    subst hw
    go_wp2_with fail
    refine Calls.mono HL.out ?_
    rintro e w2 ⟨rfl, hw⟩
    subst hw
    go_wp2_with fail
    refine Calls.mono (HW.out 1) ?_
    rintro e w3 ⟨rfl, hw⟩
    subst hw
    have hbel : Bel w1 (w1.drewN 1).drew := (below_drewN w1 1).drew
    have HK : Hid (∀ X, Bel w1 X → X.cell? ⟨B, 3, none⟩ = some (.slice (some ⟨g, off, none⟩) n c) ∧ X.cell? ⟨g, off + k * 2, none⟩ = some (.int .i64 t) ∧ X.cell? ⟨g, off + k * 2 + 1, none⟩ = some (.string d)) := by
      intro X hX
      exact ⟨(Below.cell hX (World.block_lt_of_cell? _ _ h3)).trans h3, (Below.cell hX (World.block_lt_of_cell? _ _ y1)).trans y1, (Below.cell hX (World.block_lt_of_cell? _ _ y2)).trans y2⟩
    have HQ : Hid (∀ X, Bel w1 X → Calls Try.prog 55 #[.pointer (some ⟨B, 0, none⟩), .int .i64 i] X fun e w' => e = .returned (.int .i64 (k : Int)) ∧ Bel w1 w' ∧ w'.cell? ⟨bx, 0, none⟩ = some (.int .i64 0) ∧ w'.cell? ⟨bx, 1, none⟩ = some (.string ⟨#[]⟩) ∧ w'.frozen? ⟨bx, 0, none⟩ = false ∧ w'.frozen? ⟨bx, 1, none⟩ = false) := by
      intro X hX
      refine (HP.out X hX).mono ?_
      rintro e w' ⟨rfl, hw⟩
      subst hw
      have hl : bx < w1.heap.size := World.block_lt_of_cell? _ _ u0
      exact ⟨rfl, hX, (Below.cell hX (p := ⟨bx, 0, none⟩) hl).trans u0, (Below.cell hX (p := ⟨bx, 1, none⟩) hl).trans u1, (Below.frozen hX (p := ⟨bx, 0, none⟩) hl).trans f0, (Below.frozen hX (p := ⟨bx, 1, none⟩) hl).trans f1⟩
    have HK2 : Hid (∀ X x y, Bel w1 X → ((X.setCell ⟨bx, 0, none⟩ x).setCell ⟨bx, 1, none⟩ y).cell? ⟨B, 3, none⟩ = some (.slice (some ⟨g, off, none⟩) n c) ∧ ((X.setCell ⟨bx, 0, none⟩ x).setCell ⟨bx, 1, none⟩ y).cell? ⟨g, off + k * 2, none⟩ = some (.int .i64 t) ∧ ((X.setCell ⟨bx, 0, none⟩ x).setCell ⟨bx, 1, none⟩ y).cell? ⟨g, off + k * 2 + 1, none⟩ = some (.string d)) := by
      intro X x y hX
      have q := HK.out X hX
      have a1 : ∀ (p : Addr), p.block ≠ bx → ((X.setCell ⟨bx, 0, none⟩ x).setCell ⟨bx, 1, none⟩ y).cell? p = X.cell? p := fun p hp => by
        rw [World.cell?_of_block (a := p) (Below.heap_setCell _ _ _ _ hp), World.cell?_of_block (a := p) (Below.heap_setCell _ _ _ _ hp)]
      rw [a1 _ HN.out.1, a1 _ HN.out.2, a1 _ HN.out.2]
      exact q
    clear u0 u1 f0 f1 h3 y1 y2
    go_wp2
    go_region_held (fun X => X.cell? ⟨B, 3, none⟩ = some (.slice (some ⟨g, off, none⟩) n c) ∧ X.cell? ⟨g, off + k * 2, none⟩ = some (.int .i64 t) ∧ X.cell? ⟨g, off + k * 2 + 1, none⟩ = some (.string d))
      (first | exact HK.out _ (by assumption) | exact HK2.out _ _ _ (by assumption))
      (first | (go_at_call 55; refine (HQ.out _ ?_).mono ?_; assumption; rintro e w6 ⟨rfl, hg6, z0, z1, ff0, ff1⟩))
    have HB6 : Hid _ := hg6
    clear hg6 hbel
    go_wp2
    refine bodyPost_ret (v := .tuple #[.agg #[.int .i64 t, .string d], .int .i64 0]) ?qres rfl ?qpost
    case qres => simp [results, Try.results58, go_sem, z0, z1]
    case qpost =>
      refine ⟨rfl, ?_⟩
      have hb : Below w.heap.size w w6 := HU.out.trans (Below.mono HB6.out HU.out.size)
      have e1 := HBX.out
      exact (hb.setCell (p := ⟨bx, 0, none⟩) (by show _ ≤ bx; omega) _).setCell (p := ⟨bx, 1, none⟩) (by show _ ≤ bx; omega) _
  · have t0 : (G.entryE s i != 0) = true := by simpa using e
    rw [if_neg e]
    generalize G.entryE s i = x at HW t0 ⊢
    generalize G.last s = l at HL HW
    clear e h hlen hb0 hlu hBl
    go_enter Try.func58, Try.ntmps58
    go_wp2_with fail
    rw [← hu]
    try rw [← hbx]
    clear hu hbx
    refine Calls.mono HB.out ?_
    rintro e w1 ⟨rfl, hw⟩
    subst hw
    go_wp2_with fail
    refine Calls.mono HL.out ?_
    rintro e w2 ⟨rfl, hw⟩
    subst hw
    go_wp2_with fail
    refine Calls.mono (HW.out 1) ?_
    rintro e w3 ⟨rfl, hw⟩
    subst hw
    go_wp2
    refine bodyPost_ret (v := .tuple #[.agg #[.int .i64 0, .string ⟨#[]⟩], .int .i64 x]) ?qres rfl ?qpost
    case qres => simp [results, Try.results58, go_sem, u0, u1]
    case qpost =>
      refine ⟨rfl, ?_⟩
      have hb : Below w.heap.size w (w1.drewN 1) := HU.out.trans (Below.mono (below_drewN _ _) HU.out.size)
      have e1 := HBX.out
      exact (hb.setCell (p := ⟨bx, 0, none⟩) (by show _ ≤ bx; omega) _).setCell (p := ⟨bx, 1, none⟩) (by show _ ≤ bx; omega) _

theorem Newer_c (h : Lg w B s own) (i t : Int) :
    Calls Try.prog 80 #[.pointer (some ⟨B, 0, none⟩), .int .i64 i, .int .i64 t] w fun e w' => e = .returned (.bool (G.newer s i t)) ∧ ∃ m, w' = w.drewN m := by
  have hb := h.ok.base
  have HM : Hid _ := isMade_c h
  have HL : Hid (∀ n, Calls Try.prog 32 #[.pointer (some ⟨B, 0, none⟩)] (w.drewN n) fun e w' => e = .returned (.int .i64 (G.last s)) ∧ w' = w.drewN (n + 1)) := fun n => Last_c (h.drewN n)
  have HT : Hid (∀ n, Calls Try.prog 73 #[.pointer (some ⟨B, 0, none⟩), .int .i64 (G.last s)] (w.drewN n) fun e w' => e = .returned (.int .i64 (G.termAt s (G.last s))) ∧ ∃ m, w' = (w.drewN n).drewN m) := fun n => termAt_c (h.drewN n) _ ⟨by unfold G.last; omega, Int.le_refl _⟩
  unfold G.newer
  generalize G.termAt s (G.last s) = u at HT ⊢
  generalize G.last s = l at HL HT ⊢
  clear h hb
  by_cases c1 : u < t
  · have e1 : (decide (u < t) || (decide (t = u) && decide (l ≤ i))) = true := by simp [c1]
    rw [e1]
    go_enter Try.func80, Try.ntmps80
    go_wp2_with fail
    refine Calls.mono HM.out ?_
    rintro e w1 ⟨rfl, hw⟩
    subst hw
    go_wp2_with fail
    refine Calls.mono (HL.out 0) ?_
    rintro e w2 ⟨rfl, hw⟩
    subst hw
    go_wp2_with fail
    refine Calls.mono (HT.out 1) ?_
    rintro e w3 ⟨rfl, m, hw⟩
    subst hw
    go_wp2
    go_ret
    exact ⟨rfl, 1 + m, rfl⟩
  · by_cases c2 : t = u
    · subst c2
      have c3 : (t == t) = true := by simp
      by_cases c4 : l ≤ i
      · have e1 : (decide (t < t) || (decide (t = t) && decide (l ≤ i))) = true := by simp [c4]
        rw [e1]
        go_enter Try.func80, Try.ntmps80
        go_wp2_with fail
        refine Calls.mono HM.out ?_
        rintro e w1 ⟨rfl, hw⟩
        subst hw
        go_wp2_with fail
        refine Calls.mono (HL.out 0) ?_
        rintro e w2 ⟨rfl, hw⟩
        subst hw
        go_wp2_with fail
        refine Calls.mono (HT.out 1) ?_
        rintro e w3 ⟨rfl, m, hw⟩
        subst hw
        go_wp2_with fail
        refine Calls.mono (HL.out (1 + m)) ?_
        rintro e w4 ⟨rfl, hw⟩
        subst hw
        go_wp2
        go_ret
        exact ⟨rfl, _, rfl⟩
      · have e1 : (decide (t < t) || (decide (t = t) && decide (l ≤ i))) = false := by simp; omega
        rw [e1]
        go_enter Try.func80, Try.ntmps80
        go_wp2_with fail
        refine Calls.mono HM.out ?_
        rintro e w1 ⟨rfl, hw⟩
        subst hw
        go_wp2_with fail
        refine Calls.mono (HL.out 0) ?_
        rintro e w2 ⟨rfl, hw⟩
        subst hw
        go_wp2_with fail
        refine Calls.mono (HT.out 1) ?_
        rintro e w3 ⟨rfl, m, hw⟩
        subst hw
        go_wp2_with fail
        refine Calls.mono (HL.out (1 + m)) ?_
        rintro e w4 ⟨rfl, hw⟩
        subst hw
        go_wp2
        go_ret
        exact ⟨by simp [c4], _, rfl⟩
    · have e1 : (decide (u < t) || (decide (t = u) && decide (l ≤ i))) = false := by simp [c1, c2]
      have c3 : (t == u) = false := by simpa using c2
      rw [e1]
      go_enter Try.func80, Try.ntmps80
      go_wp2_with fail
      refine Calls.mono HM.out ?_
      rintro e w1 ⟨rfl, hw⟩
      subst hw
      go_wp2_with fail
      refine Calls.mono (HL.out 0) ?_
      rintro e w2 ⟨rfl, hw⟩
      subst hw
      go_wp2_with fail
      refine Calls.mono (HT.out 1) ?_
      rintro e w3 ⟨rfl, m, hw⟩
      subst hw
      go_wp2
      go_ret
      exact ⟨by simp [c1], 1 + m, rfl⟩

end

theorem New_bad (w : World) (b t : Int) (hb : ¬ (0 ≤ b ∧ b ≤ 1099511627776 ∧ 0 ≤ t ∧ t ≤ 1099511627776)) :
    Calls Try.prog 52 #[.int .i64 b, .int .i64 t] w fun e w' => e = .returned (.tuple #[.pointer none, .int .i64 1]) ∧ w' = w := by
  have k1 : ∀ c : Prop, [Decidable c] → c → decide c = true := fun c _ h => decide_eq_true h
  have k2 : ∀ c : Prop, [Decidable c] → ¬ c → decide c = false := fun c _ h => decide_eq_false h
  by_cases c1 : b < 0
  · have d1 := k1 (b < 0) c1
    clear c1 hb k1 k2
    go_enter Try.func52, Try.ntmps52
    go_wp2
    go_ret2
    exact ⟨rfl, rfl⟩
  · have d1 := k2 (b < 0) c1
    by_cases c2 : 1099511627776 < b
    · have d2 := k1 (1099511627776 < b) c2
      clear c1 c2 hb k1 k2
      go_enter Try.func52, Try.ntmps52
      go_wp2
      go_ret2
      exact ⟨rfl, rfl⟩
    · have d2 := k2 (1099511627776 < b) c2
      by_cases c3 : t < 0
      · have d3 := k1 (t < 0) c3
        clear c1 c2 c3 hb k1 k2
        go_enter Try.func52, Try.ntmps52
        go_wp2
        go_ret2
        exact ⟨rfl, rfl⟩
      · have d3 := k2 (t < 0) c3
        have d4 := k1 (1099511627776 < t) (by omega)
        clear c1 c2 c3 hb k1 k2
        go_enter Try.func52, Try.ntmps52
        go_wp2
        go_ret2
        exact ⟨rfl, rfl⟩

/-- A log that was made just now. -/
theorem New_yes (w : World) (b t : Int) (hb : 0 ≤ b ∧ b ≤ 1099511627776 ∧ 0 ≤ t ∧ t ≤ 1099511627776) :
    Calls Try.prog 52 #[.int .i64 b, .int .i64 t] w fun e w' => e = .returned (.tuple #[.pointer (some ⟨w.heap.size, 0, none⟩), .int .i64 0]) ∧ Lg w' w.heap.size ⟨b, t, []⟩ (fun k => w.heap.size < k ∧ k < w'.heap.size) ∧ Below w.heap.size w w' := by
  have d1 : decide (b < 0) = false := decide_eq_false (by omega)
  have d2 : decide (1099511627776 < b) = false := decide_eq_false (by omega)
  have d3 : decide (t < 0) = false := decide_eq_false (by omega)
  have d4 : decide (1099511627776 < t) = false := decide_eq_false (by omega)
  have HB : Hid _ := hb
  clear hb
  go_enter Try.func52, Try.ntmps52
  go_wp2
  go_ret2
  refine ⟨rfl, ?_, below_alloc _ _⟩
  have hb := HB.out
  refine ⟨.slice none 0 0, 0, by simp, World.cell?_alloc_mark w _ _ _ 0, World.cell?_alloc_mark w _ _ _ 1, World.cell?_alloc_mark w _ _ _ 2, World.cell?_alloc_mark w _ _ _ 3, World.cell?_alloc_mark w _ _ _ 4, fun j _ => by rw [World.frozen?_alloc_mark]; simp, RowC.nil _ _ _, fun k hk => by simp [cBlk] at hk, fun k hk => ⟨hk.2, by omega⟩, Nat.le_refl _, ⟨hb.1, ?_⟩⟩
  unfold G.last
  simp
  omega

end Go.Proofs.Yteaopnhjndnpnaa
