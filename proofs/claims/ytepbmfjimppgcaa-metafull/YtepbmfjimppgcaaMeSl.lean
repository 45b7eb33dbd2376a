/-
  The slots of an op, in a row of the call's own that may be written (the same walks as of layer 10's texts, that told less).
-/
import Derived.Test.YtepbmfjimppgcaaMeBox
namespace Go.Proofs.Ytepbmfjimppgcaa
open Go.RowKit

def intsL (l : List Nat) : List Value := l.map fun (x : Nat) => .int .i64 (x : Int)
theorem intsL_len (l : List Nat) : (intsL l).length = l.length := by simp [intsL]
theorem intsL_at {l : List Nat} {i x : Nat} (h : l[i]? = some x) : (intsL l)[i]? = some (.int .i64 (x : Int)) := by simp [intsL, h]
/-- A list in a row of its own, made behind w. -/
def LsW (w X : World) (v : Value) (l : List Nat) : Prop := Below w.heap.size w X ∧ RowC X 1 v l.length (intsL l) ∧ ∀ k, cBlk v = some k → w.heap.size ≤ k
theorem LsW.of {w X : World} {g c : Nat} {l : List Nat} (hb : Below w.heap.size w X) (hg : w.heap.size ≤ g) (_hl : g < X.heap.size) (hc : l.length ≤ c) (hm : c ≤ maxLen) (h1 : ∀ (i x : Nat), l[i]? = some x → X.cell? ⟨g, i, none⟩ = some (.int .i64 (x : Int))) (h2 : ∀ j, j < c → (X.cell? ⟨g, j, none⟩).isSome = true ∧ X.frozen? ⟨g, j, none⟩ = false) : LsW w X (.slice (some ⟨g, 0, none⟩) l.length c) l := by
  refine ⟨hb, ⟨by rw [intsL_len, Nat.mul_one], some ⟨g, 0, none⟩, c, rfl, hc, hm, .inr ⟨g, 0, rfl, fun j hj => by rw [Nat.zero_add]; exact h2 j (by omega), fun j x hx => ?_⟩⟩, fun k hk => ?_⟩
  · rw [Nat.zero_add]
    unfold intsL at hx
    rw [List.getElem?_map] at hx
    cases hq : l[j]? with
    | none => rw [hq] at hx; cases hx
    | some y =>
      rw [hq] at hx
      injection hx with hx
      rw [← hx]
      exact h1 j y hq
  · cases c with
    | zero => simp [cBlk] at hk
    | succ c =>
      simp [cBlk] at hk
      omega
theorem LsW.from {w u X : World} {v : Value} {l : List Nat} (h : LsW u X v l) (hb : Below w.heap.size w u) : LsW w X v l := ⟨hb.trans (h.1.mono hb.size), h.2.1, fun k hk => Nat.le_trans hb.size (h.2.2 k hk)⟩

theorem risingW_1 (w X : World) (h0 : Below w.heap.size w X) (a : Nat) : Calls Try.prog 60 #[.slice (some ⟨X.heap.size, 0, none⟩) 1 1] (X.alloc (.cells #[.int .i64 (a : Int)] 3)) fun e w' => ∃ v, e = .returned v ∧ LsW w w' v [a] := by
  obtain ⟨Z, hZ⟩ : ∃ Z, Z = X.alloc (.cells #[.int .i64 (a : Int)] 3) := ⟨_, rfl⟩
  obtain ⟨g, hg⟩ : ∃ g, g = X.heap.size := ⟨_, rfl⟩
  have hR : Row7 Z g [(a : Int)] Z := by
    refine ⟨KeptB.refl _ _ _, by rw [hZ, hg]; simp, fun j x hx => ?_, fun j _ => ?_⟩
    · match j, hx with
      | 0, hx =>
        injection hx with hx
        rw [← hx, hZ, hg]
        exact World.cell?_alloc_mark X _ _ _ 0
    · rw [hZ, hg, World.frozen?_alloc_mark]; simp
  have HS : Hid _ := Sort_c Z g 1 [(a : Int)] ⟨by simp, by simp⟩ hR
  have HC : Hid (∀ Y, Calls Try.prog 71 #[.slice (some ⟨g, 0, none⟩) 1 1] Y fun e w' => e = .returned (.slice (some ⟨g, 0, none⟩) 1 1) ∧ w' = Y) := fun Y => Compact_1 Y _ _
  have HEnd : Hid (∀ Y l, Row7 Z g l Y → l.Perm [(a : Int)] → LsW w Y (.slice (some ⟨g, 0, none⟩) 1 1) [a]) := fun Y l h1 h2 => by
    have e : l = [(a : Int)] := List.perm_singleton.1 h2
    subst e
    have hb : Below w.heap.size w Y := (h0.trans (by rw [hZ]; exact (below_alloc X _).mono h0.size)).trans (h1.kept.below (by rw [hg]; exact h0.size) (fun _ q => q.elim) (by rw [hZ]; have := h0.size; simp; omega))
    refine LsW.of hb (by rw [hg]; exact h0.size) h1.lt (by simp) (by unfold maxLen; simp) (fun i x hx => ?_) (fun j hj => ?_)
    · match i, hx with
      | 0, hx =>
        injection hx with hx
        rw [← hx]
        exact h1.c 0 _ rfl
    · match j, hj with
      | 0, _ => exact ⟨by rw [h1.c 0 _ rfl]; rfl, h1.f 0 (by simp)⟩
  rw [← hZ, ← hg]
  clear hZ hg hR
  go_enter Try.func60, Try.ntmps60
  go_wp2_with fail
  refine Calls.mono HS.out ?_
  rintro e Y ⟨rfl, l, h1, h2, -⟩
  have HL : Hid _ := HEnd.out Y l h1 h2
  clear h1 h2
  go_wp2_with fail
  refine (HC.out _).mono ?_
  rintro e Y2 ⟨rfl, h⟩
  subst h
  go_wp2
  go_ret
  exact ⟨_, rfl, HL.out⟩

set_option maxHeartbeats 800000 in
theorem everyW_c (w : World) : Calls Try.prog 62 #[] w fun e w' => ∃ v, e = .returned v ∧ LsW w w' v (List.range 16) := by
  have hmk := run_makeN 16 (by omega) w
  rw [show ((16 : Nat) : Int) = 16 from rfl] at hmk
  obtain ⟨Z, hZ⟩ : ∃ Z, Z = w.alloc (.cells (noN 16) 3) := ⟨_, rfl⟩
  obtain ⟨g, hg⟩ : ∃ g, g = w.heap.size := ⟨_, rfl⟩
  have HZ : Hid (Below w.heap.size w Z ∧ g < Z.heap.size ∧ w.heap.size ≤ g ∧ (∀ j, j < 16 → ∃ x, Z.cell? ⟨g, j, none⟩ = some x) ∧ ∀ j, Z.frozen? ⟨g, j, none⟩ = false) := by
    refine ⟨by rw [hZ]; exact below_alloc w _, by rw [hZ, hg]; simp, by omega, fun j hj => ⟨_, by rw [hZ, hg, World.cell?_alloc_mark]; exact noN_at 16 j hj⟩, fun j => by rw [hZ, hg, World.frozen?_alloc_mark]; simp⟩
  rw [← hZ, ← hg] at hmk
  go_enter Try.func62, Try.ntmps62
  go_wp2
  try rw [← hZ]
  try rw [← hg]
  clear hZ hg hmk
  go_loopw [6] (fun x wr => ∃ n : Nat, x = .int .i64 (n : Int) ∧ n ≤ 16 ∧ Hid (Below w.heap.size w wr ∧ g < wr.heap.size ∧ (∀ j, j < 16 → ∃ x, wr.cell? ⟨g, j, none⟩ = some x) ∧ (∀ j, wr.frozen? ⟨g, j, none⟩ = false) ∧ ∀ j, j < n → wr.cell? ⟨g, j, none⟩ = some (.int .i64 (j : Int)))) (fun x _ => 16 - (intOf x).toNat)
  case atStart => exact ⟨0, rfl, by omega, ⟨HZ.out.1, HZ.out.2.1, HZ.out.2.2.2.1, HZ.out.2.2.2.2, fun j h => by omega⟩⟩
  case round =>
    obtain ⟨n, rfl, hn, HR⟩ := hrel
    by_cases hlt : n < 16
    · obtain ⟨x, hx⟩ := HR.out.2.2.1 n hlt
      have hf := HR.out.2.2.2.1 n
      have HN : Hid (Below w.heap.size w (wr.setCell ⟨g, n, none⟩ (.int .i64 (n : Int))) ∧ g < (wr.setCell ⟨g, n, none⟩ (.int .i64 (n : Int))).heap.size ∧ (∀ j, j < 16 → ∃ x, (wr.setCell ⟨g, n, none⟩ (.int .i64 (n : Int))).cell? ⟨g, j, none⟩ = some x) ∧ (∀ j, (wr.setCell ⟨g, n, none⟩ (.int .i64 (n : Int))).frozen? ⟨g, j, none⟩ = false) ∧ ∀ j, j < n + 1 → (wr.setCell ⟨g, n, none⟩ (.int .i64 (n : Int))).cell? ⟨g, j, none⟩ = some (.int .i64 (j : Int))) := by
        refine ⟨HR.out.1.setCell HZ.out.2.2.1 _, by rw [sl_size_set6]; exact HR.out.2.1, fun j hj => ?_, fun j => by rw [World.frozen?_setCell]; exact HR.out.2.2.2.1 j, fun j hj => ?_⟩
        · rw [sl_cell_set6 _ hx]
          split
          · exact ⟨_, rfl⟩
          · exact HR.out.2.2.1 j hj
        · rw [sl_cell_set6 _ hx]
          by_cases e : j = n
          · rw [if_pos e, e]
          · rw [if_neg e]
            exact HR.out.2.2.2.2 j (by omega)
      go_wp2
      go_roundw
      case rel => exact ⟨n + 1, by go_num, by omega, HN⟩
      case measure => simp [intOf]; omega
    · obtain rfl : n = 16 := by omega
      go_wp2
      go_ret
      refine ⟨_, rfl, LsW.of HR.out.1 HZ.out.2.2.1 HR.out.2.1 (by simp) (by unfold maxLen; omega) (fun i x hx => ?_) (fun j hj => ?_)⟩
      · obtain ⟨h1, h2⟩ := List.getElem?_eq_some_iff.1 hx
        simp at h1 h2
        rw [← h2]
        exact HR.out.2.2.2.2 i h1
      · obtain ⟨x, hx⟩ := HR.out.2.2.1 j hj
        exact ⟨by rw [hx]; rfl, HR.out.2.2.2.1 j⟩

theorem risingW_2 (w X : World) (h0 : Below w.heap.size w X) (a b : Nat) : Calls Try.prog 60 #[.slice (some ⟨X.heap.size, 0, none⟩) 2 2] (X.alloc (.cells #[.int .i64 (a : Int), .int .i64 (b : Int)] 3)) fun e w' => ∃ v, e = .returned v ∧ LsW w w' v (two a b) := by
  obtain ⟨Z, hZ⟩ : ∃ Z, Z = X.alloc (.cells #[.int .i64 (a : Int), .int .i64 (b : Int)] 3) := ⟨_, rfl⟩
  obtain ⟨g, hg⟩ : ∃ g, g = X.heap.size := ⟨_, rfl⟩
  have hR : Row7 Z g [(a : Int), (b : Int)] Z := by
    refine ⟨KeptB.refl _ _ _, by rw [hZ, hg]; simp, fun j x hx => ?_, fun j _ => ?_⟩
    · match j, hx with
      | 0, hx =>
        injection hx with hx
        rw [← hx, hZ, hg]
        exact World.cell?_alloc_mark X _ _ _ 0
      | 1, hx =>
        injection hx with hx
        rw [← hx, hZ, hg]
        exact World.cell?_alloc_mark X _ _ _ 1
    · rw [hZ, hg, World.frozen?_alloc_mark]; simp
  have HS : Hid _ := Sort_c Z g 2 [(a : Int), (b : Int)] ⟨by simp, by simp⟩ hR
  have HLow : Hid (w.heap.size ≤ g) := by rw [hg]; exact h0.size
  have HOld : Hid (∀ Y l, Row7 Z g l Y → Below w.heap.size w Y) := fun Y l h1 => (h0.trans (by rw [hZ]; exact (below_alloc X _).mono h0.size)).trans (h1.kept.below (by rw [hg]; exact h0.size) (fun _ q => q.elim) (by rw [hZ]; have := h0.size; simp; omega))
  rw [← hZ, ← hg]
  clear hZ hg hR
  by_cases hab : a = b
  · subst hab
    have ht : two a a = [a] := by unfold two; rw [if_pos rfl]
    rw [ht]
    clear ht
    go_enter Try.func60, Try.ntmps60
    go_wp2_with fail
    refine Calls.mono HS.out ?_
    rintro e Y ⟨rfl, l, h1, h2, h3⟩
    have hl := perm_two h2 h3
    rw [if_pos (Int.le_refl _)] at hl
    subst hl
    have c0 := h1.c 0 _ rfl
    have c1 := h1.c 1 _ rfl
    have HC : Hid _ := Compact_2e Y g (a : Int) c0 c1 (h1.f 1 (by simp))
    have HEnd : Hid (LsW w (Y.drew.setCell ⟨g, 1, none⟩ (.int .i64 0)) (.slice (some ⟨g, 0, none⟩) 1 2) [a]) := by
      have d1 : Y.drew.cell? ⟨g, 1, none⟩ = some (.int .i64 (a : Int)) := c1
      have d0 : Y.drew.cell? ⟨g, 0, none⟩ = some (.int .i64 (a : Int)) := c0
      refine LsW.of (((HOld.out Y _ h1).drew).setCell HLow.out _) HLow.out (by rw [sl_size_set6]; exact h1.lt) (by simp) (by unfold maxLen; omega) (fun i x hx => ?_) (fun j hj => ?_)
      · match i, hx with
        | 0, hx =>
          injection hx with hx
          rw [← hx, sl_cell_set6 _ d1, if_neg (by omega)]
          exact d0
      · match j, hj with
        | 0, _ => exact ⟨by rw [sl_cell_set6 _ d1, if_neg (by omega), d0]; rfl, by rw [World.frozen?_setCell]; exact h1.f 0 (by simp)⟩
        | 1, _ => exact ⟨by rw [sl_cell_set6 _ d1, if_pos rfl]; rfl, by rw [World.frozen?_setCell]; exact h1.f 1 (by simp)⟩
    clear h1 h2 h3 c0 c1
    go_wp2_with fail
    refine Calls.mono HC.out ?_
    rintro e Y2 ⟨rfl, h⟩
    have h := h.symm
    subst h
    go_wp2
    go_ret
    exact ⟨_, rfl, HEnd.out⟩
  · have HT : Hid (∀ Y l, Row7 Z g l Y → l.Perm [(a : Int), (b : Int)] → sortedTo l 2 → ∃ p q : Nat, l = [(p : Int), (q : Int)] ∧ p ≠ q ∧ two a b = [p, q]) := fun Y l h1 h2 h3 => by
      have hl := perm_two h2 h3
      by_cases h : a < b
      · rw [if_pos (by omega)] at hl
        exact ⟨a, b, hl, hab, by unfold two; rw [if_neg hab, if_pos h]⟩
      · rw [if_neg (by omega)] at hl
        exact ⟨b, a, hl, fun e => hab e.symm, by unfold two; rw [if_neg hab, if_neg h]⟩
    obtain ⟨tw, htw⟩ : ∃ tw, tw = two a b := ⟨_, rfl⟩
    rw [← htw] at HT ⊢
    clear htw hab
    go_enter Try.func60, Try.ntmps60
    go_wp2_with fail
    refine Calls.mono HS.out ?_
    rintro e Y ⟨rfl, l, h1, h2, h3⟩
    obtain ⟨p, q, hl, hpq, hT⟩ := HT.out Y l h1 h2 h3
    subst hl
    have c0 := h1.c 0 _ rfl
    have c1 := h1.c 1 _ rfl
    have HC : Hid _ := Compact_2n Y g (p : Int) (q : Int) (by omega) c0 c1
    have HEnd : Hid (LsW w Y.drew (.slice (some ⟨g, 0, none⟩) 2 2) tw) := by
      rw [hT]
      refine LsW.of (HOld.out Y _ h1).drew HLow.out h1.lt (by simp) (by unfold maxLen; simp) (fun i x hx => ?_) (fun j hj => ?_)
      · match i, hx with
        | 0, hx =>
          injection hx with hx
          rw [← hx]
          exact c0
        | 1, hx =>
          injection hx with hx
          rw [← hx]
          exact c1
      · match j, hj with
        | 0, _ => exact ⟨by show (Y.cell? _).isSome = true; rw [c0]; rfl, h1.f 0 (by simp)⟩
        | 1, _ => exact ⟨by show (Y.cell? _).isSome = true; rw [c1]; rfl, h1.f 1 (by simp)⟩
    clear h1 h2 h3 c0 c1 hT hpq
    go_wp2_with fail
    refine Calls.mono HC.out ?_
    rintro e Y2 ⟨rfl, h⟩
    have h := h.symm
    subst h
    go_wp2
    go_ret
    exact ⟨_, rfl, HEnd.out⟩

set_option maxHeartbeats 1600000 in
set_option maxRecDepth 20000 in
theorem SlotsW_c (o : Mo.Op) (ho : OpOk o) (w : World) : Calls Try.prog 45 #[opV o] w fun e w' => ∃ v, e = .returned v ∧ LsW w w' v (slotsL o) := by
  obtain ⟨u, hu⟩ : ∃ u, u = w.alloc (.cells #[.int .i64 o.kind, .string o.space, .string o.channel, .string o.user, .string o.text, .string o.toSpace, .string o.to, .int .i64 o.frm, .int .i64 o.most] 37) := ⟨_, rfl⟩
  obtain ⟨bx, hbx⟩ : ∃ bx, bx = w.heap.size := ⟨_, rfl⟩
  have hbu : Below w.heap.size w u := by rw [hu]; exact below_alloc w _
  have hlx : bx < u.heap.size := by rw [hu, hbx]; simp
  have hcu : ∀ j, u.cell? ⟨bx, j, none⟩ = (#[.int .i64 o.kind, .string o.space, .string o.channel, .string o.user, .string o.text, .string o.toSpace, .string o.to, .int .i64 o.frm, .int .i64 o.most] : Array Value)[j]? := fun j => by rw [hu, hbx]; exact World.cell?_alloc_mark w _ _ _ j
  have HC : Hid (Calls Try.prog 33 #[.agg #[.int .i64 o.kind, .string o.space, .string o.channel, .string o.user, .string o.text, .string o.toSpace, .string o.to, .int .i64 o.frm, .int .i64 o.most]] u fun e X => e = .returned (.int .i64 (if Mo.may o = true then 0 else 1)) ∧ Below w.heap.size w X ∧ ∀ j, X.cell? ⟨bx, j, none⟩ = (#[.int .i64 o.kind, .string o.space, .string o.channel, .string o.user, .string o.text, .string o.toSpace, .string o.to, .int .i64 o.frm, .int .i64 o.most] : Array Value)[j]?) := by
    refine (Check_c o ho u).mono ?_
    rintro e X ⟨rfl, hX⟩
    exact ⟨rfl, hbu.trans (hX.mono hbu.size), fun j => (hX.cell (p := ⟨bx, j, none⟩) hlx).trans (hcu j)⟩
  have u0 := hcu 0
  have u1 := hcu 1
  have u2 := hcu 2
  have u3 := hcu 3
  have u4 := hcu 4
  have u5 := hcu 5
  have u6 := hcu 6
  have u7 := hcu 7
  have u8 := hcu 8
  unfold opV
  have hlab := may_labels (o := o)
  obtain ⟨kind, space, channel, user, text, toSpace, to, frm, most⟩ := o
  dsimp only at *
  cases hM : Mo.may ⟨kind, space, channel, user, text, toSpace, to, frm, most⟩ with
  | false =>
    have hL : slotsL ⟨kind, space, channel, user, text, toSpace, to, frm, most⟩ = [] := by unfold slotsL; rw [hM]; rfl
    rw [hM] at HC
    rw [hL]
    clear hM hL hlab hcu hlx hbu ho
    go_enter Try.func45, Try.ntmps45
    go_wp2_with fail
    rw [← hu]
    try rw [← hbx]
    clear hu hbx
    refine Calls.mono HC.out ?_
    rintro e X ⟨rfl, hX, -⟩
    have HX : Hid _ := hX
    clear hX
    go_wp2
    go_ret
    exact ⟨_, rfl, HX.out, RowC.nil _ _ _, fun k h => by simp [cBlk] at h⟩
  | true =>
    obtain ⟨hl1, hl2, hl3⟩ := hlab hM
    have hL : slotsL ⟨kind, space, channel, user, text, toSpace, to, frm, most⟩ = if kind = 5 then two (slotOf space channel) (slotOf toSpace to) else if kind = 6 then List.range 16 else if kind = 7 then List.range 16 else [slotOf space channel] := by unfold slotsL; rw [hM]; rfl
    rw [hM] at HC
    rw [hL]
    clear hM hL hlab hcu hlx hbu ho
    by_cases h6 : kind = 6 ∨ kind = 7
    · have HE : Hid (∀ X, Below w.heap.size w X → Calls Try.prog 62 #[] X fun e w' => ∃ v, e = .returned v ∧ LsW w w' v (List.range 16)) := fun X hX => by
        refine (everyW_c X).mono ?_
        rintro e w' ⟨v, rfl, h1⟩
        exact ⟨v, rfl, h1.from hX⟩
      rcases h6 with h6 | h6
      all_goals
        subst h6
        rw [if_neg (by decide)]
        try rw [if_neg (by decide)]
        rw [if_pos rfl]
        clear hl1 hl2 hl3
        go_enter Try.func45, Try.ntmps45
        go_wp2_with fail
        rw [← hu]
        try rw [← hbx]
        clear hu hbx
        refine Calls.mono HC.out ?_
        rintro e X ⟨rfl, hX, hc⟩
        have x0 := hc 0
        have HX : Hid _ := HE.out X hX
        clear hX hc
        go_wp2_with fail
        refine Calls.mono HX.out ?_
        rintro e Y ⟨v, rfl, hv⟩
        have HV : Hid _ := hv
        clear hv
        go_wp2
        go_ret
        exact ⟨v, rfl, HV.out⟩
    · by_cases h5 : kind = 5
      · subst h5
        rw [if_pos rfl]
        have hof := hl1 (by omega)
        have hof2 := hl2 rfl
        have hsz := ofE_size hof
        have hsz2 := ofE_size hof2
        have HH : Hid (∀ X, Calls Try.prog 61 #[.string space, .string channel] X fun e w' => e = .returned (.int .i64 (slotOf space channel : Int)) ∧ w' = X) := fun X => hashed_c space channel hsz.1 hsz.2 X
        have HH2 : Hid (∀ X, Calls Try.prog 61 #[.string toSpace, .string to] X fun e w' => e = .returned (.int .i64 (slotOf toSpace to : Int)) ∧ w' = X) := fun X => hashed_c toSpace to hsz2.1 hsz2.2 X
        obtain ⟨r, hr⟩ : ∃ r, r = slotOf space channel := ⟨_, rfl⟩
        obtain ⟨q, hq⟩ : ∃ q, q = slotOf toSpace to := ⟨_, rfl⟩
        rw [← hr, ← hq]
        rw [← hr] at HH
        rw [← hq] at HH2
        clear hl1 hl2 hl3 h6 hof hof2 hsz hsz2 hr hq
        go_enter Try.func45, Try.ntmps45
        go_wp2_with fail
        rw [← hu]
        try rw [← hbx]
        clear hu hbx
        refine Calls.mono HC.out ?_
        rintro e X ⟨rfl, hX, hc⟩
        have x0 := hc 0
        have x1 := hc 1
        have x2 := hc 2
        have x5 := hc 5
        have x6 := hc 6
        have hbl := World.block_lt_of_cell? X ⟨bx, 0, none⟩ x0
        have HSw : Hid (∀ W, Below X.heap.size X W → W.cell? ⟨bx, 1, none⟩ = some (.string space) ∧ W.cell? ⟨bx, 2, none⟩ = some (.string channel) ∧ W.cell? ⟨bx, 5, none⟩ = some (.string toSpace) ∧ W.cell? ⟨bx, 6, none⟩ = some (.string to)) := fun W hW => ⟨(hW.cell (p := ⟨bx, 1, none⟩) hbl).trans x1, (hW.cell (p := ⟨bx, 2, none⟩) hbl).trans x2, (hW.cell (p := ⟨bx, 5, none⟩) hbl).trans x5, (hW.cell (p := ⟨bx, 6, none⟩) hbl).trans x6⟩
        have HR : Hid (Calls Try.prog 60 #[.slice (some ⟨X.heap.size, 0, none⟩) 2 2] (X.alloc (.cells #[.int .i64 (r : Int), .int .i64 (q : Int)] 3)).drew fun e w' => ∃ v, e = .returned v ∧ LsW w w' v (two r q) ∧ Below X.heap.size X w') := by
          have h1 := risingW_2 X.drew X.drew (Below.refl _ _) r q
          refine Calls.mono h1 ?_
          rintro e w' ⟨v, rfl, h2⟩
          have h4 : Below X.heap.size X w' := (below_drew X).trans h2.1
          exact ⟨v, rfl, h2.from hX.drew, h4⟩
        have HK0 : Hid (Below X.heap.size X X.drew) := below_drew X
        have HK1 : Hid (Below X.heap.size X (X.alloc (.cells #[.int .i64 (r : Int), .int .i64 (q : Int)] 3)).drew) := (below_alloc X _).drew
        clear hX hc hbl
        go_wp2
        go_region_held (fun W => W.cell? ⟨bx, 1, none⟩ = some (.string space) ∧ W.cell? ⟨bx, 2, none⟩ = some (.string channel) ∧ W.cell? ⟨bx, 5, none⟩ = some (.string toSpace) ∧ W.cell? ⟨bx, 6, none⟩ = some (.string to))
          (first | with_reducible exact HSw.out _ HK0.out | with_reducible exact HSw.out _ HK1.out | with_reducible exact HSw.out _ HK2.out)
          (first
            | (go_at_call_of 61 space; refine (HH.out _).mono ?_; rintro e Y ⟨rfl, hY⟩; have hY := hY.symm; subst hY)
            | (go_at_call_of 61 toSpace; refine (HH2.out _).mono ?_; rintro e Y ⟨rfl, hY⟩; have hY := hY.symm; subst hY)
            | (go_at_call 60; refine Calls.mono HR.out ?_; rintro e Y ⟨v, rfl, hv, hk2⟩; have HV : Hid _ := hv; have HK2 : Hid (Below X.heap.size X Y) := hk2; clear hv hk2))
        all_goals
          go_wp2
          go_ret
          exact ⟨v, rfl, HV.out⟩
      · have hof := hl1 (by omega)
        have hsz := ofE_size hof
        have HH : Hid (∀ X, Calls Try.prog 61 #[.string space, .string channel] X fun e w' => e = .returned (.int .i64 (slotOf space channel : Int)) ∧ w' = X) := fun X => hashed_c space channel hsz.1 hsz.2 X
        rw [if_neg h5, if_neg (fun e => h6 (.inl e)), if_neg (fun e => h6 (.inr e))]
        obtain ⟨r, hr⟩ : ∃ r, r = slotOf space channel := ⟨_, rfl⟩
        rw [← hr] at HH ⊢
        have k5 : (kind == 5) = false := by simpa using h5
        have k6 : (kind == 6) = false := by simpa using fun e : kind = 6 => h6 (.inl e)
        have k7 : (kind == 7) = false := by simpa using fun e : kind = 7 => h6 (.inr e)
        have HR : Hid (∀ X, Below w.heap.size w X → Calls Try.prog 60 #[.slice (some ⟨X.heap.size, 0, none⟩) 1 1] (X.alloc (.cells #[.int .i64 (r : Int)] 3)) fun e w' => ∃ v, e = .returned v ∧ LsW w w' v [r]) := fun X hX => risingW_1 w X hX r
        clear hl1 hl2 hl3 h5 h6 hof hsz hr
        go_enter Try.func45, Try.ntmps45
        go_wp2_with fail
        rw [← hu]
        try rw [← hbx]
        clear hu hbx
        refine Calls.mono HC.out ?_
        rintro e X ⟨rfl, hX, hc⟩
        have x0 := hc 0
        have x1 := hc 1
        have x2 := hc 2
        have HX : Hid _ := HR.out X hX
        clear hX hc
        go_wp2_with fail
        refine (HH.out X).mono ?_
        rintro e Y ⟨rfl, hY⟩
        have hY := hY.symm
        subst hY
        go_wp2_with fail
        refine Calls.mono HX.out ?_
        rintro e Y2 ⟨v, rfl, hv⟩
        have HV : Hid _ := hv
        clear hv
        go_wp2
        go_ret
        exact ⟨v, rfl, HV.out⟩
end Go.Proofs.Ytepbmfjimppgcaa
