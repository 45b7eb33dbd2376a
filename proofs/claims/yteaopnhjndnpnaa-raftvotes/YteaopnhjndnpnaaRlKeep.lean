/-
  A raft log's piece, keep, Cut, Compact, Slice.
-/
import Derived.Test.YteaopnhjndnpnaaRlCut
namespace Go.Proofs.Yteaopnhjndnpnaa
open Go.RowKit

section
variable {w : World} {B : Nat} {s : G.L} {own : Nat → Prop}

theorem take_drop_cells (l : List (Int × ByteArray)) (a b : Nat) : ((entCells l).drop (a * 2)).take ((b - a) * 2) = entCells ((l.drop a).take (b - a)) := by
  rw [entCells_take, entCells_drop]

/-- What a call that stored anew left. -/
theorem LgV.put {w w' : World} {B : Nat} {s s' : G.L} {own : Nat → Prop} {v v' : Value} {m m' : Nat} (h : LgV w B s own v m) (hk : KeptB B own w w')
    (c0 : w'.cell? ⟨B, 0, none⟩ = some (.bool true)) (c1 : w'.cell? ⟨B, 1, none⟩ = some (.int .i64 s'.base)) (c2 : w'.cell? ⟨B, 2, none⟩ = some (.int .i64 s'.term)) (c3 : w'.cell? ⟨B, 3, none⟩ = some v') (c4 : w'.cell? ⟨B, 4, none⟩ = some (.int .i64 (m' : Int)))
    (fz : ∀ j, j < 5 → w'.frozen? ⟨B, j, none⟩ = false) (row : RowC w' 2 v' s'.ents.length (entCells s'.ents)) (hl : ∀ k, cBlk v' = some k → own k ∨ (w.heap.size ≤ k ∧ k < w'.heap.size)) (few : m' ≤ s'.ents.length) (ok : G.Ok s') : Aft own w w' B s' := by
  have hB := h.lt
  refine ⟨⟨v', m', Nat.lt_of_lt_of_le hB hk.size, c0, c1, c2, c3, c4, fz, row, hl, fun k hk' => ?_, few, ok⟩, hk⟩
  rcases hk' with e | e
  · exact ⟨Nat.lt_of_lt_of_le (h.here k e).1 hk.size, (h.here k e).2⟩
  · exact ⟨e.2, by omega⟩

set_option maxHeartbeats 400000 in
theorem piece_c {p : Option Addr} {n c : Nat} {l : List (Int × ByteArray)} (h3 : w.cell? ⟨B, 3, none⟩ = some (.slice p n c)) (hrow : RowC w 2 (.slice p n c) n (entCells l)) (a b : Nat) (hab : a ≤ b) (hb : b ≤ n) (hlen : n ≤ 1099511627776) :
    Calls Try.prog 56 #[.pointer (some ⟨B, 0, none⟩), .int .i64 (a : Int), .int .i64 (b : Int)] w (CloneOut w (b - a) (entCells ((l.drop a).take (b - a)))) := by
  obtain ⟨p0, c0, hv, hc1, hc2⟩ := hrow.form
  injection hv with e1 e2 e
  subst e
  clear e1 e2
  have hcut := (hrow.cut a b b hab (Nat.le_refl _) (by omega) hb).1
  rw [take_drop_cells] at hcut
  have HC : Hid _ := EClone_c hcut (entCells_one _) (by omega)
  have hsl := run_cut3 p n c a b b hab (Nat.le_refl _) (by omega)
  generalize entCells ((l.drop a).take (b - a)) = xs at HC ⊢
  generalize cutP p a b 2 = p' at HC hsl
  clear hcut hrow hc1 hc2 hab hb hlen
  go_enter Try.func56, Try.ntmps56
  go_wp2_with fail
  refine Calls.mono HC.out ?_
  rintro e w1 ⟨v', rfl, hr, hb1, hk1⟩
  obtain ⟨p1, c1, hv1, _, _⟩ := hr.form
  subst hv1
  have HO : Hid (CloneOut w (b - a) xs (.returned (.slice p1 (b - a) c1)) w1) := ⟨_, rfl, hr, hb1, hk1⟩
  clear hr hb1 hk1
  go_wp2
  go_ret
  exact HO.out

theorem w64 {x : Int} (k : Nat) (h : x = (k : Int)) (hk : k ≤ 10000000000000) : wrap64 x = (k : Int) := by
  subst h
  exact IntWalk.wrap64_in (k : Int) ⟨by omega, by omega⟩

/-- What is kept. -/
def kept (s : G.L) (a b : Nat) : G.L := { s with ents := (s.ents.drop a).take (b - a) }

theorem kept_len (s : G.L) {a b : Nat} (hab : a ≤ b) (hb : b ≤ s.ents.length) : (kept s a b).ents.length = b - a := by
  show ((s.ents.drop a).take (b - a)).length = b - a
  rw [List.length_take, List.length_drop]
  omega
theorem kept_ok {s : G.L} (h : G.Ok s) {a b : Nat} (hab : a ≤ b) (hb : b ≤ s.ents.length) : G.Ok (kept s a b) := by
  refine ⟨h.base, ?_⟩
  have := h.last
  unfold G.last at this ⊢
  rw [kept_len s hab hb]
  show s.base + _ ≤ _
  omega

set_option maxHeartbeats 800000 in
theorem keep_c (h : Lg w B s own) (a b : Nat) (hab : a ≤ b) (hb : b ≤ s.ents.length) :
    Calls Try.prog 74 #[.pointer (some ⟨B, 0, none⟩), .int .i64 (a : Int), .int .i64 (b : Int)] w fun e w' => e = .returned (.tuple #[]) ∧ Aft own w w' B (kept s a b) := by
  have hlen := h.ok.len
  obtain ⟨v, m, h⟩ := h
  obtain ⟨p, c, hv, hc1, hc2⟩ := h.row.form
  have HH : Hid (LgV w B s own v m) := h
  have h3 := h.c3
  have h4 := h.c4
  have f3 := h.fz 3 (by omega)
  have f4 := h.fz 4 (by omega)
  have hfew := h.few
  have HV : Hid (v = .slice p s.ents.length c) := hv
  rw [hv] at h3
  obtain ⟨n, hn⟩ : ∃ n, n = s.ents.length := ⟨_, rfl⟩
  have HN : Hid (n = s.ents.length) := hn
  have HO : Hid (G.Ok (kept s a b)) := kept_ok h.ok hab hb
  rw [← hn] at h3 hc1 hb hlen hfew
  obtain ⟨k, hk⟩ : ∃ k, k = a + n - b := ⟨_, rfl⟩
  obtain ⟨j, hj⟩ : ∃ j, j = m + k := ⟨_, rfl⟩
  obtain ⟨an, han⟩ : ∃ an, an = a + n := ⟨_, rfl⟩
  obtain ⟨d, hd⟩ : ∃ d, d = b - a := ⟨_, rfl⟩
  have HQ : Hid (wrap64 ((a : Int) + (n : Int)) = (an : Int) ∧ wrap64 ((an : Int) - (b : Int)) = (k : Int) ∧ wrap64 ((m : Int) + (k : Int)) = (j : Int) ∧ wrap64 ((b : Int) - (a : Int)) = (d : Int)) :=
    ⟨w64 _ (by omega) (by omega), w64 _ (by omega) (by omega), w64 _ (by omega) (by omega), w64 _ (by omega) (by omega)⟩
  obtain ⟨X, hX⟩ : ∃ X, X = (w.setCell ⟨B, 4, none⟩ (.int .i64 (j : Int))).drew := ⟨_, rfl⟩
  have hBX : ∀ q, X.cell? ⟨B, q, none⟩ = if q = 4 then some (.int .i64 (j : Int)) else w.cell? ⟨B, q, none⟩ := fun q => by rw [hX]; exact cell_set6 _ h4 q
  have hFX : ∀ q, X.frozen? ⟨B, q, none⟩ = w.frozen? ⟨B, q, none⟩ := fun q => by rw [hX]; exact World.frozen?_setCell _ _ _ _
  have hKX : KeptB B own w X := by
    rw [hX]
    have := KeptB.setCell (KeptB.refl B own w) ⟨B, 4, none⟩ (.inl rfl) (.int .i64 (j : Int))
    exact ⟨this.os, this.tape, this.output, this.size, this.block⟩
  have hrX : RowC X 2 (.slice p n c) n (entCells s.ents) := by
    have := h.row.carry (w' := X) (fun q hq => by rw [hX]; exact Below.heap_setCell _ _ _ _ (fun e => (h.here q (h.mine q hq)).2 e))
    rw [hv, ← hn] at this
    exact this
  have hsX : X.heap.size = w.heap.size := by rw [hX]; simp [World.setCell]
  have x3 : X.cell? ⟨B, 3, none⟩ = some (.slice p n c) := by rw [hBX, if_neg (by omega)]; exact h3
  have x4 : X.cell? ⟨B, 4, none⟩ = some (.int .i64 (j : Int)) := by rw [hBX, if_pos rfl]
  have g3 : X.frozen? ⟨B, 3, none⟩ = false := by rw [hFX]; exact f3
  have g4 : X.frozen? ⟨B, 4, none⟩ = false := by rw [hFX]; exact f4
  have HBX : Hid _ := hBX
  have HFX : Hid _ := hFX
  have HKX : Hid _ := hKX
  have HrX : Hid _ := hrX
  have HsX : Hid _ := hsX
  have HKL : Hid ((kept s a b).ents.length = d) := by rw [hd]; exact kept_len s hab (by rw [← hn]; exact hb)
  by_cases t1 : d < j
  · have HP : Hid _ := piece_c x3 hrX a b hab hb hlen.1
    rw [← hd] at HP
    have HD : Hid (d = b - a) := hd
    clear h hv hn hc1 hc2 hab hb hlen hfew hk hj han hd hBX hFX hKX hrX hsX
    obtain ⟨q1, q2, q3, q4⟩ := HQ.out
    go_enter Try.func74, Try.ntmps74
    go_wp2
    go_region
    go_wp2_with fail
    rw [← hX]
    clear hX h3 h4 f3 f4
    refine Calls.mono HP.out ?_
    rintro e w1 ⟨v', rfl, hr, hb1, hk1⟩
    obtain ⟨p1, c1, hv1, _, _⟩ := hr.form
    subst hv1
    have hlt := World.block_lt_of_cell? _ _ x3
    have y3 := (hb1.cell hlt).trans x3
    have y4 := (hb1.cell (p := ⟨B, 4, none⟩) hlt).trans x4
    have e3 := (hb1.frozen (p := ⟨B, 3, none⟩) hlt).trans g3
    have e4 := (hb1.frozen (p := ⟨B, 4, none⟩) hlt).trans g4
    have HF : Hid (Aft own w ((w1.setCell ⟨B, 3, none⟩ (.slice p1 d c1)).setCell ⟨B, 4, none⟩ (.int .i64 0)) B (kept s a b)) := by
      have hne : ∀ q, cBlk (.slice p1 d c1) = some q → q ≠ B := fun q hq => by have := hk1 q hq; have : B < X.heap.size := hlt; omega
      have z4 : (w1.setCell ⟨B, 3, none⟩ (.slice p1 d c1)).cell? ⟨B, 4, none⟩ = some (.int .i64 (j : Int)) := by rw [cell_set6 _ y3, if_neg (by omega)]; exact y4
      have hc : ∀ q, ((w1.setCell ⟨B, 3, none⟩ (.slice p1 d c1)).setCell ⟨B, 4, none⟩ (.int .i64 0)).cell? ⟨B, q, none⟩ = if q = 4 then some (.int .i64 0) else if q = 3 then some (.slice p1 d c1) else w.cell? ⟨B, q, none⟩ := fun q => by
        rw [cell_set6 _ z4]
        split
        · rfl
        · rw [cell_set6 _ y3]
          split
          · rfl
          · rw [hb1.cell (p := ⟨B, q, none⟩) hlt, HBX.out, if_neg (by assumption)]
      refine HH.out.put (m' := 0) (v' := .slice p1 d c1) ?_ (by rw [hc, if_neg (by omega), if_neg (by omega)]; exact HH.out.c0) (by rw [hc, if_neg (by omega), if_neg (by omega)]; exact HH.out.c1) (by rw [hc, if_neg (by omega), if_neg (by omega)]; exact HH.out.c2) (by rw [hc, if_neg (by omega), if_pos rfl]) (by rw [hc, if_pos rfl]; rfl) (fun q hq => ?_) ?_ (fun q hq => .inr ⟨by have := hk1 q hq; rw [HsX.out] at this; exact this, ?_⟩) (Nat.zero_le _) HO.out
      · exact (HKX.out.trans (KeptB.ofBelow hb1 (own := own)) (fun _ _ e => e)).setCell ⟨B, 3, none⟩ (.inl rfl) _ |>.setCell ⟨B, 4, none⟩ (.inl rfl) _
      · rw [World.frozen?_setCell, World.frozen?_setCell, hb1.frozen (p := ⟨B, q, none⟩) hlt, HFX.out]
        exact HH.out.fz q hq
      · have : RowC w1 2 (.slice p1 d c1) (kept s a b).ents.length (entCells (kept s a b).ents) := by rw [HKL.out]; unfold kept; rw [← HD.out]; exact hr
        exact this.carry (fun q hq => by rw [Below.heap_setCell _ _ _ _ (hne q hq), Below.heap_setCell _ _ _ _ (hne q hq)])
      · rw [size_set6, size_set6]
        exact hr.lt (by omega) hq
    clear hr hb1 hk1
    go_wp2
    exact bodyPost_ret (v := .tuple #[]) (by simp [results, Try.results74]) rfl ⟨rfl, HF.out⟩
  · have hroom : c = 0 ∨ ∃ g off, p = some ⟨g, off, none⟩ ∧ RoomAt X g off (c * 2) := by
      obtain ⟨_, p0, c0, hv0, _, _, hd0⟩ := hrX
      injection hv0 with ea _ ec
      subst ea ec
      rcases hd0 with e | ⟨g, off, e1, e2, _⟩
      · exact .inl e
      · exact .inr ⟨g, off, e1, e2⟩
    obtain ⟨X1, r1, gr1, sz1, cl1⟩ := run_clear_cut (n := n) hroom 0 a c (Nat.zero_le _) (by omega) (Nat.le_refl _)
    have hroom1 : c = 0 ∨ ∃ g off, p = some ⟨g, off, none⟩ ∧ RoomAt X1 g off (c * 2) := by
      rcases hroom with e | ⟨g, off, e1, _⟩
      · exact .inl e
      · exact .inr ⟨g, off, e1, (cl1 g off e1).1⟩
    obtain ⟨X2, r2, gr2, sz2, cl2⟩ := run_clear_cut (n := n) hroom1 b n c hb hc1 (Nat.le_refl _)
    rw [cutP_zero, Nat.sub_zero, Nat.sub_zero] at r1
    have s1 := run_cutHigh p n c a (by omega)
    rw [cutP_zero, Nat.sub_zero, Nat.sub_zero] at s1
    have s2 := run_cutLow p n c b hb
    have s3 := run_cut2 p n c a b hab (by omega)
    have hne : cBlk (.slice p n c) ≠ some B := fun e => by
      have e2 : cBlk v = some B := by rw [hv, ← hn]; exact e
      exact (h.here B (h.mine B e2)).2 rfl
    have hlX : B < X.heap.size := World.block_lt_of_cell? _ _ x3
    have b1 : X1.heap[B]? = X.heap[B]? := gr1.block B hlX (fun e => hne e.symm)
    have b2 : X2.heap[B]? = X.heap[B]? := (gr2.block B (by rw [sz1]; exact hlX) (fun e => hne e.symm)).trans b1
    have y3 : X1.cell? ⟨B, 3, none⟩ = some (.slice p n c) := (World.cell?_of_block (a := ⟨B, 3, none⟩) b1).trans x3
    have z3 : X2.cell? ⟨B, 3, none⟩ = some (.slice p n c) := (World.cell?_of_block (a := ⟨B, 3, none⟩) b2).trans x3
    have u3 : X2.frozen? ⟨B, 3, none⟩ = false := (World.frozen?_of_block (a := ⟨B, 3, none⟩) b2).trans g3
    have hcut := hrX.cutTo (X := X2) a b hab hb (fun g off hp => ⟨(cl2 g off hp).1, fun q hq1 hq2 => by rw [(cl2 g off hp).2 q (.inl hq2), (cl1 g off hp).2 q (.inr (by omega))]⟩)
    rw [take_drop_cells] at hcut
    obtain ⟨p', hp'⟩ : ∃ p', p' = cutP p a c 2 := ⟨_, rfl⟩
    obtain ⟨p2, hp2⟩ : ∃ p2, p2 = cutP p b c 2 := ⟨_, rfl⟩
    obtain ⟨ca, hca⟩ : ∃ ca, ca = c - a := ⟨_, rfl⟩
    obtain ⟨cb, hcb⟩ : ∃ cb, cb = c - b := ⟨_, rfl⟩
    obtain ⟨nb, hnb⟩ : ∃ nb, nb = n - b := ⟨_, rfl⟩
    rw [← hp', ← hd, ← hca] at s3
    rw [← hp2, ← hnb, ← hcb] at r2 s2
    rw [← hp', ← hd, ← hca] at hcut
    have HF : Hid (Aft own w (X2.setCell ⟨B, 3, none⟩ (.slice p' d ca)) B (kept s a b)) := by
      have hc : ∀ q, (X2.setCell ⟨B, 3, none⟩ (.slice p' d ca)).cell? ⟨B, q, none⟩ = if q = 3 then some (.slice p' d ca) else if q = 4 then some (.int .i64 (j : Int)) else w.cell? ⟨B, q, none⟩ := fun q => by
        rw [cell_set6 _ z3]
        split
        · rfl
        · rw [World.cell?_of_block (a := ⟨B, q, none⟩) b2, HBX.out]
      have hmine : ∀ q, cBlk (.slice p' d ca) = some q → own q := fun q hq => h.mine q (by rw [hv, ← hn]; exact hcut.2 q hq)
      refine HH.out.put (m' := j) (v' := .slice p' d ca) ?_ (by rw [hc, if_neg (by omega), if_neg (by omega)]; exact HH.out.c0) (by rw [hc, if_neg (by omega), if_neg (by omega)]; exact HH.out.c1) (by rw [hc, if_neg (by omega), if_neg (by omega)]; exact HH.out.c2) (by rw [hc, if_pos rfl]) (by rw [hc, if_neg (by omega), if_pos rfl]) (fun q hq => ?_) ?_ (fun q hq => .inl (hmine q hq)) (by rw [HKL.out]; exact Nat.le_of_not_lt t1) HO.out
      · have hmm : ∀ q, cBlk (.slice p n c) = some q → q = B ∨ own q ∨ w.heap.size ≤ q := fun q hq => .inr (.inl (h.mine q (by rw [hv, ← hn]; exact hq)))
        exact ((HKX.out.grown gr1 hmm).grown gr2 hmm).setCell ⟨B, 3, none⟩ (.inl rfl) _
      · rw [World.frozen?_setCell, World.frozen?_of_block (a := ⟨B, q, none⟩) b2, HFX.out]
        exact HH.out.fz q hq
      · have : RowC X2 2 (.slice p' d ca) (kept s a b).ents.length (entCells (kept s a b).ents) := by rw [HKL.out]; unfold kept; rw [← hd]; exact hcut.1
        exact this.carry (fun q hq => Below.heap_setCell _ _ _ _ (fun e => (h.here q (hmine q hq)).2 e))
    clear h hv hn hc1 hc2 hab hb hlen hfew hk hj han hd hBX hFX hKX hrX hsX hroom hroom1 gr1 gr2 sz1 sz2 cl1 cl2 hne b1 b2 hcut hp' hp2 hca hcb hnb hlX
    obtain ⟨q1, q2, q3, q4⟩ := HQ.out
    go_enter Try.func74, Try.ntmps74
    go_wp2
    go_region
    rw [← hX]
    clear hX h3 h4 f3 f4
    go_wp2
    exact bodyPost_end (v := .tuple #[]) (by simp [results, Try.results74]) rfl ⟨rfl, HF.out⟩

end
end Go.Proofs.Yteaopnhjndnpnaa
