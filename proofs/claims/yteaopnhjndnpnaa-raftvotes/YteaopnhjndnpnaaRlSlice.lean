/-
  A raft log's Slice.
-/
import Derived.Test.YteaopnhjndnpnaaRlOps
namespace Go.Proofs.Yteaopnhjndnpnaa
open Go.RowKit

/-- What Slice answers. -/
def SliceOut (w : World) (s : G.L) (i m : Int) (e : Ending) (w' : World) : Prop :=
  ∃ v', e = .returned (.tuple #[v', .int .i64 (G.sliceE s i m)]) ∧ RowC w' 2 v' (G.slice s i m).length (entCells (G.slice s i m)) ∧ Below w.heap.size w w'

/-- The same, in memory of its own. -/
def SliceF (w : World) (s : G.L) (i m : Int) (e : Ending) (w' : World) : Prop :=
  ∃ v', e = .returned (.tuple #[v', .int .i64 (G.sliceE s i m)]) ∧ Below w.heap.size w w' ∧ RowC w' 2 v' (G.slice s i m).length (entCells (G.slice s i m)) ∧ ∀ k, cBlk v' = some k → w.heap.size ≤ k

section
variable {w : World} {B : Nat} {s : G.L} {own : Nat → Prop}

theorem SliceF.no (i m : Int) (c : Int) (hc : G.sliceE s i m = c) (h0 : c ≠ 0) : Hid (∀ u, Below w.heap.size w u → SliceF w s i m (.returned (.tuple #[.slice none 0 0, .int .i64 c])) u) := by
  intro u hu
  refine ⟨.slice none 0 0, by rw [hc], hu, ?_⟩
  unfold G.slice
  rw [hc, if_neg h0]
  exact ⟨RowC.nil _ _ _, fun k hk => by simp [cBlk] at hk⟩

set_option maxHeartbeats 400000 in
theorem Slice_f (h : Lg w B s own) (i m : Int) : Calls Try.prog 33 #[.pointer (some ⟨B, 0, none⟩), .int .i64 i, .int .i64 m] w (SliceF w s i m) := by
  by_cases hm : m < 0
  · have HO := SliceF.no (w := w) (s := s) i m 1 (by unfold G.sliceE; rw [if_pos hm]) (by decide)
    generalize SliceF w s i m = Q at HO ⊢
    clear h
    go_enter Try.func33, Try.ntmps33
    go_wp2
    exact HO.out _ (Below.refl _ _)
  have hlen := h.ok.len
  have hb0 := h.ok.base
  have hl1 := h.ok.last
  have HB : Hid _ := Base_c h
  have HL : Hid _ := Last_c h
  have hE : G.sliceE s i m = G.cutE s i := by unfold G.sliceE G.cutE; rw [if_neg hm]
  have HW : Hid (∀ n, Calls Try.prog 54 #[.pointer (some ⟨B, 0, none⟩), .int .i64 i, .int .i64 (s.base + 1), .int .i64 (G.last s + 1)] (w.drewN n) fun e w' => e = .returned (.int .i64 (G.cutE s i)) ∧ w' = w.drewN n) := fun n => within_c (h.drewN n) i (s.base + 1) (G.last s + 1)
  have hw1 : IntKind.i64.wrap (s.base + 1) = s.base + 1 := by rw [IntKind.wrap_i64]; omega
  have hl0 : 0 ≤ G.last s := by unfold G.last; omega
  have hw2 : IntKind.i64.wrap (G.last s + 1) = G.last s + 1 := by rw [IntKind.wrap_i64]; omega
  clear hl0
  by_cases e : G.cutE s i = 0
  · have hi := G.within_zero.1 e
    unfold G.last at hi
    obtain ⟨k, hk⟩ : ∃ k : Nat, i - s.base - 1 = (k : Int) := ⟨(i - s.base - 1).toNat, by omega⟩
    obtain ⟨q, hq⟩ : ∃ q : Nat, m = (q : Int) := ⟨m.toNat, by omega⟩
    have HP : Hid (∀ n, Calls Try.prog 55 #[.pointer (some ⟨B, 0, none⟩), .int .i64 i] (w.drewN n) fun e w' => e = .returned (.int .i64 (k : Int)) ∧ w' = w.drewN n) := fun n => by
      have := place_c (h.drewN n) i (by omega)
      rw [hk] at this
      exact this
    obtain ⟨v, mm, h⟩ := h
    obtain ⟨p, c, hv, _, _⟩ := h.row.form
    obtain ⟨n, hn⟩ : ∃ n, n = s.ents.length := ⟨_, rfl⟩
    have h3 := h.c3
    rw [hv, ← hn] at h3
    have hrow := h.row
    rw [hv, ← hn] at hrow
    have hkn : k ≤ n := by omega
    obtain ⟨r, hr⟩ : ∃ r, r = k + min q (n - k) := ⟨_, rfl⟩
    have hr1 : k ≤ r := by omega
    have hr2 : r ≤ n := by omega
    have HC : Hid (∀ u, Below w.heap.size w u → Calls Try.prog 56 #[.pointer (some ⟨B, 0, none⟩), .int .i64 (k : Int), .int .i64 (r : Int)] u fun e w' => ∃ p' n' c', e = .returned (.slice p' n' c') ∧ Hid (SliceF w s i m (.returned (.tuple #[.slice p' n' c', .int .i64 0])) w')) := by
      intro u hu
      have hlt := World.block_lt_of_cell? _ _ h3
      refine (piece_c ((hu.cell hlt).trans h3) (hrow.carry (fun x hx => hu.block x (hrow.lt (by omega) hx))) k r hr1 hr2 (by omega)).mono ?_
      rintro e1 w' ⟨v', rfl, a1, a2, a3⟩
      obtain ⟨p', c', hv', _⟩ := a1.form
      subst hv'
      refine ⟨p', r - k, c', rfl, _, by rw [hE, e], hu.trans (a2.mono hu.size), ?_, fun k hk => Nat.le_trans hu.size (a3 k hk)⟩
      have hs : G.slice s i m = (s.ents.drop k).take (r - k) := by
        unfold G.slice
        rw [hE, if_pos e, hk, hq, Int.toNat_natCast, Int.toNat_natCast, List.take_eq_take_iff, List.length_drop]
        omega
      rw [hs, show ((s.ents.drop k).take (r - k)).length = r - k by rw [List.length_take, List.length_drop]; omega]
      exact a1
    obtain ⟨nk, hnk⟩ : ∃ nk, nk = n - k := ⟨_, rfl⟩
    have HQ : Hid (wrap64 ((n : Int) - (k : Int)) = (nk : Int) ∧ (q ≤ nk → wrap64 ((k : Int) + (q : Int)) = (r : Int)) ∧ (¬ q ≤ nk → wrap64 ((k : Int) + (nk : Int)) = (r : Int))) :=
      ⟨w64 _ (by omega) (by omega), fun _ => w64 _ (by omega) (by omega), fun _ => w64 _ (by omega) (by omega)⟩
    subst hq
    rw [e] at HW
    generalize G.last s = l at HL HW hw2
    generalize SliceF w s i (q : Int) = Q at HC ⊢
    clear e h hlen hi hk hb0 hE hv hn hrow hkn hr hr1 hr2 hnk hl1
    have hm0 : (0 : Int) ≤ (q : Int) := by omega
    clear hm
    by_cases hqq : q ≤ nk
    · obtain ⟨q1, q2, q3⟩ := HQ.out
      have q2 := q2 hqq
      clear q3
      go_enter Try.func33, Try.ntmps33
      go_wp2_with fail
      refine Calls.mono HB.out ?_
      rintro e w1 ⟨rfl, hw⟩
      subst hw
      go_wp2_with fail
      refine Calls.mono HL.out ?_
      rintro e w2 ⟨rfl, hw⟩
      subst hw
      go_wp2_with fail
      refine Calls.mono (HW.out 1) ?_
      rintro e w3 ⟨rfl, hw⟩
      subst hw
      go_wp2_with fail
      refine Calls.mono (HP.out 1) ?_
      rintro e w3 ⟨rfl, hw⟩
      subst hw
      go_wp2_with fail
      refine Calls.mono (HC.out _ (below_drewN _ 1)) ?_
      rintro e w4 ⟨p', n', c', rfl, HO⟩
      go_wp2
      exact HO.out
    · obtain ⟨q1, q2, q3⟩ := HQ.out
      have q3 := q3 hqq
      clear q2
      go_enter Try.func33, Try.ntmps33
      go_wp2_with fail
      refine Calls.mono HB.out ?_
      rintro e w1 ⟨rfl, hw⟩
      subst hw
      go_wp2_with fail
      refine Calls.mono HL.out ?_
      rintro e w2 ⟨rfl, hw⟩
      subst hw
      go_wp2_with fail
      refine Calls.mono (HW.out 1) ?_
      rintro e w3 ⟨rfl, hw⟩
      subst hw
      go_wp2_with fail
      refine Calls.mono (HP.out 1) ?_
      rintro e w3 ⟨rfl, hw⟩
      subst hw
      go_wp2_with fail
      refine Calls.mono (HC.out _ (below_drewN _ 1)) ?_
      rintro e w4 ⟨p', n', c', rfl, HO⟩
      go_wp2
      exact HO.out
  · have t0 : (G.cutE s i != 0) = true := by simpa using e
    have HO := SliceF.no (w := w) (s := s) i m (G.cutE s i) hE e
    generalize G.cutE s i = x at HW t0 HO
    generalize G.last s = l at HL HW hw2
    generalize SliceF w s i m = Q at HO ⊢
    clear e h hlen hb0 hE hl1
    go_enter Try.func33, Try.ntmps33
    go_wp2_with fail
    refine Calls.mono HB.out ?_
    rintro e w1 ⟨rfl, hw⟩
    subst hw
    go_wp2_with fail
    refine Calls.mono HL.out ?_
    rintro e w2 ⟨rfl, hw⟩
    subst hw
    go_wp2_with fail
    refine Calls.mono (HW.out 1) ?_
    rintro e w3 ⟨rfl, hw⟩
    subst hw
    go_wp2
    exact HO.out _ (below_drewN _ 1)

theorem Slice_c (h : Lg w B s own) (i m : Int) : Calls Try.prog 33 #[.pointer (some ⟨B, 0, none⟩), .int .i64 i, .int .i64 m] w (SliceOut w s i m) := by
  refine (Slice_f h i m).mono ?_
  rintro e w' ⟨v, h1, h2, h3, _⟩
  exact ⟨v, h1, h3, h2⟩

end
end Go.Proofs.Yteaopnhjndnpnaa
