/-
  A raft log's Cut, Compact, Slice.
-/
import Derived.Test.YteaopnhjndnpnaaRlKeep
namespace Go.Proofs.Yteaopnhjndnpnaa
open Go.RowKit

section
variable {w : World} {B : Nat} {s : G.L} {own : Nat → Prop}

theorem Aft.from' (h : Lg w B s own) {u w' : World} {s' : G.L} (hb : Below w.heap.size w u) (ha : Aft own u w' B s') : Aft own w w' B s' := Aft.from hb h.lt h.here ha

/-- What Cut answers. -/
def CutOut (own : Nat → Prop) (w : World) (B : Nat) (s : G.L) (i : Int) (e : Ending) (w' : World) : Prop := e = .returned (.int .i64 (G.cutE s i)) ∧ Aft own w w' B (G.cut s i)

theorem Cut_c (h : Lg w B s own) (i : Int) : Calls Try.prog 106 #[.pointer (some ⟨B, 0, none⟩), .int .i64 i] w (CutOut own w B s i) := by
  have hlen := h.ok.len
  have hb0 := h.ok.base
  have HB : Hid _ := Base_c h
  have HL : Hid _ := Last_c h
  have HW : Hid (∀ n, Calls Try.prog 54 #[.pointer (some ⟨B, 0, none⟩), .int .i64 i, .int .i64 (s.base + 1), .int .i64 (G.last s + 1)] (w.drewN n) fun e w' => e = .returned (.int .i64 (G.cutE s i)) ∧ w' = w.drewN n) := fun n => within_c (h.drewN n) i (s.base + 1) (G.last s + 1)
  have hw1 : IntKind.i64.wrap (s.base + 1) = s.base + 1 := by rw [IntKind.wrap_i64]; omega
  have hl0 : 0 ≤ G.last s := by unfold G.last; omega
  have hw2 : IntKind.i64.wrap (G.last s + 1) = G.last s + 1 := by have := h.ok.last; rw [IntKind.wrap_i64]; omega
  clear hl0
  by_cases e : G.cutE s i = 0
  · have hi := G.within_zero.1 e
    unfold G.last at hi
    obtain ⟨k, hk⟩ : ∃ k : Nat, i - s.base - 1 = (k : Int) := ⟨(i - s.base - 1).toNat, by omega⟩
    have HP : Hid (∀ n, Calls Try.prog 55 #[.pointer (some ⟨B, 0, none⟩), .int .i64 i] (w.drewN n) fun e w' => e = .returned (.int .i64 (k : Int)) ∧ w' = w.drewN n) := fun n => by
      have := place_c (h.drewN n) i (by omega)
      rw [hk] at this
      exact this
    have HK : Hid (∀ n, Calls Try.prog 74 #[.pointer (some ⟨B, 0, none⟩), .int .i64 0, .int .i64 (k : Int)] (w.drewN n) fun e w' => e = .returned (.tuple #[]) ∧ CutOut own w B s i (.returned (.int .i64 0)) w') := fun n => by
      refine (keep_c (h.drewN n) 0 k (Nat.zero_le _) (by omega)).mono ?_
      rintro e1 w' ⟨rfl, ha⟩
      refine ⟨rfl, by rw [e], ?_⟩
      have := Aft.from' h (below_drewN w n) ha
      unfold G.cut
      rw [if_pos e, hk, Int.toNat_natCast]
      exact this
    rw [e] at HW
    generalize G.last s = l at HL HW hw2
    generalize CutOut own w B s i = Q at HK ⊢
    clear e h hlen hi hk hb0
    go_enter Try.func106, Try.ntmps106
    go_wp2_with fail
    refine Calls.mono HB.out ?_
    rintro e w1 ⟨rfl, hw⟩
    subst hw
    go_wp2_with fail
    refine Calls.mono HL.out ?_
    rintro e w2 ⟨rfl, hw⟩
    subst hw
    go_wp2_with fail
    refine Calls.mono (HW.out 1) ?_
    rintro e w3 ⟨rfl, hw⟩
    subst hw
    go_wp2_with fail
    refine Calls.mono (HP.out 1) ?_
    rintro e w3 ⟨rfl, hw⟩
    subst hw
    go_wp2_with fail
    refine Calls.mono (HK.out 1) ?_
    rintro e w4 ⟨rfl, hq⟩
    have HQ : Hid _ := hq
    clear hq
    go_wp2
    exact HQ.out
  · have t0 : (G.cutE s i != 0) = true := by simpa using e
    have HO : Hid (CutOut own w B s i (.returned (.int .i64 (G.cutE s i))) (w.drewN 1)) := by
      refine ⟨rfl, ?_⟩
      unfold G.cut
      rw [if_neg e]
      exact Aft.same h (below_drewN w 1)
    generalize G.cutE s i = x at HW t0 HO
    generalize G.last s = l at HL HW hw2
    generalize CutOut own w B s i = Q at HO ⊢
    clear e h hlen hb0
    go_enter Try.func106, Try.ntmps106
    go_wp2_with fail
    refine Calls.mono HB.out ?_
    rintro e w1 ⟨rfl, hw⟩
    subst hw
    go_wp2_with fail
    refine Calls.mono HL.out ?_
    rintro e w2 ⟨rfl, hw⟩
    subst hw
    go_wp2_with fail
    refine Calls.mono (HW.out 1) ?_
    rintro e w3 ⟨rfl, hw⟩
    subst hw
    go_wp2
    exact HO.out

/-- What Compact answers. -/
def CmpOut (own : Nat → Prop) (w : World) (B : Nat) (s : G.L) (i : Int) (e : Ending) (w' : World) : Prop := e = .returned (.int .i64 (G.termE s i)) ∧ Aft own w w' B (G.cmp s i)

/-- Another base. -/
theorem Aft.rebase {u : World} (ha : Aft own w u B s) (i t : Int) (ok : G.Ok ⟨i, t, s.ents⟩) : Aft own w ((u.setCell ⟨B, 1, none⟩ (.int .i64 i)).setCell ⟨B, 2, none⟩ (.int .i64 t)) B ⟨i, t, s.ents⟩ := by
  obtain ⟨⟨v, m, h⟩, hk⟩ := ha
  have e1 : (u.setCell ⟨B, 1, none⟩ (.int .i64 i)).cell? ⟨B, 2, none⟩ = some (.int .i64 s.term) := by rw [cell_set6 _ h.c1, if_neg (by omega)]; exact h.c2
  have hc : ∀ q, ((u.setCell ⟨B, 1, none⟩ (.int .i64 i)).setCell ⟨B, 2, none⟩ (.int .i64 t)).cell? ⟨B, q, none⟩ = if q = 2 then some (.int .i64 t) else if q = 1 then some (.int .i64 i) else u.cell? ⟨B, q, none⟩ := fun q => by rw [cell_set6 _ e1, cell_set6 _ h.c1]
  refine ⟨⟨v, m, by rw [size_set6, size_set6]; exact h.lt, by rw [hc, if_neg (by omega), if_neg (by omega)]; exact h.c0, by rw [hc, if_neg (by omega), if_pos rfl], by rw [hc, if_pos rfl], by rw [hc, if_neg (by omega), if_neg (by omega)]; exact h.c3, by rw [hc, if_neg (by omega), if_neg (by omega)]; exact h.c4, fun j hj => by rw [World.frozen?_setCell, World.frozen?_setCell]; exact h.fz j hj, ?_, fun k hk' => ?_, fun k hk' => ?_, h.few, ok⟩, (hk.setCell ⟨B, 1, none⟩ (.inl rfl) _).setCell ⟨B, 2, none⟩ (.inl rfl) _⟩
  · have hne : ∀ k, cBlk v = some k → k ≠ B := fun k hk' => (h.here k (h.mine k hk')).2
    exact h.row.carry (fun k hk' => by rw [Below.heap_setCell _ _ _ _ (hne k hk'), Below.heap_setCell _ _ _ _ (hne k hk')])
  · rcases h.mine k hk' with q | q
    · exact .inl q
    · exact .inr ⟨q.1, by rw [size_set6, size_set6]; exact q.2⟩
  · rw [size_set6, size_set6]
    rcases hk' with q | q
    · exact h.here k (.inl q)
    · rw [size_set6, size_set6] at q
      exact h.here k (.inr q)

set_option maxHeartbeats 400000 in
theorem Compact_c (h : Lg w B s own) (i : Int) : Calls Try.prog 51 #[.pointer (some ⟨B, 0, none⟩), .int .i64 i] w (CmpOut own w B s i) := by
  have hlen := h.ok.len
  have hb0 := h.ok.base
  have HB : Hid _ := Base_c h
  have HL : Hid _ := Last_c h
  have HW : Hid (∀ n, Calls Try.prog 54 #[.pointer (some ⟨B, 0, none⟩), .int .i64 i, .int .i64 s.base, .int .i64 (G.last s)] (w.drewN n) fun e w' => e = .returned (.int .i64 (G.termE s i)) ∧ w' = w.drewN n) := fun n => within_c (h.drewN n) i s.base (G.last s)
  by_cases e : G.termE s i = 0
  · have hi := G.within_zero.1 e
    have HT : Hid (∀ n, Calls Try.prog 73 #[.pointer (some ⟨B, 0, none⟩), .int .i64 i] (w.drewN n) fun e w' => e = .returned (.int .i64 (G.termAt s i)) ∧ ∃ m, w' = w.drewN m) := fun n => (termAt_c (h.drewN n) i hi).mono (by rintro e w' ⟨rfl, m, hw⟩; exact ⟨rfl, n + m, by rw [hw, World.drewN_drewN]⟩)
    have hok : G.Ok ⟨i, G.termAt s i, s.ents.drop (i - s.base).toNat⟩ := by
      have := h.ok.cmp i
      unfold G.cmp at this
      rw [if_pos e] at this
      exact this
    unfold G.last at hi
    obtain ⟨k, hk⟩ : ∃ k : Nat, i - s.base = (k : Int) := ⟨(i - s.base).toNat, by omega⟩
    have hwi : IntKind.i64.wrap (i + 1) = i + 1 := by rw [IntKind.wrap_i64]; omega
    have HP : Hid (∀ X, Bel w X → Calls Try.prog 55 #[.pointer (some ⟨B, 0, none⟩), .int .i64 (i + 1)] X fun e w' => e = .returned (.int .i64 (k : Int)) ∧ w' = X) := fun X hX => by
      have := place_c (h.below hX) (i + 1) (by omega)
      rw [show i + 1 - s.base - 1 = (k : Int) by omega] at this
      exact this
    obtain ⟨n, hn⟩ : ∃ n, n = s.ents.length := ⟨_, rfl⟩
    have HK : Hid (∀ X, Bel w X → Calls Try.prog 74 #[.pointer (some ⟨B, 0, none⟩), .int .i64 (k : Int), .int .i64 (n : Int)] X fun e w' => e = .returned (.tuple #[]) ∧ Hid (CmpOut own w B s i (.returned (.int .i64 0)) ((w'.setCell ⟨B, 1, none⟩ (.int .i64 i)).setCell ⟨B, 2, none⟩ (.int .i64 (G.termAt s i)))) ∧ w'.cell? ⟨B, 1, none⟩ = some (.int .i64 s.base) ∧ w'.cell? ⟨B, 2, none⟩ = some (.int .i64 s.term) ∧ w'.frozen? ⟨B, 1, none⟩ = false ∧ w'.frozen? ⟨B, 2, none⟩ = false) := fun X hX => by
      refine (keep_c (h.below hX) k n (by omega) (by omega)).mono ?_
      rintro e1 w' ⟨rfl, ha⟩
      have ha := Aft.from' h hX ha
      have hents : (kept s k n).ents = s.ents.drop (i - s.base).toNat := by
        show (s.ents.drop k).take (n - k) = _
        rw [hk, Int.toNat_natCast, List.take_of_length_le (by rw [List.length_drop]; omega)]
      have hr := Aft.rebase ha i (G.termAt s i) (by rw [hents]; exact hok)
      obtain ⟨⟨v', m', h'⟩, _⟩ := ha
      refine ⟨rfl, ⟨by rw [e], ?_⟩, h'.c1, h'.c2, h'.fz 1 (by omega), h'.fz 2 (by omega)⟩
      unfold G.cmp
      rw [if_pos e, ← hents]
      exact hr
    rw [e] at HW
    obtain ⟨v, m, h⟩ := h
    obtain ⟨p, c, hv, _, _⟩ := h.row.form
    have h3 := h.c3
    rw [hv, ← hn] at h3
    generalize G.last s = l at HL HW
    generalize G.termAt s i = t at HT HK
    generalize CmpOut own w B s i = Q at HK ⊢
    clear e h hlen hi hk hb0 hok hn hv
    go_enter Try.func51, Try.ntmps51
    go_wp2_with fail
    refine Calls.mono HB.out ?_
    rintro e w1 ⟨rfl, hw⟩
    subst hw
    go_wp2_with fail
    refine Calls.mono HL.out ?_
    rintro e w2 ⟨rfl, hw⟩
    subst hw
    go_wp2_with fail
    refine Calls.mono (HW.out 1) ?_
    rintro e w3 ⟨rfl, hw⟩
    subst hw
    go_wp2_with fail
    refine Calls.mono (HT.out 1) ?_
    rintro e w3 ⟨rfl, mm, hw⟩
    have hbel : Bel w1 w3.drew := by rw [hw]; exact (below_drewN _ _).drew
    have hlt := World.block_lt_of_cell? _ _ h3
    have y3 : w3.cell? ⟨B, 3, none⟩ = some (.slice p n c) := by rw [hw]; exact h3
    clear hw h3
    go_wp2
    go_region_with (first
      | (go_at_call 55; refine (HP.out _ ?_).mono ?_; assumption; rintro e w4 ⟨rfl, hw⟩; subst hw)
      | (go_at_call 74; refine (HK.out _ ?_).mono ?_; assumption; rintro e w5 ⟨rfl, hq, z1, z2, ff1, ff2⟩))
    all_goals
      clear y3 hbel
      go_wp2
      exact hq.out
  · have t0 : (G.termE s i != 0) = true := by simpa using e
    have HO : Hid (CmpOut own w B s i (.returned (.int .i64 (G.termE s i))) (w.drewN 1)) := by
      refine ⟨rfl, ?_⟩
      unfold G.cmp
      rw [if_neg e]
      exact Aft.same h (below_drewN w 1)
    generalize G.termE s i = x at HW t0 HO
    generalize G.last s = l at HL HW
    generalize CmpOut own w B s i = Q at HO ⊢
    clear e h hlen hb0
    go_enter Try.func51, Try.ntmps51
    go_wp2_with fail
    refine Calls.mono HB.out ?_
    rintro e w1 ⟨rfl, hw⟩
    subst hw
    go_wp2_with fail
    refine Calls.mono HL.out ?_
    rintro e w2 ⟨rfl, hw⟩
    subst hw
    go_wp2_with fail
    refine Calls.mono (HW.out 1) ?_
    rintro e w3 ⟨rfl, hw⟩
    subst hw
    go_wp2
    exact HO.out

end
end Go.Proofs.Yteaopnhjndnpnaa
