/-
  The document's net: New, place, Between.
-/
import Derived.Test.YtpopanfefpehnaaNnCut4
namespace Go.Proofs.Ytpopanfefpehnaa
open Go.RowKit

theorem infoRL : (Try.prog.info? 82).map (fun i => (i.zero, i.size, i.bytes)) = some (some (.agg #[.int .i64 0, .int .i64 0, .string ⟨#[]⟩]), 3, 32) := by kernel_rfl

/-- The document's list. -/
def Ls (w : World) (v : Value) (ls : List Q.Lt) : Prop := RowC w 3 v ls.length (ltCells ls)

theorem Ls.below {w w' : World} {v : Value} {ls : List Q.Lt} (h : Ls w v ls) (hb : Below w.heap.size w w') : Ls w' v ls := RowC.carry h (fun k hk => hb.block k (RowC.lt h (by omega) hk))

theorem Ls.at {w : World} {v : Value} {ls : List Q.Lt} (h : Ls w v ls) {k : Nat} {l : Q.Lt} (hl : ls[k]? = some l) : ∃ g off c, v = .slice (some ⟨g, off, none⟩) ls.length (c + 1) ∧ w.cell? ⟨g, off + k * 3, none⟩ = some (.int .i64 l.fr) ∧ w.cell? ⟨g, off + k * 3 + 1, none⟩ = some (.int .i64 l.tt) ∧ w.cell? ⟨g, off + k * 3 + 2, none⟩ = some (.string l.tx) := by
  have hk := (List.getElem?_eq_some_iff.1 hl).1
  obtain ⟨g, off, c, hv, _, _, _, hC⟩ := RowC.cells h (by omega)
  obtain ⟨e0, e1, e2⟩ := ltCells_at ls k l hl
  exact ⟨g, off, c, hv, hC _ _ e0, by rw [Nat.add_assoc]; exact hC _ _ e1, by rw [Nat.add_assoc]; exact hC _ _ e2⟩

section
variable {w : World} {v : Value} {ls : List Q.Lt}

theorem rplace_c (h : Ls w v ls) (hn : ls.length ≤ 1099511627776) (most k : Int) : Calls Try.prog 69 #[.agg #[.int .i64 most, v], .int .i64 k] w fun e w' => e = .returned (.int .i64 (if ls.length = 0 then -1 else (Q.place k ls.length : Int))) ∧ Below w.heap.size w w' := by
  obtain ⟨p, c, hv, _⟩ := RowC.form h
  subst hv
  have hb : ∀ o, Below w.heap.size w (w.alloc o) := fun o => below_alloc w o
  have HB : Hid _ := hb
  generalize ls.length = m at *
  clear h hb
  by_cases h0 : m = 0
  · subst h0
    go_enter Try.func69, Try.ntmps69
    go_wp2
    go_ret
    exact ⟨rfl, HB.out _⟩
  · have hm0 : ¬ ((m : Int) % 18446744073709551616 = 0) := by omega
    have hm1 : ¬ (m : Int) = 0 := by omega
    have hl : 0 < m := by omega
    rw [if_neg h0]
    go_enter Try.func69, Try.ntmps69
    go_wp2
    go_ret
    refine ⟨?_, HB.out _⟩
    have e1 : IntKind.u64.wrap k = k % 18446744073709551616 := by
      have : (2 : Int) ^ 64 = 18446744073709551616 := by decide
      simp [IntKind.wrap, IntKind.bits, IntKind.signed, this]
    have e2 : (k % 18446744073709551616).tmod (m : Int) = (Q.place k m : Int) := by
      have h0 : 0 ≤ k % 18446744073709551616 := Int.emod_nonneg _ (by decide)
      obtain ⟨a, ha⟩ := Int.eq_ofNat_of_zero_le h0
      unfold Q.place
      rw [ha, Int.tmod_eq_emod_of_nonneg (Int.natCast_nonneg a)]
      simp
    have e3 : Q.place k m < m := Q.place_lt k hl
    have e4 : wrap64 (Q.place k m : Int) = (Q.place k m : Int) := IntWalk.wrap64_in _ ⟨by omega, by omega⟩
    first
      | (show Ending.returned (.int .i64 (wrap64 ((IntKind.u64.wrap k).tmod (m : Int)))) = _
         rw [e1, e2, e4])
      | trace_state

theorem cnt_take (ls : List Q.Lt) (a b : Int) {i : Nat} {l : Q.Lt} (hl : ls[i]? = some l) : Q.cnt (ls.take (i + 1)) a b = Q.cnt (ls.take i) a b + (if l.fr = a ∧ l.tt = b then 1 else 0) := by
  rw [List.take_add_one, hl, Option.toList_some, Q.cnt_snoc]

set_option maxHeartbeats 800000 in
theorem rBetween_c (h : Ls w v ls) (hn : ls.length ≤ 1099511627776) (most a b : Int) : Calls Try.prog 38 #[.agg #[.int .i64 most, v], .int .i64 a, .int .i64 b] w fun e w' => e = .returned (.int .i64 (Q.cnt ls a b : Int)) ∧ Below w.heap.size w w' := by
  obtain ⟨p, c, hv, hc1, hc2⟩ := RowC.form h
  unfold maxLen at hc2
  obtain ⟨u, hu⟩ : ∃ u, u = w.alloc (.cells #[.int .i64 most, v] 29) := ⟨_, rfl⟩
  have hbu : Below w.heap.size w u := by rw [hu]; exact below_alloc w _
  obtain ⟨bx, hbx⟩ : ∃ bx, bx = w.heap.size := ⟨_, rfl⟩
  have x1 : u.cell? ⟨bx, 1, none⟩ = some v := by rw [hu, hbx]; exact World.cell?_alloc_mark w _ _ _ 1
  obtain ⟨m, hm⟩ : ∃ m, m = ls.length := ⟨_, rfl⟩
  have HI : Hid (∀ k, k < m → ∃ l g off, ls[k]? = some l ∧ p = some ⟨g, off, none⟩ ∧ u.cell? ⟨g, off + k * 3, none⟩ = some (.int .i64 l.fr) ∧ u.cell? ⟨g, off + k * 3 + 1, none⟩ = some (.int .i64 l.tt)) := by
    intro k hk
    obtain ⟨l, hl⟩ : ∃ l, ls[k]? = some l := ⟨_, List.getElem?_eq_getElem (by omega)⟩
    obtain ⟨g, off, c', hv', y0, y1, _⟩ := (h.below hbu).at hl
    rw [hv] at hv'
    injection hv' with e1
    exact ⟨l, g, off, hl, e1, y0, y1⟩
  have HM : Hid (m = ls.length) := hm
  rw [hv, ← hm] at x1 hu
  rw [hv, ← hm]
  rw [← hm] at hc1 hn
  have HB : Hid _ := hbu
  have hct : ∀ i, Q.cnt (ls.take i) a b ≤ ls.length := fun i => Nat.le_trans (Q.cnt_le _ _ _) (by rw [List.length_take]; exact Nat.min_le_right _ _)
  have HCt : Hid _ := hct
  clear h hv hm hbu hct
  go_enter Try.func38, Try.ntmps38
  go_wp2
  rw [← hu]
  try rw [← hbx]
  clear hu hbx
  go_loopw [7, 8] (fun kv iv wr => ∃ i : Nat, iv = .int .i64 (i : Int) ∧ i ≤ m ∧ kv = .int .i64 (Q.cnt (ls.take i) a b : Int) ∧ wr = u) (fun _ iv _ => m - (intOf iv).toNat)
  case atStart => exact ⟨0, rfl, Nat.zero_le _, rfl, rfl⟩
  case round =>
    obtain ⟨i, rfl, him, rfl, rfl⟩ := hrel
    by_cases hlt : i < m
    · obtain ⟨l, g, off, hl, hp, y0, y1⟩ := HI.out i hlt
      subst hp
      have HS : Hid _ := cnt_take ls a b hl
      obtain ⟨k, hk⟩ : ∃ k, k = Q.cnt (ls.take i) a b := ⟨_, rfl⟩
      have hk2 : k ≤ m := by rw [hk, HM.out]; exact HCt.out i
      have hkw : IntKind.i64.wrap ((k : Int) + 1) = (k : Int) + 1 := numW (Nat.le_trans hk2 hn)
      have hi0 : (0 : Int) ≤ (i : Int) := Int.natCast_nonneg i
      have HK : Hid (k = Q.cnt (ls.take i) a b) := hk
      rw [← hk]
      obtain ⟨fr, tt, tx⟩ := l
      dsimp only at y0 y1 HS
      clear hk hl hk2
      by_cases q1 : fr = a
      · by_cases q2 : tt = b
        · rw [if_pos ⟨q1, q2⟩] at HS
          subst q1 q2
          go_wp2
          go_roundw
          case rel => exact ⟨i + 1, by go_num, by omega, by rw [HS.out, ← HK.out]; rfl, by first | rfl | trivial⟩
          case measure => simp [intOf]; omega
        · rw [if_neg (fun e => q2 e.2)] at HS
          subst q1
          go_wp2
          go_roundw
          case rel => exact ⟨i + 1, by go_num, by omega, by rw [HS.out, ← HK.out]; rfl, by first | rfl | trivial⟩
          case measure => simp [intOf]; omega
      · rw [if_neg (fun e => q1 e.1)] at HS
        go_wp2
        go_roundw
        case rel => exact ⟨i + 1, by go_num, by omega, by rw [HS.out, ← HK.out]; rfl, by first | rfl | trivial⟩
        case measure => simp [intOf]; omega
    · obtain rfl : i = m := by omega
      have HF : Hid (Q.cnt (ls.take i) a b = Q.cnt ls a b) := congrArg (fun z => Q.cnt z a b) (List.take_of_length_le (Nat.le_of_eq HM.out.symm))
      clear hlt him
      go_wp2
      go_ret
      exact ⟨by rw [← HF.out]; rfl, HB.out⟩

end
end Go.Proofs.Ytpopanfefpehnaa
