/-
  Posts as they are kept.
-/
import Derived.Test.YtepbmfjimppgcaaSeFind
namespace Go.Proofs.Ytepbmfjimppgcaa
open Go.RowKit

/-- A cell is written with what it holds. -/
theorem RowC.again {w : World} {size n : Nat} {v x : Value} {xs : List Value} (h : RowC w size v n xs) (b o : Nat) (hx : w.cell? ⟨b, o, none⟩ = some x) : RowC (w.setCell ⟨b, o, none⟩ x) size v n xs := by
  have hc : ∀ p : Addr, (w.setCell ⟨b, o, none⟩ x).cell? p = w.cell? p := fun p => by
    by_cases e : p = ⟨b, o, none⟩
    · rw [e, hx]
      exact World.cell?_setCell_same _ _ _ (by rw [hx])
    · exact World.cell?_setCell_other _ _ _ _ (fun q => e q.symm)
  obtain ⟨hl, p0, c0, hv, hn, hc0, hd⟩ := h
  refine ⟨hl, p0, c0, hv, hn, hc0, ?_⟩
  rcases hd with hd | ⟨g, off, hp, hR, hC⟩
  · exact .inl hd
  · refine .inr ⟨g, off, hp, fun j hj => ?_, fun j y hy => ?_⟩
    · rw [hc, World.frozen?_setCell]
      exact hR j hj
    · rw [hc]
      exact hC j y hy


theorem RowC.at {w : World} {size n g off c : Nat} {xs : List Value} (h : RowC w size (.slice (some ⟨g, off, none⟩) n (c + 1)) n xs) : (∀ j x, xs[j]? = some x → w.cell? ⟨g, off + j, none⟩ = some x) ∧ RoomAt w g off ((c + 1) * size) ∧ n ≤ c + 1 := by
  obtain ⟨hl, p0, c0, hv, hn, hc, hd⟩ := h
  injection hv with e1 e2 e3
  subst e1 e3
  rcases hd with hd | ⟨g', off', hp, hR, hC⟩
  · omega
  · injection hp with hp
    injection hp with p1 p2 p3
    subst p1 p2
    exact ⟨hC, hR, hn⟩

/-- What the loop holds: a row of posts of its own. -/
structure Kp (w X : World) (g off n c : Nat) (xs : List Value) : Prop where
  old : Below w.heap.size w X
  row : RowC X 2 (.slice (some ⟨g, off, none⟩) n (c + 1)) n xs
  new : w.heap.size ≤ g

set_option maxHeartbeats 2000000 in
set_option maxRecDepth 20000 in
theorem keptPosts_c {w : World} {v : Value} {ps : List Mo.Po} (h : PoR w v ps) (hn : ps.length ≤ 64) (hsz : ∀ p ∈ ps, p.user.size ≤ 140737488351232 ∧ p.text.size ≤ 140737488351232) :
    Calls Try.prog 59 #[v] w (CloneOut w ps.length (poCells ps)) := by
  have HC : Hid _ := PCloneR_c h (by omega)
  obtain ⟨p0, c0, hv, _⟩ := h.form
  subst hv
  obtain ⟨n, hnn⟩ : ∃ n, n = ps.length := ⟨_, rfl⟩
  have hat : ∀ i, i < n → ∃ us tx, us.size ≤ 140737488351232 ∧ tx.size ≤ 140737488351232 ∧ (poCells ps)[i * 2]? = some (.string us) ∧ (poCells ps)[i * 2 + 1]? = some (.string tx) := fun i hi => by
    have hi' : i < ps.length := by omega
    have := poCells_at ps i ps[i] (List.getElem?_eq_getElem hi')
    have hs := hsz ps[i] (List.getElem_mem hi')
    exact ⟨_, _, hs.1, hs.2, this.1, this.2⟩
  rw [← hnn] at HC hn ⊢
  generalize poCells ps = xs at HC hat ⊢
  have HQ : Hid (∀ v' X, RowC X 2 v' n xs → Below w.heap.size w X → (∀ k, cBlk v' = some k → w.heap.size ≤ k) → CloneOut w n xs (.returned v') X) := fun v' X h1 h2 h3 => ⟨v', rfl, h1, h2, h3⟩
  generalize CloneOut w n xs = Q at HQ ⊢
  clear h hsz hnn
  by_cases h0 : n = 0
  · subst h0
    clear hat hn
    go_enter Try.func59, Try.ntmps59
    go_wp2_with fail
    refine Calls.mono HC.out ?_
    rintro e w1 ⟨pv, rfl, hrow, hb, hfr⟩
    obtain ⟨p1, c1, hv1, _⟩ := hrow.form
    subst hv1
    have HF : Hid (Q (.returned (.slice p1 0 c1)) w1) := HQ.out _ _ hrow hb hfr
    clear hrow hb hfr
    go_wp2
    go_loop [10] (fun x => x = .int .i64 0) (fun _ => 0)
    case atStart => rfl
    case round =>
      subst hrel
      go_wp2
      exact HF.out
  · go_enter Try.func59, Try.ntmps59
    go_wp2_with fail
    refine Calls.mono HC.out ?_
    rintro e w1 ⟨pv, rfl, hrow, hb, hfr⟩
    obtain ⟨g, off, c, hv1, _⟩ := hrow.cells (by omega)
    subst hv1
    have HK0 : Hid (Kp w w1 g off n c xs) := ⟨hb, hrow, hfr g rfl⟩
    clear hrow hb hfr HC
    go_wp2
    go_loopw [10] (fun x wr => ∃ i : Nat, x = .int .i64 (i : Int) ∧ i ≤ n ∧ Hid (Kp w wr g off n c xs)) (fun x _ => n - (intOf x).toNat)
    case atStart => exact ⟨0, rfl, by omega, HK0⟩
    case round =>
      obtain ⟨i, rfl, hi, HK⟩ := hrel
      by_cases hlt : i < n
      · obtain ⟨us, tx, hus, htx, hc0, hc1⟩ := hat i hlt
        have hrc := HK.out.row.at
        have k0 : wr.cell? ⟨g, off + i * 2, none⟩ = some (.string us) := hrc.1 _ _ hc0
        have k1 : wr.cell? ⟨g, off + i * 2 + 1, none⟩ = some (.string tx) := by rw [Nat.add_assoc]; exact hrc.1 _ _ hc1
        have hgl : g < wr.heap.size := World.block_lt_of_cell? _ _ k0
        have hfz : wr.frozen? ⟨g, off + i * 2, none⟩ = false ∧ wr.frozen? ⟨g, off + i * 2 + 1, none⟩ = false := ⟨(hrc.2.1 (i * 2) (by have := hrc.2.2; omega)).2, by rw [Nat.add_assoc]; exact (hrc.2.1 (i * 2 + 1) (by have := hrc.2.2; omega)).2⟩
        obtain ⟨w2, hw2⟩ : ∃ w2, w2 = wr.alloc (.cells #[.string us, .string tx] 108) := ⟨_, rfl⟩
        obtain ⟨b5, hb5⟩ : ∃ b5, b5 = wr.heap.size := ⟨_, rfl⟩
        have hB2 : Below wr.heap.size wr w2 := by rw [hw2]; exact below_alloc _ _
        have hs2 : w2.heap.size = wr.heap.size + 1 := by rw [hw2]; simp
        have hc2 : ∀ j, w2.cell? ⟨b5, j, none⟩ = (#[.string us, .string tx] : Array Value)[j]? := fun j => by
          rw [hw2, hb5]
          exact World.cell?_alloc_mark wr _ _ _ j
        have HS : Hid (∀ X, Below w2.heap.size w2 X → X.cell? ⟨b5, 0, none⟩ = some (.string us) ∧ X.cell? ⟨b5, 1, none⟩ = some (.string tx)) := fun X hX => by
          rw [hX.cell (p := ⟨b5, 0, none⟩) (by show b5 < _; omega), hX.cell (p := ⟨b5, 1, none⟩) (by show b5 < _; omega)]
          exact ⟨hc2 0, hc2 1⟩
        have HS2 : Hid (∀ X, Below w2.heap.size w2 X → ((X.setCell ⟨g, off + i * 2, none⟩ (.string us)).setCell ⟨g, off + i * 2 + 1, none⟩ (.string tx)).cell? ⟨b5, 0, none⟩ = some (.string us) ∧ ((X.setCell ⟨g, off + i * 2, none⟩ (.string us)).setCell ⟨g, off + i * 2 + 1, none⟩ (.string tx)).cell? ⟨b5, 1, none⟩ = some (.string tx)) := fun X hX => by
          have ne : ∀ j, (⟨g, j, none⟩ : Addr).block ≠ b5 := fun j => by show g ≠ b5; omega
          rw [World.cell?_setCell_far _ _ ⟨b5, 0, none⟩ _ (ne _), World.cell?_setCell_far _ _ ⟨b5, 0, none⟩ _ (ne _), World.cell?_setCell_far _ _ ⟨b5, 1, none⟩ _ (ne _), World.cell?_setCell_far _ _ ⟨b5, 1, none⟩ _ (ne _)]
          exact HS.out X hX
        have HG : Hid (∀ X, Below w2.heap.size w2 X → X.cell? ⟨g, off + i * 2, none⟩ = some (.string us) ∧ X.cell? ⟨g, off + i * 2 + 1, none⟩ = some (.string tx) ∧ X.frozen? ⟨g, off + i * 2, none⟩ = false ∧ X.frozen? ⟨g, off + i * 2 + 1, none⟩ = false) := fun X hX => by
          have hX' := hB2.trans (hX.mono hB2.size)
          rw [hX'.cell (p := ⟨g, off + i * 2, none⟩) hgl, hX'.cell (p := ⟨g, off + i * 2 + 1, none⟩) hgl, hX'.frozen (p := ⟨g, off + i * 2, none⟩) hgl, hX'.frozen (p := ⟨g, off + i * 2 + 1, none⟩) hgl]
          exact ⟨k0, k1, hfz.1, hfz.2⟩
        have HCu : Hid (∀ X, Below w2.heap.size w2 X → Calls Try.prog 39 #[.string us] X fun e w' => e = .returned (.string us) ∧ Below w2.heap.size w2 w') := fun X hX => by
          refine (Clone_any us X hus).mono ?_
          rintro e w' ⟨rfl, hb⟩
          exact ⟨rfl, hX.trans (hb.mono hX.size)⟩
        have HCt : Hid (∀ X, Below w2.heap.size w2 X → Calls Try.prog 39 #[.string tx] X fun e w' => e = .returned (.string tx) ∧ Below w2.heap.size w2 w') := fun X hX => by
          refine (Clone_any tx X htx).mono ?_
          rintro e w' ⟨rfl, hb⟩
          exact ⟨rfl, hX.trans (hb.mono hX.size)⟩
        have HN : Hid (∀ X, Below w2.heap.size w2 X → Kp w ((X.setCell ⟨g, off + i * 2, none⟩ (.string us)).setCell ⟨g, off + i * 2 + 1, none⟩ (.string tx)) g off n c xs) := fun X hX => by
          have hX' := hB2.trans (hX.mono hB2.size)
          obtain ⟨q0, q1, _, _⟩ := HG.out X hX
          have hr0 : RowC X 2 (.slice (some ⟨g, off, none⟩) n (c + 1)) n xs := HK.out.row.carry (fun k hk => hX'.block k (HK.out.row.lt (by omega) hk))
          have hold := HK.out.old
          refine ⟨((hold.trans (hX'.mono hold.size)).setCell (p := ⟨g, off + i * 2, none⟩) HK.out.new _).setCell (p := ⟨g, off + i * 2 + 1, none⟩) HK.out.new _, (hr0.again _ _ q0).again _ _ ?_, HK.out.new⟩
          rw [World.cell?_setCell_other _ _ _ _ (by intro e; injection e with _ e; omega)]
          exact q1
        have hd : Below w2.heap.size w2 w2.drew := (Below.refl _ _).drew
        have hi0 : (0 : Int) ≤ (i : Int) := by omega
        have hi1 : (i : Int) < (n : Int) := by omega
        have hin : i < n := hlt
        clear hrc hgl hfz hB2 hs2 hc2 hc0 hc1 hus htx hlt hat HQ
        go_wp2
        rw [← hw2, ← hb5]
        clear hw2 hb5 k0 k1
        go_region_held (fun X => X.cell? ⟨b5, 0, none⟩ = some (.string us) ∧ X.cell? ⟨b5, 1, none⟩ = some (.string tx))
          (first | exact HS.out _ (by assumption) | exact HS2.out _ (by assumption))
          (first | (go_at_call_of 39 (Value.string us); refine (HCu.out _ ?_).mono ?_; assumption; rintro e w6 ⟨rfl, hg6⟩; obtain ⟨z0, z1, z2, z3⟩ := HG.out _ hg6) | (go_at_call_of 39 (Value.string tx); refine (HCt.out _ ?_).mono ?_; assumption; rintro e w6 ⟨rfl, hg6⟩; obtain ⟨z0, z1, z2, z3⟩ := HG.out _ hg6))
        have HN6 : Hid (Kp w ((w6.setCell ⟨g, off + i * 2, none⟩ (.string us)).setCell ⟨g, off + i * 2 + 1, none⟩ (.string tx)) g off n c xs) := HN.out _ hg6
        go_wp2
        go_roundw
        case rel => exact ⟨i + 1, by go_num, by omega, HN6⟩
        case measure => simp [intOf]; omega
      · obtain rfl : i = n := by omega
        have HF : Hid (Q (.returned (.slice (some ⟨g, off, none⟩) i (c + 1))) wr) := HQ.out _ _ HK.out.row HK.out.old (fun k hk => by
          have : g = k := by simpa [cBlk] using hk
          have := HK.out.new
          omega)
        go_wp2
        exact HF.out

end Go.Proofs.Ytepbmfjimppgcaa
