/-
  The document's Same: of lists of entries, of what is saved.
-/
import Derived.Test.YtagcnhkodmjkgaaWlSaved
namespace Go.Proofs.Ytagcnhkodmjkgaa
open Go.RowKit

/-- The slice value v reads as a list of entries, wherever it lies. -/
def EntR (w : World) (v : Value) (l : List (Int × ByteArray)) : Prop :=
  ∃ p c, v = .slice p l.length c ∧ l.length ≤ c ∧ c ≤ maxLen ∧ (l = [] ∨ ∃ g off, p = some ⟨g, off, none⟩ ∧ ∀ i e, l[i]? = some e → w.cell? ⟨g, off + i * 2, none⟩ = some (.int .i64 e.1) ∧ w.cell? ⟨g, off + i * 2 + 1, none⟩ = some (.string e.2))

/-- The block that such a list lies in, if it has any entry. -/
def readBlk : Value → Option Nat
  | .slice (some a) (_ + 1) _ => some a.block
  | _ => none

theorem EntV.read {w : World} {v : Value} {l : List (Int × ByteArray)} (h : EntV w v l) : EntR w v l := by
  obtain ⟨p, c, hv, h1, h2⟩ := RowV.form h
  refine ⟨p, c, hv, h1, h2, ?_⟩
  by_cases e : l = []
  · exact .inl e
  · have hl : 0 < l.length := List.length_pos_iff.2 e
    obtain ⟨g, c', hv', _, _, _, hc⟩ := RowV.cells h hl
    rw [hv] at hv'
    injection hv' with q
    refine .inr ⟨g, 0, q, fun i x hx => ?_⟩
    have hi := (List.getElem?_eq_some_iff.1 hx).1
    obtain ⟨e1, e2⟩ := entCells_at l i x hx
    rw [Nat.zero_add, hc _ (by omega), hc _ (by omega)]
    exact ⟨e1, e2⟩

theorem EntR.carry {w w' : World} {v : Value} {l : List (Int × ByteArray)} (h : EntR w v l) (hk : ∀ k, readBlk v = some k → w'.heap[k]? = w.heap[k]?) : EntR w' v l := by
  obtain ⟨p, c, hv, h1, h2, h3 | ⟨g, off, hp, h4⟩⟩ := h
  · exact ⟨p, c, hv, h1, h2, .inl h3⟩
  · by_cases e : l = []
    · exact ⟨p, c, hv, h1, h2, .inl e⟩
    · have hl : 0 < l.length := List.length_pos_iff.2 e
      obtain ⟨n, hn⟩ : ∃ n, l.length = n + 1 := ⟨l.length - 1, by omega⟩
      have hb := hk g (by rw [hv, hp, hn]; rfl)
      refine ⟨p, c, hv, h1, h2, .inr ⟨g, off, hp, fun i x hx => ?_⟩⟩
      rw [World.cell?_of_block (a := ⟨g, off + i * 2, none⟩) hb, World.cell?_of_block (a := ⟨g, off + i * 2 + 1, none⟩) hb]
      exact h4 i x hx

theorem EntR.lt {w : World} {v : Value} {l : List (Int × ByteArray)} (h : EntR w v l) {k : Nat} (hk : readBlk v = some k) : k < w.heap.size := by
  obtain ⟨p, c, hv, h1, h2, h3 | ⟨g, off, hp, h4⟩⟩ := h
  · rw [hv, h3] at hk
    cases p <;> simp [readBlk] at hk
  · rw [hv, hp] at hk
    cases l with
    | nil => simp [readBlk] at hk
    | cons e l =>
      simp [readBlk] at hk
      subst hk
      have := (h4 0 e rfl).1
      exact World.block_lt_of_cell? w ⟨g, off + 0 * 2, none⟩ this

theorem EntR.below {w w' : World} {v : Value} {l : List (Int × ByteArray)} (h : EntR w v l) (hb : Below w.heap.size w w') : EntR w' v l := h.carry (fun k hk => hb.block k (h.lt hk))

theorem toList_inj {a b : ByteArray} : (a.toList == b.toList) = decide (a = b) := by
  by_cases h : a = b
  · subst h; simp
  · rw [decide_eq_false h]
    rw [beq_eq_false_iff_ne]
    intro e
    rw [ByteArray.toList_eq, ByteArray.toList_eq] at e
    exact h (F.ext e)

set_option maxHeartbeats 800000 in
set_option maxRecDepth 20000 in
theorem entSame_c {w : World} {v1 v2 : Value} {l1 l2 : List (Int × ByteArray)} (h1 : EntR w v1 l1) (h2 : EntR w v2 l2) :
    Calls Try.prog 76 #[v1, v2] w fun e w' => e = .returned (.bool (decide (l1 = l2))) ∧ ∃ m, w' = w.drewN m := by
  obtain ⟨p1, c1, rfl, a1, b1, k1⟩ := h1
  obtain ⟨p2, c2, rfl, a2, b2, k2⟩ := h2
  obtain ⟨n1, hn1⟩ : ∃ n, n = l1.length := ⟨_, rfl⟩
  obtain ⟨n2, hn2⟩ : ∃ n, n = l2.length := ⟨_, rfl⟩
  rw [← hn1] at a1 ⊢
  rw [← hn2] at a2 ⊢
  by_cases hne : n1 = n2
  · subst hne
    have t0 : ((n1 : Int) != (n1 : Int)) = false := by simp
    have HL : Hid (n1 = l1.length ∧ n1 = l2.length) := ⟨hn1, hn2⟩
    have HK1 : Hid _ := k1
    have HK2 : Hid _ := k2
    have hb : n1 < 9223372036854775808 := by unfold maxLen at b1; omega
    clear hn1 hn2 k1 k2 b1 b2
    go_enter Try.func76, Try.ntmps76
    go_wp2
    go_loopw [5] (fun x wr => ∃ (k m : Nat), x = .int .i64 (k : Int) ∧ k ≤ n1 ∧ wr = w.drewN m ∧ Hid (l1.take k = l2.take k)) (fun x _ => n1 - (intOf x).toNat)
    case atStart => exact ⟨0, 0, rfl, Nat.zero_le _, rfl, by show _ = _; rw [List.take_zero, List.take_zero]⟩
    case round =>
      obtain ⟨k, m, rfl, hk, rfl, HE⟩ := hrel
      by_cases hlt : k < n1
      · obtain ⟨e1, x1⟩ : ∃ e, l1[k]? = some e := ⟨_, List.getElem?_eq_getElem (by have := HL.out.1; omega)⟩
        obtain ⟨e2, x2⟩ : ∃ e, l2[k]? = some e := ⟨_, List.getElem?_eq_getElem (by have := HL.out.2; omega)⟩
        obtain ⟨g1, o1, rfl, q1⟩ : ∃ g off, p1 = some ⟨g, off, none⟩ ∧ ∀ i e, l1[i]? = some e → w.cell? ⟨g, off + i * 2, none⟩ = some (.int .i64 e.1) ∧ w.cell? ⟨g, off + i * 2 + 1, none⟩ = some (.string e.2) := by
          rcases HK1.out with q | ⟨g, off, q1, q2⟩
          · rw [q] at x1; simp at x1
          · exact ⟨g, off, q1, q2⟩
        obtain ⟨g2, o2, rfl, q2⟩ : ∃ g off, p2 = some ⟨g, off, none⟩ ∧ ∀ i e, l2[i]? = some e → w.cell? ⟨g, off + i * 2, none⟩ = some (.int .i64 e.1) ∧ w.cell? ⟨g, off + i * 2 + 1, none⟩ = some (.string e.2) := by
          rcases HK2.out with q | ⟨g, off, q1, q2⟩
          · rw [q] at x2; simp at x2
          · exact ⟨g, off, q1, q2⟩
        obtain ⟨y1, y2⟩ := q1 k e1 x1
        obtain ⟨y3, y4⟩ := q2 k e2 x2
        have HX : Hid (l1[k]? = some e1 ∧ l2[k]? = some e2) := ⟨x1, x2⟩
        obtain ⟨t1, d1⟩ := e1
        obtain ⟨t2, d2⟩ := e2
        dsimp only at y1 y2 y3 y4
        clear q1 q2 x1 x2
        have hk0 : (0 : Int) ≤ (k : Int) := by omega
        have hkn : (k : Int) < (n1 : Int) := by omega
        by_cases hs : t1 = t2 ∧ d1 = d2
        · obtain ⟨rfl, rfl⟩ := hs
          go_wp2
          go_quiet (fail)
          go_wp2
          go_roundw
          case rel =>
            refine ⟨k + 1, _, by go_num, by omega, rfl, ?_⟩
            show _ = _
            rw [List.take_add_one, List.take_add_one, HX.out.1, HX.out.2, HE.out]
          case measure => simp [intOf]; omega
        · have HD : Hid (decide (l1 = l2) = false) := by
            refine decide_eq_false (fun e => hs ?_)
            have h1 := HX.out.1
            rw [e, HX.out.2] at h1
            injection h1 with h1
            injection h1 with q1 q2
            exact ⟨q1.symm, q2.symm⟩
          by_cases ht : t1 = t2
          · subst ht
            have t3 : (d1.toList == d2.toList) = false := by rw [toList_inj]; exact decide_eq_false (fun e => hs ⟨rfl, e⟩)
            have t4 : (t1 == t1) = true := by simp
            clear hs
            go_wp2
            go_quiet (fail)
            go_wp2
            go_ret
            exact ⟨by rw [HD.out]; rfl, m + nq, by rw [World.drewN_drewN]⟩
          · have t4 : (t1 == t2) = false := by simpa using ht
            clear hs
            go_wp2
            go_quiet (fail)
            go_wp2
            go_ret
            exact ⟨by rw [HD.out]; rfl, m + nq, by rw [World.drewN_drewN]⟩
      · obtain rfl : k = n1 := by omega
        have e : l1 = l2 := by
          have := HE.out
          rw [List.take_of_length_le (by have := HL.out.1; omega), List.take_of_length_le (by have := HL.out.2; omega)] at this
          exact this
        have HD : Hid (decide (l1 = l2) = true) := decide_eq_true e
        clear e
        go_wp2
        go_ret
        exact ⟨by rw [HD.out]; rfl, _, rfl⟩
  · have t0 : ((n1 : Int) != (n2 : Int)) = true := by simp; omega
    have HD : Hid (decide (l1 = l2) = false) := decide_eq_false (fun e => hne (by rw [hn1, hn2, e]))
    rw [HD.out]
    clear hn1 hn2 k1 k2 b1 b2 HD
    go_enter Try.func76, Try.ntmps76
    go_wp2
    go_ret
    exact ⟨rfl, 0, rfl⟩

/-- Is what is saved the same? -/
def svSame (a b : W.Sv) : Bool := (a.term == b.term) && (a.vote == b.vote) && (a.base == b.base) && (a.bterm == b.bterm) && (a.data.toList == b.data.toList) && decide (a.ents = b.ents)
theorem svSame_iff {a b : W.Sv} : svSame a b = true ↔ a = b := by
  obtain ⟨t1, v1, b1, bt1, d1, e1⟩ := a
  obtain ⟨t2, v2, b2, bt2, d2, e2⟩ := b
  unfold svSame
  rw [toList_inj]
  simp only [Bool.and_eq_true, beq_iff_eq, decide_eq_true_eq, W.Sv.mk.injEq, and_assoc]

set_option maxHeartbeats 800000 in
set_option maxRecDepth 20000 in
theorem Same_c {w : World} {a b : W.Sv} {v1 v2 : Value} (h1 : EntR w v1 a.ents) (h2 : EntR w v2 b.ents) :
    Calls Try.prog 42 #[savV a v1, savV b v2] w fun e w' => e = .returned (.bool (svSame a b)) ∧ Below w.heap.size w w' := by
  have HS : Hid (∀ u, Below w.heap.size w u → Calls Try.prog 76 #[v1, v2] u fun e w' => e = .returned (.bool (decide (a.ents = b.ents))) ∧ Below u.heap.size u w') := by
    intro u hu
    refine (entSame_c (h1.below hu) (h2.below hu)).mono ?_
    rintro e w' ⟨rfl, m, hw⟩
    subst hw
    exact ⟨rfl, below_drewN u m⟩
  obtain ⟨p1, c1, e1, _⟩ := h1
  obtain ⟨p2, c2, e2, _⟩ := h2
  unfold savV svSame
  rw [e1, e2] at HS ⊢
  obtain ⟨bb, hbb⟩ : ∃ bb, bb = decide (a.ents = b.ents) := ⟨_, rfl⟩
  rw [← hbb] at HS ⊢
  obtain ⟨n1, hn1⟩ : ∃ n, n = a.ents.length := ⟨_, rfl⟩
  obtain ⟨n2, hn2⟩ : ∃ n, n = b.ents.length := ⟨_, rfl⟩
  rw [← hn1, ← hn2] at HS ⊢
  obtain ⟨t1, x1, b1, y1, d1, l1⟩ := a
  obtain ⟨t2, x2, b2, y2, d2, l2⟩ := b
  dsimp only
  clear hbb hn1 hn2 e1 e2
  obtain ⟨q1, hq1⟩ : ∃ q, (t1 == t2) = q := ⟨_, rfl⟩
  obtain ⟨q2, hq2⟩ : ∃ q, (x1 == x2) = q := ⟨_, rfl⟩
  obtain ⟨q3, hq3⟩ : ∃ q, (b1 == b2) = q := ⟨_, rfl⟩
  obtain ⟨q4, hq4⟩ : ∃ q, (y1 == y2) = q := ⟨_, rfl⟩
  obtain ⟨q5, hq5⟩ : ∃ q, (d1.toList == d2.toList) = q := ⟨_, rfl⟩
  rw [hq1, hq2, hq3, hq4, hq5]
  have hB : Hid (∀ o o', Below w.heap.size w ((w.alloc o).alloc o')) := fun o o' => (below_alloc _ _).trans ((below_alloc _ _).mono (by simp))
  cases q1
  case false =>
    go_enter Try.func42, Try.ntmps42
    go_wp2
    go_ret
    exact ⟨rfl, hB.out _ _⟩
  cases q2
  case false =>
    go_enter Try.func42, Try.ntmps42
    go_wp2
    go_ret
    exact ⟨rfl, hB.out _ _⟩
  cases q3
  case false =>
    go_enter Try.func42, Try.ntmps42
    go_wp2
    go_ret
    exact ⟨rfl, hB.out _ _⟩
  cases q4
  case false =>
    go_enter Try.func42, Try.ntmps42
    go_wp2
    go_ret
    exact ⟨rfl, hB.out _ _⟩
  cases q5
  case false =>
    go_enter Try.func42, Try.ntmps42
    go_wp2
    go_ret
    exact ⟨rfl, hB.out _ _⟩
  go_enter Try.func42, Try.ntmps42
  go_wp2_with fail
  refine Calls.mono (HS.out _ (hB.out _ _)) ?_
  rintro e w3 ⟨rfl, hb⟩
  have HB3 : Hid _ := (hB.out _ _).trans (hb.mono (hB.out _ _).size)
  clear hb
  go_wp2
  go_ret
  exact ⟨rfl, HB3.out⟩

end Go.Proofs.Ytagcnhkodmjkgaa
