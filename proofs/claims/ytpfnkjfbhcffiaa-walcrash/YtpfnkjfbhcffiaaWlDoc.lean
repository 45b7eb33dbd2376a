/-
  The document's Same: of lists of entries, of what is saved. The document's own folding of records: index, May, New, last, end. The document's Fold. The document's Fold: an entry that fits. The document's base. The law's told: does a log tell what all groups' records make? The document's All, of no records. One group's place among what all groups' records make is set anew.
-/
import Derived.Test.YtpfnkjfbhcffiaaWlOpen
import Derived.Laws.ResultCell
import Derived.Deep.RegionHeld
import Derived.BigQuiet
import Derived.Test.YtpfnkjfbhcffiaaWlDo
namespace Go.Proofs.Ytpfnkjfbhcffiaa
open Go.RowKit

/-- The slice value v reads as a list of entries, wherever it lies. -/
def EntR (w : World) (v : Value) (l : List (Int × ByteArray)) : Prop :=
  ∃ p c, v = .slice p l.length c ∧ l.length ≤ c ∧ c ≤ maxLen ∧ (l = [] ∨ ∃ g off, p = some ⟨g, off, none⟩ ∧ ∀ i e, l[i]? = some e → w.cell? ⟨g, off + i * 2, none⟩ = some (.int .i64 e.1) ∧ w.cell? ⟨g, off + i * 2 + 1, none⟩ = some (.string e.2))

/-- The block that such a list lies in, if it has any entry. -/
def readBlk : Value → Option Nat
  | .slice (some a) (_ + 1) _ => some a.block
  | _ => none

theorem EntV.read {w : World} {v : Value} {l : List (Int × ByteArray)} (h : EntV w v l) : EntR w v l := by
  obtain ⟨p, c, hv, h1, h2⟩ := RowV.form h
  refine ⟨p, c, hv, h1, h2, ?_⟩
  by_cases e : l = []
  · exact .inl e
  · have hl : 0 < l.length := List.length_pos_iff.2 e
    obtain ⟨g, c', hv', _, _, _, hc⟩ := RowV.cells h hl
    rw [hv] at hv'
    injection hv' with q
    refine .inr ⟨g, 0, q, fun i x hx => ?_⟩
    have hi := (List.getElem?_eq_some_iff.1 hx).1
    obtain ⟨e1, e2⟩ := entCells_at l i x hx
    rw [Nat.zero_add, hc _ (by omega), hc _ (by omega)]
    exact ⟨e1, e2⟩

theorem EntR.carry {w w' : World} {v : Value} {l : List (Int × ByteArray)} (h : EntR w v l) (hk : ∀ k, readBlk v = some k → w'.heap[k]? = w.heap[k]?) : EntR w' v l := by
  obtain ⟨p, c, hv, h1, h2, h3 | ⟨g, off, hp, h4⟩⟩ := h
  · exact ⟨p, c, hv, h1, h2, .inl h3⟩
  · by_cases e : l = []
    · exact ⟨p, c, hv, h1, h2, .inl e⟩
    · have hl : 0 < l.length := List.length_pos_iff.2 e
      obtain ⟨n, hn⟩ : ∃ n, l.length = n + 1 := ⟨l.length - 1, by omega⟩
      have hb := hk g (by rw [hv, hp, hn]; rfl)
      refine ⟨p, c, hv, h1, h2, .inr ⟨g, off, hp, fun i x hx => ?_⟩⟩
      rw [World.cell?_of_block (a := ⟨g, off + i * 2, none⟩) hb, World.cell?_of_block (a := ⟨g, off + i * 2 + 1, none⟩) hb]
      exact h4 i x hx

theorem EntR.lt {w : World} {v : Value} {l : List (Int × ByteArray)} (h : EntR w v l) {k : Nat} (hk : readBlk v = some k) : k < w.heap.size := by
  obtain ⟨p, c, hv, h1, h2, h3 | ⟨g, off, hp, h4⟩⟩ := h
  · rw [hv, h3] at hk
    cases p <;> simp [readBlk] at hk
  · rw [hv, hp] at hk
    cases l with
    | nil => simp [readBlk] at hk
    | cons e l =>
      simp [readBlk] at hk
      subst hk
      have := (h4 0 e rfl).1
      exact World.block_lt_of_cell? w ⟨g, off + 0 * 2, none⟩ this

theorem EntR.below {w w' : World} {v : Value} {l : List (Int × ByteArray)} (h : EntR w v l) (hb : Below w.heap.size w w') : EntR w' v l := h.carry (fun k hk => hb.block k (h.lt hk))

theorem toList_inj {a b : ByteArray} : (a.toList == b.toList) = decide (a = b) := by
  by_cases h : a = b
  · subst h; simp
  · rw [decide_eq_false h]
    rw [beq_eq_false_iff_ne]
    intro e
    rw [ByteArray.toList_eq, ByteArray.toList_eq] at e
    exact h (F.ext e)

set_option maxHeartbeats 800000 in
set_option maxRecDepth 20000 in
theorem entSame_c {w : World} {v1 v2 : Value} {l1 l2 : List (Int × ByteArray)} (h1 : EntR w v1 l1) (h2 : EntR w v2 l2) :
    Calls Try.prog 74 #[v1, v2] w fun e w' => e = .returned (.bool (decide (l1 = l2))) ∧ ∃ m, w' = w.drewN m := by
  obtain ⟨p1, c1, rfl, a1, b1, k1⟩ := h1
  obtain ⟨p2, c2, rfl, a2, b2, k2⟩ := h2
  obtain ⟨n1, hn1⟩ : ∃ n, n = l1.length := ⟨_, rfl⟩
  obtain ⟨n2, hn2⟩ : ∃ n, n = l2.length := ⟨_, rfl⟩
  rw [← hn1] at a1 ⊢
  rw [← hn2] at a2 ⊢
  by_cases hne : n1 = n2
  · subst hne
    have t0 : ((n1 : Int) != (n1 : Int)) = false := by simp
    have HL : Hid (n1 = l1.length ∧ n1 = l2.length) := ⟨hn1, hn2⟩
    have HK1 : Hid _ := k1
    have HK2 : Hid _ := k2
    have hb : n1 < 9223372036854775808 := by unfold maxLen at b1; omega
    clear hn1 hn2 k1 k2 b1 b2
    go_enter Try.func74, Try.ntmps74
    go_wp2
    go_loopw [5] (fun x wr => ∃ (k m : Nat), x = .int .i64 (k : Int) ∧ k ≤ n1 ∧ wr = w.drewN m ∧ Hid (l1.take k = l2.take k)) (fun x _ => n1 - (intOf x).toNat)
    case atStart => exact ⟨0, 0, rfl, Nat.zero_le _, rfl, by show _ = _; rw [List.take_zero, List.take_zero]⟩
    case round =>
      obtain ⟨k, m, rfl, hk, rfl, HE⟩ := hrel
      by_cases hlt : k < n1
      · obtain ⟨e1, x1⟩ : ∃ e, l1[k]? = some e := ⟨_, List.getElem?_eq_getElem (by have := HL.out.1; omega)⟩
        obtain ⟨e2, x2⟩ : ∃ e, l2[k]? = some e := ⟨_, List.getElem?_eq_getElem (by have := HL.out.2; omega)⟩
        obtain ⟨g1, o1, rfl, q1⟩ : ∃ g off, p1 = some ⟨g, off, none⟩ ∧ ∀ i e, l1[i]? = some e → w.cell? ⟨g, off + i * 2, none⟩ = some (.int .i64 e.1) ∧ w.cell? ⟨g, off + i * 2 + 1, none⟩ = some (.string e.2) := by
          rcases HK1.out with q | ⟨g, off, q1, q2⟩
          · rw [q] at x1; simp at x1
          · exact ⟨g, off, q1, q2⟩
        obtain ⟨g2, o2, rfl, q2⟩ : ∃ g off, p2 = some ⟨g, off, none⟩ ∧ ∀ i e, l2[i]? = some e → w.cell? ⟨g, off + i * 2, none⟩ = some (.int .i64 e.1) ∧ w.cell? ⟨g, off + i * 2 + 1, none⟩ = some (.string e.2) := by
          rcases HK2.out with q | ⟨g, off, q1, q2⟩
          · rw [q] at x2; simp at x2
          · exact ⟨g, off, q1, q2⟩
        obtain ⟨y1, y2⟩ := q1 k e1 x1
        obtain ⟨y3, y4⟩ := q2 k e2 x2
        have HX : Hid (l1[k]? = some e1 ∧ l2[k]? = some e2) := ⟨x1, x2⟩
        obtain ⟨t1, d1⟩ := e1
        obtain ⟨t2, d2⟩ := e2
        dsimp only at y1 y2 y3 y4
        clear q1 q2 x1 x2
        have hk0 : (0 : Int) ≤ (k : Int) := by omega
        have hkn : (k : Int) < (n1 : Int) := by omega
        by_cases hs : t1 = t2 ∧ d1 = d2
        · obtain ⟨rfl, rfl⟩ := hs
          go_wp2
          go_quiet (fail)
          go_wp2
          go_roundw
          case rel =>
            refine ⟨k + 1, _, by go_num, by omega, rfl, ?_⟩
            show _ = _
            rw [List.take_add_one, List.take_add_one, HX.out.1, HX.out.2, HE.out]
          case measure => simp [intOf]; omega
        · have HD : Hid (decide (l1 = l2) = false) := by
            refine decide_eq_false (fun e => hs ?_)
            have h1 := HX.out.1
            rw [e, HX.out.2] at h1
            injection h1 with h1
            injection h1 with q1 q2
            exact ⟨q1.symm, q2.symm⟩
          by_cases ht : t1 = t2
          · subst ht
            have t3 : (d1.toList == d2.toList) = false := by rw [toList_inj]; exact decide_eq_false (fun e => hs ⟨rfl, e⟩)
            have t4 : (t1 == t1) = true := by simp
            clear hs
            go_wp2
            go_quiet (fail)
            go_wp2
            go_ret
            exact ⟨by rw [HD.out]; rfl, m + nq, by rw [World.drewN_drewN]⟩
          · have t4 : (t1 == t2) = false := by simpa using ht
            clear hs
            go_wp2
            go_quiet (fail)
            go_wp2
            go_ret
            exact ⟨by rw [HD.out]; rfl, m + nq, by rw [World.drewN_drewN]⟩
      · obtain rfl : k = n1 := by omega
        have e : l1 = l2 := by
          have := HE.out
          rw [List.take_of_length_le (by have := HL.out.1; omega), List.take_of_length_le (by have := HL.out.2; omega)] at this
          exact this
        have HD : Hid (decide (l1 = l2) = true) := decide_eq_true e
        clear e
        go_wp2
        go_ret
        exact ⟨by rw [HD.out]; rfl, _, rfl⟩
  · have t0 : ((n1 : Int) != (n2 : Int)) = true := by simp; omega
    have HD : Hid (decide (l1 = l2) = false) := decide_eq_false (fun e => hne (by rw [hn1, hn2, e]))
    rw [HD.out]
    clear hn1 hn2 k1 k2 b1 b2 HD
    go_enter Try.func74, Try.ntmps74
    go_wp2
    go_ret
    exact ⟨rfl, 0, rfl⟩

/-- Is what is saved the same? -/
def svSame (a b : W.Sv) : Bool := (a.term == b.term) && (a.vote == b.vote) && (a.base == b.base) && (a.bterm == b.bterm) && (a.data.toList == b.data.toList) && decide (a.ents = b.ents)
theorem svSame_iff {a b : W.Sv} : svSame a b = true ↔ a = b := by
  obtain ⟨t1, v1, b1, bt1, d1, e1⟩ := a
  obtain ⟨t2, v2, b2, bt2, d2, e2⟩ := b
  unfold svSame
  rw [toList_inj]
  simp only [Bool.and_eq_true, beq_iff_eq, decide_eq_true_eq, W.Sv.mk.injEq, and_assoc]

set_option maxHeartbeats 800000 in
set_option maxRecDepth 20000 in
theorem Same_c {w : World} {a b : W.Sv} {v1 v2 : Value} (h1 : EntR w v1 a.ents) (h2 : EntR w v2 b.ents) :
    Calls Try.prog 40 #[savV a v1, savV b v2] w fun e w' => e = .returned (.bool (svSame a b)) ∧ Below w.heap.size w w' := by
  have HS : Hid (∀ u, Below w.heap.size w u → Calls Try.prog 74 #[v1, v2] u fun e w' => e = .returned (.bool (decide (a.ents = b.ents))) ∧ Below u.heap.size u w') := by
    intro u hu
    refine (entSame_c (h1.below hu) (h2.below hu)).mono ?_
    rintro e w' ⟨rfl, m, hw⟩
    subst hw
    exact ⟨rfl, below_drewN u m⟩
  obtain ⟨p1, c1, e1, _⟩ := h1
  obtain ⟨p2, c2, e2, _⟩ := h2
  unfold savV svSame
  rw [e1, e2] at HS ⊢
  obtain ⟨bb, hbb⟩ : ∃ bb, bb = decide (a.ents = b.ents) := ⟨_, rfl⟩
  rw [← hbb] at HS ⊢
  obtain ⟨n1, hn1⟩ : ∃ n, n = a.ents.length := ⟨_, rfl⟩
  obtain ⟨n2, hn2⟩ : ∃ n, n = b.ents.length := ⟨_, rfl⟩
  rw [← hn1, ← hn2] at HS ⊢
  obtain ⟨t1, x1, b1, y1, d1, l1⟩ := a
  obtain ⟨t2, x2, b2, y2, d2, l2⟩ := b
  dsimp only
  clear hbb hn1 hn2 e1 e2
  obtain ⟨q1, hq1⟩ : ∃ q, (t1 == t2) = q := ⟨_, rfl⟩
  obtain ⟨q2, hq2⟩ : ∃ q, (x1 == x2) = q := ⟨_, rfl⟩
  obtain ⟨q3, hq3⟩ : ∃ q, (b1 == b2) = q := ⟨_, rfl⟩
  obtain ⟨q4, hq4⟩ : ∃ q, (y1 == y2) = q := ⟨_, rfl⟩
  obtain ⟨q5, hq5⟩ : ∃ q, (d1.toList == d2.toList) = q := ⟨_, rfl⟩
  rw [hq1, hq2, hq3, hq4, hq5]
  have hB : Hid (∀ o o', Below w.heap.size w ((w.alloc o).alloc o')) := fun o o' => (below_alloc _ _).trans ((below_alloc _ _).mono (by simp))
  cases q1
  case false =>
    go_enter Try.func40, Try.ntmps40
    go_wp2
    go_ret
    exact ⟨rfl, hB.out _ _⟩
  cases q2
  case false =>
    go_enter Try.func40, Try.ntmps40
    go_wp2
    go_ret
    exact ⟨rfl, hB.out _ _⟩
  cases q3
  case false =>
    go_enter Try.func40, Try.ntmps40
    go_wp2
    go_ret
    exact ⟨rfl, hB.out _ _⟩
  cases q4
  case false =>
    go_enter Try.func40, Try.ntmps40
    go_wp2
    go_ret
    exact ⟨rfl, hB.out _ _⟩
  cases q5
  case false =>
    go_enter Try.func40, Try.ntmps40
    go_wp2
    go_ret
    exact ⟨rfl, hB.out _ _⟩
  go_enter Try.func40, Try.ntmps40
  go_wp2_with fail
  refine Calls.mono (HS.out _ (hB.out _ _)) ?_
  rintro e w3 ⟨rfl, hb⟩
  have HB3 : Hid _ := (hB.out _ _).trans (hb.mono (hB.out _ _).size)
  clear hb
  go_wp2
  go_ret
  exact ⟨rfl, HB3.out⟩

end Go.Proofs.Ytpfnkjfbhcffiaa

namespace Go.Proofs.Ytpfnkjfbhcffiaa
open Go.RowKit

theorem refIndex_c (n l : Int) (w : World) : Calls Try.prog 63 #[.int .i64 n, .int .i64 l] w fun e w' => e = .returned (.bool (decide (l ≤ n) && decide (n ≤ 1099511627776))) ∧ w' = w := by
  obtain ⟨b1, h1⟩ : ∃ b, decide (l ≤ n) = b := ⟨_, rfl⟩
  obtain ⟨b2, h2⟩ : ∃ b, decide (n ≤ 1099511627776) = b := ⟨_, rfl⟩
  rw [h1, h2]
  cases b1
  case false =>
    go_enter Try.func63, Try.ntmps63
    go_wp2
    go_ret
    exact ⟨rfl, rfl⟩
  cases b2
  all_goals
    go_enter Try.func63, Try.ntmps63
    go_wp2
    go_ret
    exact ⟨rfl, rfl⟩

theorem refNew_c (w : World) : Calls Try.prog 26 #[] w fun e w' => e = .returned (savV W.new (.slice none 0 0)) ∧ Below w.heap.size w w' := by
  unfold savV W.new
  dsimp only
  go_enter Try.func26, Try.ntmps26
  go_wp2
  refine bodyPost_ret (v := .agg #[.int .i64 0, .int .i64 (-1), .int .i64 0, .int .i64 0, .string ⟨#[]⟩, .slice none 0 0]) ?qres rfl ?qpost
  case qres => simp [results, Try.results26, go_sem]
  case qpost => exact ⟨rfl, below_alloc _ _⟩

theorem refLast_c {w : World} {s : W.Sv} {v : Value} (h : EntR w v s.ents) (ok : W.Ok s) : Calls Try.prog 34 #[savV s v] w fun e w' => e = .returned (.int .i64 (W.last s)) ∧ Below w.heap.size w w' := by
  obtain ⟨p, c, rfl, h1, h2, h3⟩ := h
  have k1 := ok.base
  have k2 := ok.last
  unfold W.last at k2 ⊢
  unfold savV
  obtain ⟨n, hn⟩ : ∃ n, n = s.ents.length := ⟨_, rfl⟩
  rw [← hn] at k2 ⊢
  obtain ⟨t, x, b, y, d, l⟩ := s
  dsimp only at k1 k2 ⊢
  have hwr : IntKind.i64.wrap (b + (n : Int)) = b + (n : Int) := wraps_i64 _ (by omega) (by rw [pow63]; omega)
  clear h1 h2 h3 ok hn k1 k2
  go_enter Try.func34, Try.ntmps34
  go_wp2
  all_goals (go_ret; exact ⟨by first | rfl | rw [hwr], below_alloc _ _⟩)

theorem refEnd_c {w : World} {s : W.Sv} {v : Value} (h : EntR w v s.ents) : Calls Try.prog 35 #[savV s v] w fun e w' => e = .returned (.int .i64 (W.termAt s (W.last s))) ∧ Below w.heap.size w w' := by
  rw [W.termAt_last]
  obtain ⟨p, c, rfl, h1, h2, h3⟩ := h
  unfold savV
  obtain ⟨t, x, b, y, d, l⟩ := s
  dsimp only at h1 h3 ⊢
  by_cases hl : l = []
  · subst hl
    clear h1 h2 h3
    go_enter Try.func35, Try.ntmps35
    go_wp2
    go_ret
    exact ⟨rfl, below_alloc _ _⟩
  · obtain ⟨g, off, rfl, hc⟩ := h3.resolve_left hl
    obtain ⟨m, hm⟩ : ∃ m, l.length = m + 1 := ⟨l.length - 1, by have := List.length_pos_iff.2 hl; omega⟩
    obtain ⟨e, he⟩ : ∃ e, l[m]? = some e := ⟨_, List.getElem?_eq_getElem (by omega)⟩
    have q := (hc m e he).1
    have hg : g < w.heap.size := World.block_lt_of_cell? w ⟨g, off + m * 2, none⟩ q
    have hv : ((l.getLast?).map Prod.fst).getD y = e.1 := by rw [List.getLast?_eq_getElem?, hm, Nat.add_sub_cancel, he]; rfl
    rw [hv, hm]
    rw [hm] at h1
    have hb : m + 1 < 9223372036854775808 := by unfold maxLen at h2; omega
    obtain ⟨te, de⟩ := e
    dsimp only at q ⊢
    have hpos : (0 : Int) < ((m + 1 : Nat) : Int) := by omega
    have hsub : ((m + 1 : Nat) : Int) - 1 = (m : Int) := by omega
    have hm0 : (0 : Int) ≤ (m : Int) := by omega
    have hm1 : (m : Int) < ((m + 1 : Nat) : Int) := by omega
    clear h1 h2 h3 hc hl hm he hv
    go_enter Try.func35, Try.ntmps35
    go_wp2
    go_ret
    exact ⟨rfl, below_alloc _ _⟩

set_option maxHeartbeats 800000 in
theorem refMay_c (r : W.Rec) (w : World) : Calls Try.prog 27 #[recV r] w fun e w' => e = .returned (.bool (W.may r)) ∧ Below w.heap.size w w' := by
  have HI : Hid (∀ n l u, Calls Try.prog 63 #[.int .i64 n, .int .i64 l] u fun e w' => e = .returned (.bool (decide (l ≤ n) && decide (n ≤ 1099511627776))) ∧ w' = u) := refIndex_c
  obtain ⟨g, k, i, t, v, d⟩ := r
  unfold W.may W.mayK recV
  dsimp only
  by_cases hg : 0 ≤ g ∧ g < 9
  case neg =>
    rw [show W.isGroup g = false by unfold W.isGroup; simp; omega, Bool.false_and]
    by_cases h0 : g < 0
    · go_enter Try.func27, Try.ntmps27
      go_wp2
      go_ret
      exact ⟨rfl, below_alloc _ _⟩
    · have h9 : 9 ≤ g := by omega
      go_enter Try.func27, Try.ntmps27
      go_wp2
      go_ret
      exact ⟨rfl, below_alloc _ _⟩
  rw [W.isGroup_iff.2 hg, Bool.true_and]
  have hg0 : ¬ g < 0 := by omega
  have hg9 : ¬ 9 ≤ g := by omega
  clear hg
  have HT : Hid _ := HI.out t 0
  have HX1 : Hid _ := HI.out i 1
  have HX0 : Hid _ := HI.out i 0
  obtain ⟨bt, hbt⟩ : ∃ b, b = (decide (0 ≤ t) && decide (t ≤ 1099511627776)) := ⟨_, rfl⟩
  obtain ⟨b1, hb1⟩ : ∃ b, b = (decide (1 ≤ i) && decide (i ≤ 1099511627776)) := ⟨_, rfl⟩
  obtain ⟨b0, hb0⟩ : ∃ b, b = (decide (0 ≤ i) && decide (i ≤ 1099511627776)) := ⟨_, rfl⟩
  rw [← hbt] at HT
  rw [← hb1] at HX1
  rw [← hb0] at HX0
  have f1 : W.mayHard ⟨g, k, i, t, v, d⟩ = ((i == 0) && bt && decide (-1 ≤ v) && decide (v < 7) && d.toList.isEmpty) := by
    unfold W.mayHard W.ix
    dsimp only
    rw [← hbt]
    cases (i == 0) <;> cases bt <;> simp
  have f2 : W.mayEntry ⟨g, k, i, t, v, d⟩ = (b1 && bt && (v == 0) && decide ((d.size : Int) ≤ 131072)) := by
    unfold W.mayEntry W.mayBase W.ix
    dsimp only
    rw [← hbt, hb1, show decide (d.size ≤ 131072) = decide ((d.size : Int) ≤ 131072) from decide_eq_decide.2 (by omega)]
    rw [Bool.eq_iff_iff]
    simp only [Bool.and_eq_true, decide_eq_true_eq, beq_iff_eq]
    constructor
    · rintro ⟨h1, ⟨⟨⟨h2, h3⟩, h4⟩, h5⟩, h6⟩; exact ⟨⟨⟨⟨h1, h3⟩, h4⟩, h6⟩, h5⟩
    · rintro ⟨⟨⟨⟨h1, h3⟩, h4⟩, h6⟩, h5⟩; exact ⟨h1, ⟨⟨⟨by omega, h3⟩, h4⟩, h5⟩, h6⟩
  have f3 : W.mayCut ⟨g, k, i, t, v, d⟩ = (b1 && (t == 0) && (v == 0) && d.toList.isEmpty) := by
    unfold W.mayCut W.ix
    dsimp only
    rw [hb1]
    rw [Bool.eq_iff_iff]
    simp only [Bool.and_eq_true, decide_eq_true_eq, beq_iff_eq]
    constructor
    · rintro ⟨⟨⟨⟨h1, h2, h3⟩, h4⟩, h5⟩, h6⟩; exact ⟨⟨⟨⟨h1, h3⟩, h4⟩, h5⟩, h6⟩
    · rintro ⟨⟨⟨⟨h1, h3⟩, h4⟩, h5⟩, h6⟩; exact ⟨⟨⟨⟨h1, by omega, h3⟩, h4⟩, h5⟩, h6⟩
  have f4 : W.mayBase ⟨g, k, i, t, v, d⟩ = (b0 && bt && (v == 0) && decide ((d.size : Int) ≤ 131072)) := by
    unfold W.mayBase W.ix
    dsimp only
    rw [← hbt, ← hb0, show decide (d.size ≤ 131072) = decide ((d.size : Int) ≤ 131072) from decide_eq_decide.2 (by omega)]
    cases b0 <;> cases bt <;> cases (v == 0) <;> simp
  rw [f1, f2, f3, f4]
  clear f1 f2 f3 f4 hbt hb1 hb0 HI
  by_cases k1 : k = 1
  · subst k1
    rw [if_pos rfl]
    obtain ⟨c1, hc1⟩ : ∃ c, (i == 0) = c := ⟨_, rfl⟩
    rw [hc1]
    clear HX1 HX0
    cases c1
    · clear HT
      go_enter Try.func27, Try.ntmps27
      go_wp2
      go_ret
      exact ⟨rfl, below_alloc _ _⟩
    · go_enter Try.func27, Try.ntmps27
      go_wp2_with fail
      refine Calls.mono (HT.out _) ?_
      rintro e w1 ⟨rfl, hw⟩
      subst hw
      go_wp2
      all_goals (go_ret; refine ⟨?_, below_alloc _ _⟩; first | (simp_all; done) | (simp_all; omega))
  rw [if_neg k1]
  by_cases k2 : k = 2
  · subst k2
    rw [if_pos rfl]
    obtain ⟨c1, hc1⟩ : ∃ c, (v == 0) = c := ⟨_, rfl⟩
    obtain ⟨c2, hc2⟩ : ∃ c, decide ((d.size : Int) ≤ 131072) = c := ⟨_, rfl⟩
    rw [hc1, hc2]
    clear HX0 k1
    cases b1
    · clear HT
      go_enter Try.func27, Try.ntmps27
      go_wp2_with fail
      refine Calls.mono (HX1.out _) ?_
      rintro e w1 ⟨rfl, hw⟩
      subst hw
      go_wp2
      go_ret
      exact ⟨rfl, below_alloc _ _⟩
    · cases bt
      all_goals
        go_enter Try.func27, Try.ntmps27
        go_wp2_with fail
        refine Calls.mono (HX1.out _) ?_
        rintro e w1 ⟨rfl, hw⟩
        subst hw
        go_wp2_with fail
        refine Calls.mono (HT.out _) ?_
        rintro e w1 ⟨rfl, hw⟩
        subst hw
        go_wp2
        all_goals (go_ret; refine ⟨?_, below_alloc _ _⟩; first | (simp_all; done) | (simp_all; omega))
  rw [if_neg k2]
  by_cases k3 : k = 3
  · subst k3
    rw [if_pos rfl]
    clear HX0 HT k1 k2
    cases b1
    all_goals
      go_enter Try.func27, Try.ntmps27
      go_wp2_with fail
      refine Calls.mono (HX1.out _) ?_
      rintro e w1 ⟨rfl, hw⟩
      subst hw
      go_wp2
      all_goals (go_ret; refine ⟨?_, below_alloc _ _⟩; first | (simp_all; done) | (simp_all; omega))
  rw [if_neg k3]
  by_cases k4 : k = 4
  · subst k4
    rw [if_pos rfl]
    obtain ⟨c1, hc1⟩ : ∃ c, (v == 0) = c := ⟨_, rfl⟩
    obtain ⟨c2, hc2⟩ : ∃ c, decide ((d.size : Int) ≤ 131072) = c := ⟨_, rfl⟩
    rw [hc1, hc2]
    clear HX1 k1 k2 k3
    cases b0
    · clear HT
      go_enter Try.func27, Try.ntmps27
      go_wp2_with fail
      refine Calls.mono (HX0.out _) ?_
      rintro e w1 ⟨rfl, hw⟩
      subst hw
      go_wp2
      go_ret
      exact ⟨rfl, below_alloc _ _⟩
    · cases bt
      all_goals
        go_enter Try.func27, Try.ntmps27
        go_wp2_with fail
        refine Calls.mono (HX0.out _) ?_
        rintro e w1 ⟨rfl, hw⟩
        subst hw
        go_wp2_with fail
        refine Calls.mono (HT.out _) ?_
        rintro e w1 ⟨rfl, hw⟩
        subst hw
        go_wp2
        all_goals (go_ret; refine ⟨?_, below_alloc _ _⟩; first | (simp_all; done) | (simp_all; omega))
  rw [if_neg k4]
  have t1 : (k == 1) = false := by simpa using k1
  have t2 : (k == 2) = false := by simpa using k2
  have t3 : (k == 3) = false := by simpa using k3
  have t4 : (k == 4) = false := by simpa using k4
  clear k1 k2 k3 k4 HX0 HX1 HT
  go_enter Try.func27, Try.ntmps27
  go_wp2
  go_ret
  exact ⟨rfl, below_alloc _ _⟩

end Go.Proofs.Ytpfnkjfbhcffiaa

namespace Go.Proofs.Ytpfnkjfbhcffiaa
open Go.RowKit

theorem EntR.take {w : World} {p : Option Addr} {n c : Nat} {l : List (Int × ByteArray)} (h : EntR w (.slice p n c) l) {k : Nat} (hk : k ≤ n) : EntR w (.slice p k k) (l.take k) ∧ ∀ q, readBlk (.slice p k k) = some q → readBlk (.slice p n c) = some q := by
  obtain ⟨p', c', e, h1, h2, h3⟩ := h
  injection e with e1 e2 e3
  subst e1 e3
  have hl : (l.take k).length = k := by rw [List.length_take]; omega
  refine ⟨⟨p, k, by rw [hl], by omega, by omega, ?_⟩, ?_⟩
  · rcases h3 with e | ⟨g, off, e, hc⟩
    · left; rw [e, List.take_nil]
    · right
      refine ⟨g, off, e, fun i x hx => hc i x ?_⟩
      rw [List.getElem?_take] at hx
      split at hx
      · exact hx
      · cases hx
  · intro q hq
    cases p with
    | none => simp [readBlk] at hq
    | some a =>
      cases k with
      | zero => simp [readBlk] at hq
      | succ k =>
        obtain ⟨m, rfl⟩ : ∃ m, n = m + 1 := ⟨n - 1, by omega⟩
        exact hq

/-- What Fold answers. -/
def FoldOut (w : World) (s : W.Sv) (v : Value) (r : W.Rec) (e : Ending) (w' : World) : Prop :=
  ∃ v', e = .returned (.tuple #[savV (if W.fits s r then W.fold s r else s) v', .bool (W.fits s r)]) ∧ EntR w' v' (if W.fits s r then W.fold s r else s).ents ∧ Below w.heap.size w w' ∧ ∀ q, readBlk v' = some q → readBlk v = some q ∨ w.heap.size ≤ q

theorem below3 (w : World) (a b c : Obj) : Below w.heap.size w (((w.alloc a).alloc b).alloc c) :=
  ((below_alloc _ _).trans ((below_alloc _ _).mono (by simp))).trans ((below_alloc _ _).mono (by simp; omega))

theorem Below.set6 {B : Nat} {a w : World} (h : Below B a w) {b : Nat} (hb : B ≤ b) (u0 u1 u2 u3 u4 u5 : Value) :
    Below B a ((((((w.setCell ⟨b, 0, none⟩ u0).setCell ⟨b, 1, none⟩ u1).setCell ⟨b, 2, none⟩ u2).setCell ⟨b, 3, none⟩ u3).setCell ⟨b, 4, none⟩ u4).setCell ⟨b, 5, none⟩ u5) :=
  (((((h.setCell (p := ⟨b, 0, none⟩) hb u0).setCell (p := ⟨b, 1, none⟩) hb u1).setCell (p := ⟨b, 2, none⟩) hb u2).setCell (p := ⟨b, 3, none⟩) hb u3).setCell (p := ⟨b, 4, none⟩) hb u4).setCell (p := ⟨b, 5, none⟩) hb u5

/-- Three blocks that a call laid just now: what was saved, the record, the answer. -/
structure F3 (w X : World) (a : Nat) (S R Z : Array Value) : Prop where
  here : a = w.heap.size
  old : Below w.heap.size w X
  lt : a + 1 + 1 < X.heap.size
  s : ∀ j, X.cell? ⟨a, j, none⟩ = S[j]?
  r : ∀ j, X.cell? ⟨a + 1, j, none⟩ = R[j]?
  z : ∀ j, X.cell? ⟨a + 1 + 1, j, none⟩ = Z[j]?
  fs : ∀ j, X.frozen? ⟨a, j, none⟩ = false
  fz : ∀ j, X.frozen? ⟨a + 1 + 1, j, none⟩ = false
theorem F3.below {w X Y : World} {a : Nat} {S R Z : Array Value} (h : F3 w X a S R Z) (hb : Below X.heap.size X Y) : F3 w Y a S R Z := by
  have h0 := h.lt
  exact ⟨h.here, h.old.trans (hb.mono h.old.size), Nat.lt_of_lt_of_le h.lt hb.size, fun j => (hb.cell (p := ⟨a, j, none⟩) (by show a < _; omega)).trans (h.s j), fun j => (hb.cell (p := ⟨a + 1, j, none⟩) (by show a + 1 < _; omega)).trans (h.r j), fun j => (hb.cell (p := ⟨a + 1 + 1, j, none⟩) h0).trans (h.z j),
    fun j => (hb.frozen (p := ⟨a, j, none⟩) (by show a < _; omega)).trans (h.fs j), fun j => (hb.frozen (p := ⟨a + 1 + 1, j, none⟩) h0).trans (h.fz j)⟩
theorem F3.all {w X : World} {a : Nat} {s0 s1 s2 s3 s4 s5 z0 z1 z2 z3 z4 z5 : Value} {R : Array Value} (h : F3 w X a #[s0, s1, s2, s3, s4, s5] R #[z0, z1, z2, z3, z4, z5]) :
    X.cell? ⟨a, 0, none⟩ = some s0 ∧ X.cell? ⟨a, 1, none⟩ = some s1 ∧ X.cell? ⟨a, 2, none⟩ = some s2 ∧ X.cell? ⟨a, 3, none⟩ = some s3 ∧ X.cell? ⟨a, 4, none⟩ = some s4 ∧ X.cell? ⟨a, 5, none⟩ = some s5 ∧
    X.cell? ⟨a + 1 + 1, 0, none⟩ = some z0 ∧ X.cell? ⟨a + 1 + 1, 1, none⟩ = some z1 ∧ X.cell? ⟨a + 1 + 1, 2, none⟩ = some z2 ∧ X.cell? ⟨a + 1 + 1, 3, none⟩ = some z3 ∧ X.cell? ⟨a + 1 + 1, 4, none⟩ = some z4 ∧ X.cell? ⟨a + 1 + 1, 5, none⟩ = some z5 ∧
    (∀ j, X.frozen? ⟨a, j, none⟩ = false) ∧ (∀ j, X.frozen? ⟨a + 1 + 1, j, none⟩ = false) ∧ Below w.heap.size w X ∧ w.heap.size ≤ a :=
  ⟨h.s 0, h.s 1, h.s 2, h.s 3, h.s 4, h.s 5, h.z 0, h.z 1, h.z 2, h.z 3, h.z 4, h.z 5, h.fs, h.fz, h.old, Nat.le_of_eq h.here.symm⟩
theorem F3.start (w : World) (S R Z : Array Value) (t1 t2 t3 : TypeId) : F3 w (((w.alloc (.cells S t1)).alloc (.cells R t2)).alloc (.cells Z t3)) w.heap.size S R Z := by
  refine ⟨rfl, below3 _ _ _ _, by simp, fun j => ?_, fun j => ?_, fun j => ?_, fun j => ?_, fun j => ?_⟩
  · rw [World.cell?_alloc_lt _ _ _ (by simp; omega), World.cell?_alloc_lt _ _ _ (by simp)]
    exact World.cell?_alloc_mark w _ _ _ j
  · rw [World.cell?_alloc_lt _ _ _ (by simp)]
    have e := World.cell?_alloc_mark (w.alloc (.cells S t1)) R t2 (0, 0) j
    rw [← e]
    simp
  · have e := World.cell?_alloc_mark ((w.alloc (.cells S t1)).alloc (.cells R t2)) Z t3 (0, 0) j
    rw [← e]
    simp
  · rw [World.frozen?_alloc_old _ _ _ (by simp; omega), World.frozen?_alloc_old _ _ _ (by simp), World.frozen?_alloc_mark]
    simp
  · simp [go_sem]

set_option maxHeartbeats 800000 in
theorem refFold1 {w : World} {s : W.Sv} {v : Value} (h : EntR w v s.ents) (r : W.Rec) (hk : r.kind = 1) : Calls Try.prog 14 #[savV s v, recV r] w (FoldOut w s v r) := by
  have HE : Hid (EntR w v s.ents) := h
  obtain ⟨p, c, hv, _⟩ := h
  have HO : Hid (∀ u, Below w.heap.size w u → FoldOut w s v r (.returned (.tuple #[.agg #[.int .i64 r.term, .int .i64 r.vote, .int .i64 s.base, .int .i64 s.bterm, .string s.data, v], .bool true])) u) := by
    intro u hu
    have e1 : W.fits s r = true := by unfold W.fits; rw [if_pos hk]
    have e2 : W.fold s r = W.doHard s r := by unfold W.fold; rw [if_pos hk]
    unfold FoldOut
    rw [e1, if_pos rfl, e2]
    exact ⟨v, rfl, EntR.below HE.out hu, hu, fun q hq => .inl hq⟩
  generalize FoldOut w s v r = Q at HO ⊢
  unfold savV recV
  rw [hv] at HO ⊢
  obtain ⟨n, hn⟩ : ∃ n, n = s.ents.length := ⟨_, rfl⟩
  rw [← hn] at HO ⊢
  obtain ⟨t, x, b, y, d, l⟩ := s
  obtain ⟨rg, rk, ri, rt, rv, rd⟩ := r
  dsimp only at hk HO ⊢
  subst hk
  clear HE hn hv
  go_enter Try.func14, Try.ntmps14
  go_wp2
  refine bodyPost_ret (v := .tuple #[.agg #[.int .i64 rt, .int .i64 rv, .int .i64 b, .int .i64 y, .string d, .slice p n c], .bool true]) ?qres rfl ?qpost
  case qres => simp [results, Try.results14, go_sem]
  case qpost => exact HO.out _ (below3 _ _ _ _)

set_option maxHeartbeats 1600000 in
theorem refFold3 {w : World} {s : W.Sv} {v : Value} (h : EntR w v s.ents) (ok : W.Ok s) (r : W.Rec) (hk : r.kind = 3) (hi : 1 ≤ r.index ∧ r.index ≤ 1099511627776) : Calls Try.prog 14 #[savV s v, recV r] w (FoldOut w s v r) := by
  have HE : Hid (EntR w v s.ents) := h
  have HLs : Hid (∀ u, Below w.heap.size w u → Calls Try.prog 34 #[savV s v] u fun e w' => e = .returned (.int .i64 (W.last s)) ∧ Below u.heap.size u w') := fun u hu => refLast_c (EntR.below h hu) ok
  have ef : W.fits s r = W.fitsCut s r := by unfold W.fits; rw [if_neg (by omega), if_neg (by omega), if_pos hk]
  have ed : W.fold s r = W.doCut s r := by unfold W.fold; rw [if_neg (by omega), if_neg (by omega), if_pos hk]
  have HO1 : Hid (W.fitsCut s r = false → ∀ u, Below w.heap.size w u → FoldOut w s v r (.returned (.tuple #[savV s v, .bool false])) u) := by
    intro hf u hu
    unfold FoldOut
    rw [ef, hf]
    exact ⟨v, rfl, EntR.below HE.out hu, hu, fun q hq => .inl hq⟩
  obtain ⟨p, c, hv, hc1, hc2, hc3⟩ := h
  have HO2 : Hid (W.fitsCut s r = true → ∀ k : Nat, r.index - s.base - 1 = (k : Int) → k ≤ s.ents.length → ∀ u, Below w.heap.size w u → FoldOut w s v r (.returned (.tuple #[.agg #[.int .i64 s.term, .int .i64 s.vote, .int .i64 s.base, .int .i64 s.bterm, .string s.data, .slice p k k], .bool true])) u) := by
    intro hf k hk' hkl u hu
    unfold FoldOut
    rw [ef, hf, if_pos rfl, ed]
    have e := HE.out
    rw [hv] at e ⊢
    obtain ⟨e1, e2⟩ := EntR.take e hkl
    have e3 : (W.doCut s r).ents = s.ents.take k := by unfold W.doCut; rw [hk', Int.toNat_natCast]
    rw [e3]
    exact ⟨.slice p k k, rfl, EntR.below e1 hu, hu, fun q hq => .inl (e2 q hq)⟩
  generalize FoldOut w s v r = Q at HO1 HO2 ⊢
  have k1 := ok.base
  have k2 := ok.last
  obtain ⟨z, hz⟩ : ∃ z, z = W.last s := ⟨_, rfl⟩
  have hzl : z = s.base + (s.ents.length : Int) := hz
  rw [← hz] at HLs k2
  unfold W.fitsCut at HO1 HO2
  rw [← hz] at HO1 HO2
  unfold savV at HLs HO1 ⊢
  unfold recV
  rw [hv] at HO1 HLs ⊢
  obtain ⟨n, hn⟩ : ∃ n, n = s.ents.length := ⟨_, rfl⟩
  rw [← hn] at HO1 HO2 HLs hzl hc1 ⊢
  obtain ⟨t, x, b, y, d, l⟩ := s
  obtain ⟨rg, rk, ri, rt, rv, rd⟩ := r
  dsimp only at hk hi k1 HO1 HO2 HLs hzl ⊢
  subst hk
  clear HE hn hv ef ed ok hz hc3
  by_cases hb : ri ≤ b
  · have HF : Hid _ := HO1.out (by simp; omega)
    clear HO1 HO2 HLs k1 k2 hi hc1 hc2 hzl
    go_enter Try.func14, Try.ntmps14
    go_wp2
    go_quiet (fail)
    go_wp2
    refine bodyPost_ret (v := .tuple #[.agg #[.int .i64 t, .int .i64 x, .int .i64 b, .int .i64 y, .string d, .slice p n c], .bool false]) ?qres rfl ?qpost
    case qres => simp [results, Try.results14, go_sem]
    case qpost => exact HF.out _ (Below.set6 ((below3 _ _ _ _).trans ((below_drewN _ _).mono (below3 _ _ _ _).size)) (by omega) _ _ _ _ _ _)
  have HK : Hid (∀ X a S R Z, F3 w X a S R Z → Below w.heap.size w X) := fun _ _ _ _ _ h => h.old
  have hd1 : decide (ri ≤ b) = false := decide_eq_false hb
  by_cases hl : z < ri
  · have HF : Hid _ := HO1.out (by simp; omega)
    have hd2 : decide (z < ri) = true := decide_eq_true hl
    clear HO1 HO2 k1 k2 hi hc1 hc2 hzl hb hl
    go_enter Try.func14, Try.ntmps14
    go_wp2_with fail
    obtain ⟨u, a, hu, ha, h3⟩ : ∃ u a, u = ((w.alloc (.cells #[.int .i64 t, .int .i64 x, .int .i64 b, .int .i64 y, .string d, .slice p n c] 45)).alloc (.cells #[.int .i64 rg, .int .i64 3, .int .i64 ri, .int .i64 rt, .int .i64 rv, .string rd] 37)).alloc (.cells #[.int .i64 0, .int .i64 0, .int .i64 0, .int .i64 0, .string ⟨#[]⟩, .slice none 0 0] 45) ∧ a = w.heap.size ∧ F3 w u.drew a #[.int .i64 t, .int .i64 x, .int .i64 b, .int .i64 y, .string d, .slice p n c] #[.int .i64 rg, .int .i64 3, .int .i64 ri, .int .i64 rt, .int .i64 rv, .string rd] #[.int .i64 0, .int .i64 0, .int .i64 0, .int .i64 0, .string ⟨#[]⟩, .slice none 0 0] :=
      ⟨_, _, rfl, rfl, (F3.start w _ _ _ _ _ _).below (Below.refl _ _).drew⟩
    rw [← hu, ← ha]
    clear hu ha
    have KL : Hid (∀ X, F3 w X a #[.int .i64 t, .int .i64 x, .int .i64 b, .int .i64 y, .string d, .slice p n c] #[.int .i64 rg, .int .i64 3, .int .i64 ri, .int .i64 rt, .int .i64 rv, .string rd] #[.int .i64 0, .int .i64 0, .int .i64 0, .int .i64 0, .string ⟨#[]⟩, .slice none 0 0] → Calls Try.prog 34 #[.agg #[.int .i64 t, .int .i64 x, .int .i64 b, .int .i64 y, .string d, .slice p n c]] X fun e w' => e = .returned (.int .i64 z) ∧ F3 w w' a #[.int .i64 t, .int .i64 x, .int .i64 b, .int .i64 y, .string d, .slice p n c] #[.int .i64 rg, .int .i64 3, .int .i64 ri, .int .i64 rt, .int .i64 rv, .string rd] #[.int .i64 0, .int .i64 0, .int .i64 0, .int .i64 0, .string ⟨#[]⟩, .slice none 0 0]) := by
      intro X hX
      refine (HLs.out X hX.old).mono ?_
      rintro e w' ⟨rfl, hb⟩
      exact ⟨rfl, hX.below hb⟩
    have HC : Hid (∀ X, F3 w X a #[.int .i64 t, .int .i64 x, .int .i64 b, .int .i64 y, .string d, .slice p n c] #[.int .i64 rg, .int .i64 3, .int .i64 ri, .int .i64 rt, .int .i64 rv, .string rd] #[.int .i64 0, .int .i64 0, .int .i64 0, .int .i64 0, .string ⟨#[]⟩, .slice none 0 0] → X.cell? ⟨a, 0, none⟩ = some (.int .i64 t) ∧ X.cell? ⟨a, 1, none⟩ = some (.int .i64 x) ∧ X.cell? ⟨a, 2, none⟩ = some (.int .i64 b) ∧ X.cell? ⟨a, 3, none⟩ = some (.int .i64 y) ∧ X.cell? ⟨a, 4, none⟩ = some (.string d) ∧ X.cell? ⟨a, 5, none⟩ = some (.slice p n c) ∧ X.cell? ⟨a + 1, 2, none⟩ = some (.int .i64 ri)) := by
      intro X h
      exact ⟨h.s 0, h.s 1, h.s 2, h.s 3, h.s 4, h.s 5, h.r 2⟩
    go_region_held (fun X => X.cell? ⟨a, 0, none⟩ = some (.int .i64 t) ∧ X.cell? ⟨a, 1, none⟩ = some (.int .i64 x) ∧ X.cell? ⟨a, 2, none⟩ = some (.int .i64 b) ∧ X.cell? ⟨a, 3, none⟩ = some (.int .i64 y) ∧ X.cell? ⟨a, 4, none⟩ = some (.string d) ∧ X.cell? ⟨a, 5, none⟩ = some (.slice p n c) ∧ X.cell? ⟨a + 1, 2, none⟩ = some (.int .i64 ri))
      (exact HC.out _ (by assumption))
      (first | (go_at_call 34; refine (KL.out _ ?_).mono ?_; assumption; rintro e w6 ⟨rfl, hg6⟩))
    obtain ⟨y0, y1, y2, y3, y4, y5, z0, z1, z2, z3, z4, z5, ff, fg, hB, hA⟩ := hg6.all
    have HB : Hid _ := hB
    have HA : Hid _ := hA
    clear hg6 hB hA KL HC h3 HK HLs
    go_wp2
    refine bodyPost_ret (v := .tuple #[.agg #[.int .i64 t, .int .i64 x, .int .i64 b, .int .i64 y, .string d, .slice p n c], .bool false]) ?qres rfl ?qpost
    case qres => simp [results, Try.results14, go_sem, z0, z1, z2, z3, z4, z5]
    case qpost => exact HF.out _ (Below.set6 HB.out (by have := HA.out; omega) _ _ _ _ _ _)
  obtain ⟨k, hk⟩ : ∃ k : Nat, ri - b - 1 = (k : Int) := ⟨(ri - b - 1).toNat, by omega⟩
  have hkn : k ≤ n := by omega
  have HF : Hid _ := HO2.out (by simp; omega) k hk hkn
  have hd2 : decide (z < ri) = false := decide_eq_false hl
  have hw1 : IntKind.i64.wrap (ri - b) = (k : Int) + 1 := by rw [wraps_i64 _ (by omega) (by rw [pow63]; omega)]; omega
  have hw2 : IntKind.i64.wrap ((k : Int) + 1 - 1) = (k : Int) := by rw [wraps_i64 _ (by omega) (by rw [pow63]; omega)]; omega
  have hkc : k ≤ c := by omega
  have hcb : c < 9223372036854775808 := by unfold maxLen at hc2; omega
  have hk0 : (0 : Int) ≤ (k : Int) := by omega
  clear HO1 HO2 k1 k2 hi hc1 hc2 hzl hb hl hk hkn
  go_enter Try.func14, Try.ntmps14
  go_wp2_with fail
  obtain ⟨u, a, hu, ha, h3⟩ : ∃ u a, u = ((w.alloc (.cells #[.int .i64 t, .int .i64 x, .int .i64 b, .int .i64 y, .string d, .slice p n c] 45)).alloc (.cells #[.int .i64 rg, .int .i64 3, .int .i64 ri, .int .i64 rt, .int .i64 rv, .string rd] 37)).alloc (.cells #[.int .i64 0, .int .i64 0, .int .i64 0, .int .i64 0, .string ⟨#[]⟩, .slice none 0 0] 45) ∧ a = w.heap.size ∧ F3 w u.drew a #[.int .i64 t, .int .i64 x, .int .i64 b, .int .i64 y, .string d, .slice p n c] #[.int .i64 rg, .int .i64 3, .int .i64 ri, .int .i64 rt, .int .i64 rv, .string rd] #[.int .i64 0, .int .i64 0, .int .i64 0, .int .i64 0, .string ⟨#[]⟩, .slice none 0 0] :=
    ⟨_, _, rfl, rfl, (F3.start w _ _ _ _ _ _).below (Below.refl _ _).drew⟩
  rw [← hu, ← ha]
  clear hu ha
  have KL : Hid (∀ X, F3 w X a #[.int .i64 t, .int .i64 x, .int .i64 b, .int .i64 y, .string d, .slice p n c] #[.int .i64 rg, .int .i64 3, .int .i64 ri, .int .i64 rt, .int .i64 rv, .string rd] #[.int .i64 0, .int .i64 0, .int .i64 0, .int .i64 0, .string ⟨#[]⟩, .slice none 0 0] → Calls Try.prog 34 #[.agg #[.int .i64 t, .int .i64 x, .int .i64 b, .int .i64 y, .string d, .slice p n c]] X fun e w' => e = .returned (.int .i64 z) ∧ F3 w w' a #[.int .i64 t, .int .i64 x, .int .i64 b, .int .i64 y, .string d, .slice p n c] #[.int .i64 rg, .int .i64 3, .int .i64 ri, .int .i64 rt, .int .i64 rv, .string rd] #[.int .i64 0, .int .i64 0, .int .i64 0, .int .i64 0, .string ⟨#[]⟩, .slice none 0 0]) := by
    intro X hX
    refine (HLs.out X hX.old).mono ?_
    rintro e w' ⟨rfl, hb⟩
    exact ⟨rfl, hX.below hb⟩
  have HC : Hid (∀ X, F3 w X a #[.int .i64 t, .int .i64 x, .int .i64 b, .int .i64 y, .string d, .slice p n c] #[.int .i64 rg, .int .i64 3, .int .i64 ri, .int .i64 rt, .int .i64 rv, .string rd] #[.int .i64 0, .int .i64 0, .int .i64 0, .int .i64 0, .string ⟨#[]⟩, .slice none 0 0] → X.cell? ⟨a, 0, none⟩ = some (.int .i64 t) ∧ X.cell? ⟨a, 1, none⟩ = some (.int .i64 x) ∧ X.cell? ⟨a, 2, none⟩ = some (.int .i64 b) ∧ X.cell? ⟨a, 3, none⟩ = some (.int .i64 y) ∧ X.cell? ⟨a, 4, none⟩ = some (.string d) ∧ X.cell? ⟨a, 5, none⟩ = some (.slice p n c) ∧ X.cell? ⟨a + 1, 2, none⟩ = some (.int .i64 ri)) := by
    intro X h
    exact ⟨h.s 0, h.s 1, h.s 2, h.s 3, h.s 4, h.s 5, h.r 2⟩
  go_region_held (fun X => X.cell? ⟨a, 0, none⟩ = some (.int .i64 t) ∧ X.cell? ⟨a, 1, none⟩ = some (.int .i64 x) ∧ X.cell? ⟨a, 2, none⟩ = some (.int .i64 b) ∧ X.cell? ⟨a, 3, none⟩ = some (.int .i64 y) ∧ X.cell? ⟨a, 4, none⟩ = some (.string d) ∧ X.cell? ⟨a, 5, none⟩ = some (.slice p n c) ∧ X.cell? ⟨a + 1, 2, none⟩ = some (.int .i64 ri))
    (exact HC.out _ (by assumption))
    (first | (go_at_call 34; refine (KL.out _ ?_).mono ?_; assumption; rintro e w6 ⟨rfl, hg6⟩))
  obtain ⟨y0, y1, y2, y3, y4, y5, z0, z1, z2, z3, z4, z5, ff, fg, hB, hA⟩ := hg6.all
  have r2 : w6.cell? ⟨a + 1, 2, none⟩ = some (.int .i64 ri) := hg6.r 2
  have HB : Hid _ := hB
  have HA : Hid _ := hA
  clear hg6 hB hA KL HC h3 HK HLs
  go_wp2
  refine bodyPost_ret (v := .tuple #[.agg #[.int .i64 t, .int .i64 x, .int .i64 b, .int .i64 y, .string d, .slice p k k], .bool true]) ?qres rfl ?qpost
  case qres => simp [results, Try.results14, go_sem, z0, z1, z2, z3, z4, z5]
  case qpost => exact HF.out _ (Below.set6 (HB.out.setCell (by have := HA.out; exact this) _) (by have := HA.out; omega) _ _ _ _ _ _)
end Go.Proofs.Ytpfnkjfbhcffiaa

namespace Go.Proofs.Ytpfnkjfbhcffiaa
open Go.RowKit

theorem EntR.src {w : World} {p : Option Addr} {n c : Nat} {l : List (Int × ByteArray)} (h : EntR w (.slice p n c) l) : Src Try.prog 2 43 (.slice p n c) n (entCells l) w := by
  obtain ⟨p', c', e, h1, h2, h3⟩ := h
  injection e with e1 e2 e3
  subst e1 e2 e3
  by_cases hl : l = []
  · subst hl
    cases p
    · exact Src.ofNil w Try.underlying43 c
    · exact Src.ofSlice w Try.underlying43 _ _ _ _ rfl (fun j u hu => by simp [entCells] at hu) (entCells_one _)
  · obtain ⟨g, off, rfl, hc⟩ := h3.resolve_left hl
    refine Src.ofSlice w Try.underlying43 _ _ _ _ (entCells_len l) (fun j u hu => ?_) (entCells_one _)
    have hj : j < l.length * 2 := by rw [← entCells_len]; exact (List.getElem?_eq_some_iff.1 hu).1
    obtain ⟨x, hx⟩ : ∃ x, l[j / 2]? = some x := ⟨_, List.getElem?_eq_getElem (by omega)⟩
    obtain ⟨q1, q2⟩ := entCells_at l (j / 2) x hx
    obtain ⟨c1, c2⟩ := hc (j / 2) x hx
    have ea : (⟨g, off, none⟩ : Addr).add j = ⟨g, off + j, none⟩ := by simp [Addr.add]
    rw [ea]
    rcases Nat.mod_two_eq_zero_or_one j with m | m
    · have ej : j / 2 * 2 = j := by omega
      rw [ej, hu] at q1
      rw [ej] at c1
      rw [c1, ← q1]
    · have ej : j / 2 * 2 + 1 = j := by omega
      rw [ej, hu] at q2
      rw [Nat.add_assoc, ej] at c2
      rw [c2, ← q2]

theorem F3.grown {w X Y : World} {a : Nat} {S R Z : Array Value} {row : Option Nat} (h : F3 w X a S R Z) (hg : X.grownBy Y row) (hr : ∀ k, row = some k → a + 1 + 1 < k) : F3 w Y a S R Z := by
  have h0 := h.lt
  have hh := h.here
  have key : ∀ k, k ≤ a + 1 + 1 → Y.heap[k]? = X.heap[k]? := fun k hk => hg.block k (by omega) (fun e => by have := hr k e.symm; omega)
  exact ⟨h.here, h.old.grown hg (by exact h.old.size) (fun k e => by have := hr k e; omega), Nat.lt_of_lt_of_le h.lt hg.size,
    fun j => (World.cell?_of_block (a := ⟨a, j, none⟩) (key a (by omega))).trans (h.s j), fun j => (World.cell?_of_block (a := ⟨a + 1, j, none⟩) (key (a + 1) (by omega))).trans (h.r j), fun j => (World.cell?_of_block (a := ⟨a + 1 + 1, j, none⟩) (key (a + 1 + 1) (by omega))).trans (h.z j),
    fun j => (World.frozen?_of_block (a := ⟨a, j, none⟩) (key a (by omega))).trans (h.fs j), fun j => (World.frozen?_of_block (a := ⟨a + 1 + 1, j, none⟩) (key (a + 1 + 1) (by omega))).trans (h.fz j)⟩

theorem readBlk_row {p : Option Addr} {n c q : Nat} (h : readBlk (.slice p n c) = some q) (hc : n ≤ c) : rowBlk (.slice p n c) = some q := by
  cases p with
  | none => simp [readBlk] at h
  | some a =>
    cases n with
    | zero => simp [readBlk] at h
    | succ n =>
      obtain ⟨m, rfl⟩ : ∃ m, c = m + 1 := ⟨c - 1, by omega⟩
      exact h

set_option maxHeartbeats 1600000 in
theorem refFold2 {w : World} {s : W.Sv} {v : Value} (h : EntR w v s.ents) (ok : W.Ok s) (r : W.Rec) (hk : r.kind = 2) (hf : W.fitsEntry s r = true) (hi : r.index ≤ 1099511627776) : Calls Try.prog 14 #[savV s v, recV r] w (FoldOut w s v r) := by
  have HLs : Hid (∀ u, Below w.heap.size w u → Calls Try.prog 34 #[savV s v] u fun e w' => e = .returned (.int .i64 (W.last s)) ∧ Below u.heap.size u w') := fun u hu => refLast_c (EntR.below h hu) ok
  have HEs : Hid (∀ u, Below w.heap.size w u → Calls Try.prog 35 #[savV s v] u fun e w' => e = .returned (.int .i64 (W.termAt s (W.last s))) ∧ Below u.heap.size u w') := fun u hu => refEnd_c (EntR.below h hu)
  have HE : Hid (EntR w v s.ents) := h
  have ef : W.fits s r = true := by unfold W.fits; rw [if_neg (by omega), if_pos hk]; exact hf
  have ed : W.fold s r = W.doEntry s r := by unfold W.fold; rw [if_neg (by omega), if_pos hk]
  obtain ⟨p, c, hv, hc1, hc2, hc3⟩ := h
  have HO : Hid (∀ p' c' u, EntR u (.slice p' (s.ents.length + 1) c') (s.ents ++ [(r.term, r.data)]) → Below w.heap.size w u → (∀ q, readBlk (.slice p' (s.ents.length + 1) c') = some q → w.heap.size ≤ q) → FoldOut w s v r (.returned (.tuple #[.agg #[.int .i64 s.term, .int .i64 s.vote, .int .i64 s.base, .int .i64 s.bterm, .string s.data, .slice p' (s.ents.length + 1) c'], .bool true])) u) := by
    intro p' c' u h1 hu h2
    unfold FoldOut
    rw [ef, if_pos rfl, ed]
    exact ⟨_, rfl, h1, hu, fun q hq => .inr (h2 q hq)⟩
  generalize FoldOut w s v r = Q at HO ⊢
  have k1 := ok.base
  have k2 := ok.last
  unfold W.fitsEntry at hf
  simp only [Bool.and_eq_true, decide_eq_true_eq, beq_iff_eq] at hf
  obtain ⟨z, hz⟩ : ∃ z, z = W.last s := ⟨_, rfl⟩
  have hzl : z = s.base + (s.ents.length : Int) := hz
  rw [← hz] at HLs HEs k2 hf
  obtain ⟨te, hte⟩ : ∃ te, te = W.termAt s z := ⟨_, rfl⟩
  rw [← hte] at HEs hf
  unfold savV at HLs HEs ⊢
  unfold recV
  rw [hv] at HLs HEs HE ⊢
  obtain ⟨n, hn⟩ : ∃ n, n = s.ents.length := ⟨_, rfl⟩
  have HN : Hid (n = s.ents.length) := hn
  rw [← hn] at HO HLs HEs HE hzl hc1 ⊢
  obtain ⟨t, x, b, y, d, l⟩ := s
  obtain ⟨rg, rk, ri, rt, rv, rd⟩ := r
  dsimp only at hk hi hf k1 HO HLs HEs HE HN hzl ⊢
  subst hk
  obtain ⟨hf1, hf2⟩ := hf
  subst hf1
  have hd1 : ((z + 1 : Int) != z + 1) = false := by simp
  have hd2 : decide (rt < te) = false := decide_eq_false (by omega)
  have hnb : n ≤ 1099511627776 := by omega
  have hwz : IntKind.i64.wrap (z + 1) = z + 1 := wraps_i64 _ (by omega) (by rw [pow63]; omega)
  clear hn hv ef ed ok hz hc3 hte k1 k2 hzl hi hf2 hc1 hc2
  go_enter Try.func14, Try.ntmps14
  go_wp2_with fail
  obtain ⟨u, a, hu, ha, h3⟩ : ∃ u a, u = ((w.alloc (.cells #[.int .i64 t, .int .i64 x, .int .i64 b, .int .i64 y, .string d, .slice p n c] 45)).alloc (.cells #[.int .i64 rg, .int .i64 2, .int .i64 (z + 1), .int .i64 rt, .int .i64 rv, .string rd] 37)).alloc (.cells #[.int .i64 0, .int .i64 0, .int .i64 0, .int .i64 0, .string ⟨#[]⟩, .slice none 0 0] 45) ∧ a = w.heap.size ∧ F3 w u.drew a #[.int .i64 t, .int .i64 x, .int .i64 b, .int .i64 y, .string d, .slice p n c] #[.int .i64 rg, .int .i64 2, .int .i64 (z + 1), .int .i64 rt, .int .i64 rv, .string rd] #[.int .i64 0, .int .i64 0, .int .i64 0, .int .i64 0, .string ⟨#[]⟩, .slice none 0 0] :=
    ⟨_, _, rfl, rfl, (F3.start w _ _ _ _ _ _).below (Below.refl _ _).drew⟩
  rw [← hu, ← ha]
  clear hu ha
  have KL : Hid (∀ X, F3 w X a #[.int .i64 t, .int .i64 x, .int .i64 b, .int .i64 y, .string d, .slice p n c] #[.int .i64 rg, .int .i64 2, .int .i64 (z + 1), .int .i64 rt, .int .i64 rv, .string rd] #[.int .i64 0, .int .i64 0, .int .i64 0, .int .i64 0, .string ⟨#[]⟩, .slice none 0 0] → Calls Try.prog 34 #[.agg #[.int .i64 t, .int .i64 x, .int .i64 b, .int .i64 y, .string d, .slice p n c]] X fun e w' => e = .returned (.int .i64 z) ∧ F3 w w' a #[.int .i64 t, .int .i64 x, .int .i64 b, .int .i64 y, .string d, .slice p n c] #[.int .i64 rg, .int .i64 2, .int .i64 (z + 1), .int .i64 rt, .int .i64 rv, .string rd] #[.int .i64 0, .int .i64 0, .int .i64 0, .int .i64 0, .string ⟨#[]⟩, .slice none 0 0]) := by
    intro X hX
    refine (HLs.out X hX.old).mono ?_
    rintro e w' ⟨rfl, hb⟩
    exact ⟨rfl, hX.below hb⟩
  have KE : Hid (∀ X, F3 w X a #[.int .i64 t, .int .i64 x, .int .i64 b, .int .i64 y, .string d, .slice p n c] #[.int .i64 rg, .int .i64 2, .int .i64 (z + 1), .int .i64 rt, .int .i64 rv, .string rd] #[.int .i64 0, .int .i64 0, .int .i64 0, .int .i64 0, .string ⟨#[]⟩, .slice none 0 0] → Calls Try.prog 35 #[.agg #[.int .i64 t, .int .i64 x, .int .i64 b, .int .i64 y, .string d, .slice p n c]] X fun e w' => e = .returned (.int .i64 te) ∧ F3 w w' a #[.int .i64 t, .int .i64 x, .int .i64 b, .int .i64 y, .string d, .slice p n c] #[.int .i64 rg, .int .i64 2, .int .i64 (z + 1), .int .i64 rt, .int .i64 rv, .string rd] #[.int .i64 0, .int .i64 0, .int .i64 0, .int .i64 0, .string ⟨#[]⟩, .slice none 0 0]) := by
    intro X hX
    refine (HEs.out X hX.old).mono ?_
    rintro e w' ⟨rfl, hb⟩
    exact ⟨rfl, hX.below hb⟩
  have HC : Hid (∀ X, F3 w X a #[.int .i64 t, .int .i64 x, .int .i64 b, .int .i64 y, .string d, .slice p n c] #[.int .i64 rg, .int .i64 2, .int .i64 (z + 1), .int .i64 rt, .int .i64 rv, .string rd] #[.int .i64 0, .int .i64 0, .int .i64 0, .int .i64 0, .string ⟨#[]⟩, .slice none 0 0] → X.cell? ⟨a, 0, none⟩ = some (.int .i64 t) ∧ X.cell? ⟨a, 1, none⟩ = some (.int .i64 x) ∧ X.cell? ⟨a, 2, none⟩ = some (.int .i64 b) ∧ X.cell? ⟨a, 3, none⟩ = some (.int .i64 y) ∧ X.cell? ⟨a, 4, none⟩ = some (.string d) ∧ X.cell? ⟨a, 5, none⟩ = some (.slice p n c) ∧ X.cell? ⟨a + 1, 2, none⟩ = some (.int .i64 (z + 1)) ∧ X.cell? ⟨a + 1, 3, none⟩ = some (.int .i64 rt)) := by
    intro X h
    exact ⟨h.s 0, h.s 1, h.s 2, h.s 3, h.s 4, h.s 5, h.r 2, h.r 3⟩
  go_region_held (fun X => X.cell? ⟨a, 0, none⟩ = some (.int .i64 t) ∧ X.cell? ⟨a, 1, none⟩ = some (.int .i64 x) ∧ X.cell? ⟨a, 2, none⟩ = some (.int .i64 b) ∧ X.cell? ⟨a, 3, none⟩ = some (.int .i64 y) ∧ X.cell? ⟨a, 4, none⟩ = some (.string d) ∧ X.cell? ⟨a, 5, none⟩ = some (.slice p n c) ∧ X.cell? ⟨a + 1, 2, none⟩ = some (.int .i64 (z + 1)) ∧ X.cell? ⟨a + 1, 3, none⟩ = some (.int .i64 rt))
    (exact HC.out _ (by assumption))
    (first
      | (go_at_call 34; refine (KL.out _ ?_).mono ?_; assumption; rintro e w6 ⟨rfl, hg6⟩)
      | (go_at_call 35; refine (KE.out _ ?_).mono ?_; assumption; rintro e w7 ⟨rfl, hg7⟩))
  obtain ⟨y0, y1, y2, y3, y4, y5, z0, z1, z2, z3, z4, z5, ff, fg, hB, hA⟩ := hg7.all
  have r3 : w7.cell? ⟨a + 1, 3, none⟩ = some (.int .i64 rt) := hg7.r 3
  have r5 : w7.cell? ⟨a + 1, 5, none⟩ = some (.string rd) := hg7.r 5
  have HB : Hid _ := hB
  have HA : Hid _ := hA
  have HSrc : Hid (Src Try.prog 2 43 (.slice p n c) n (entCells l) w7) := EntR.src (EntR.below HE.out hB)
  have HG7 : Hid (F3 w w7 a #[.int .i64 t, .int .i64 x, .int .i64 b, .int .i64 y, .string d, .slice p n c] #[.int .i64 rg, .int .i64 2, .int .i64 (z + 1), .int .i64 rt, .int .i64 rv, .string rd] #[.int .i64 0, .int .i64 0, .int .i64 0, .int .i64 0, .string ⟨#[]⟩, .slice none 0 0]) := hg7
  have hn1 : Hid ((0 + n) * 24 ≤ 140737488355328) := by show _ ≤ _; omega
  have hn2 : Hid (0 + n ≤ maxLen) := by unfold maxLen; show _ ≤ _; omega
  clear hg6 hg7 hB hA KL KE HC h3 HLs HEs
  go_wp2_with (at_builtin; refine wpList_append_row rfl (.tmp 43) (.tmp 45) 43 43 75 rfl Try.underlying43 _ 2 24 infoEnt rfl (.slice none 0 0) 0 [] rfl (RowV.nil _ _ _ _) (.slice p n c) n (entCells l) rfl HSrc.out hn1.out hn2.out ?qnext)
  case qnext =>
    intro v1 w8 ho hg hloc
    have hb8 : Below w7.heap.size w7 w8 := (Below.refl _ w7).grown hg (Nat.le_refl _) (by intro k hk; simp [rowBlk] at hk)
    have HG8 : Hid (F3 w w8 a #[.int .i64 t, .int .i64 x, .int .i64 b, .int .i64 y, .string d, .slice p n c] #[.int .i64 rg, .int .i64 2, .int .i64 (z + 1), .int .i64 rt, .int .i64 rv, .string rd] #[.int .i64 0, .int .i64 0, .int .i64 0, .int .i64 0, .string ⟨#[]⟩, .slice none 0 0]) := HG7.out.below hb8
    have HR8 : Hid (RowV w8 75 2 v1 n (entCells l)) := by simpa [Hid] using ho
    have HK8 : Hid (∀ k, rowBlk v1 = some k → a + 1 + 1 < k) := by
      intro k hk
      have := HG7.out.lt
      rcases hloc k hk with q | q
      · simp [rowBlk] at q
      · omega
    obtain ⟨p1, c1, hv1, _⟩ := HR8.out.form
    subst hv1
    clear ho hg hloc hb8 HG7 HSrc hn1 hn2 y0 y1 y2 y3 y4 y5 z0 z1 z2 z3 z4 z5 ff fg r3 r5 HB HA
    obtain ⟨y0, y1, y2, y3, y4, y5, z0, z1, z2, z3, z4, z5, ff, fg, hB, hA⟩ := HG8.out.all
    have r3 : w8.cell? ⟨a + 1, 3, none⟩ = some (.int .i64 rt) := HG8.out.r 3
    have r5 : w8.cell? ⟨a + 1, 5, none⟩ = some (.string rd) := HG8.out.r 5
    have lt1 : a + 1 < w8.heap.size := by have := HG8.out.lt; omega
    have lt0 : a < w8.heap.size := by have := HG8.out.lt; omega
    have HB : Hid _ := hB
    have HA : Hid _ := hA
    clear hB hA
    have HMa : Hid (RowV (w8.alloc (.cells #[.int .i64 rt, .string rd] 75)) 75 2 (.slice p1 n c1) n (entCells l)) := HR8.out.carry (fun k hk => (below_alloc w8 (.cells #[.int .i64 rt, .string rd] 75)).block k (HR8.out.lt hk))
    have HS2 : Hid (Src Try.prog 2 43 (.slice (some ⟨w8.heap.size, 0, none⟩) 1 1) 1 [.int .i64 rt, .string rd] (w8.alloc (.cells #[.int .i64 rt, .string rd] 75))) := src_new w8 2 43 75 75 Try.underlying43 [.int .i64 rt, .string rd] rfl (by simp [Value.oneCell'])
    have hm1 : Hid ((n + 1) * 24 ≤ 140737488355328) := by show _ ≤ _; omega
    have hm2 : Hid (n + 1 ≤ maxLen) := by unfold maxLen; show _ ≤ _; omega
    go_wp2_with (at_builtin; refine wpList_append_row rfl (.tmp 47) (.tmp 53) 43 43 75 rfl Try.underlying43 _ 2 24 infoEnt rfl (.slice p1 n c1) n (entCells l) rfl HMa.out _ 1 _ rfl HS2.out hm1.out hm2.out ?qn2)
    case qn2 =>
      intro v2 w9 ho hg hloc
      have HG9 : Hid (F3 w w9 a #[.int .i64 t, .int .i64 x, .int .i64 b, .int .i64 y, .string d, .slice p n c] #[.int .i64 rg, .int .i64 2, .int .i64 (z + 1), .int .i64 rt, .int .i64 rv, .string rd] #[.int .i64 0, .int .i64 0, .int .i64 0, .int .i64 0, .string ⟨#[]⟩, .slice none 0 0]) := (HG8.out.below (below_alloc _ _)).grown hg HK8.out
      have HK9 : Hid (∀ k, rowBlk v2 = some k → a + 1 + 1 < k) := by
        intro k hk
        have := HG8.out.lt
        rcases hloc k hk with q | q
        · exact HK8.out k q
        · first | omega | (simp at q; omega)
      have HE9 : Hid (EntR w9 v2 (l ++ [(rt, rd)])) := by
        rw [← entCells_snoc l (rt, rd)] at ho
        refine EntV.read ?_
        unfold EntV
        rw [List.length_append, ← HN.out]
        exact ho
      obtain ⟨p2, c2, hv2, hc2, _⟩ := ho.form
      subst hv2
      have HC2 : Hid (n + 1 ≤ c2) := hc2
      clear ho hg hloc hc2 HMa HS2 hm1 hm2 HR8 HG8 HK8 y0 y1 y2 y3 y4 y5 z0 z1 z2 z3 z4 z5 ff fg r3 r5 HB HA lt1 lt0
      obtain ⟨y0, y1, y2, y3, y4, y5, z0, z1, z2, z3, z4, z5, ff, fg, hB, hA⟩ := HG9.out.all
      have HB : Hid _ := hB
      have HA : Hid _ := hA
      clear hB hA
      go_wp2
      refine bodyPost_ret (v := .tuple #[.agg #[.int .i64 t, .int .i64 x, .int .i64 b, .int .i64 y, .string d, .slice p2 (n + 1) c2], .bool true]) ?qres rfl ?qpost
      case qres => simp [results, Try.results14, go_sem, z0, z1, z2, z3, z4, z5]
      case qpost =>
        have hA := HA.out
        refine HO.out p2 c2 _ (EntR.carry HE9.out (fun k hk => ?_)) (Below.set6 (HB.out.setCell (by exact hA) _) (by omega) _ _ _ _ _ _) (fun q hq => by have := HK9.out q (readBlk_row hq HC2.out); omega)
        have := HK9.out k (readBlk_row hk HC2.out)
        rw [Below.heap_setCell _ _ _ _ (by show k ≠ a + 1 + 1; omega), Below.heap_setCell _ _ _ _ (by show k ≠ a + 1 + 1; omega), Below.heap_setCell _ _ _ _ (by show k ≠ a + 1 + 1; omega), Below.heap_setCell _ _ _ _ (by show k ≠ a + 1 + 1; omega), Below.heap_setCell _ _ _ _ (by show k ≠ a + 1 + 1; omega), Below.heap_setCell _ _ _ _ (by show k ≠ a + 1 + 1; omega), Below.heap_setCell _ _ _ _ (by show k ≠ a; omega)]
end Go.Proofs.Ytpfnkjfbhcffiaa

namespace Go.Proofs.Ytpfnkjfbhcffiaa
open Go.RowKit

theorem EntR.drop {w : World} {p : Option Addr} {n c : Nat} {l : List (Int × ByteArray)} (h : EntR w (.slice p n c) l) {k : Nat} (hk : k ≤ n) {p' : Option Addr} (hp : p' = p ∧ c - k = 0 ∨ ∀ a, p = some a → p' = some (a.add (k * 2))) : EntR w (.slice p' (n - k) (c - k)) (l.drop k) ∧ ∀ q, readBlk (.slice p' (n - k) (c - k)) = some q → readBlk (.slice p n c) = some q := by
  obtain ⟨p0, c0, e, h1, h2, h3⟩ := h
  injection e with e1 e2 e3
  subst e1 e3
  have hl : (l.drop k).length = n - k := by rw [List.length_drop]; omega
  have hz : c - k = 0 → n - k = 0 := by omega
  rcases h3 with e | ⟨g, off, rfl, hc⟩
  · subst e
    have : n = 0 := by simpa using e2
    subst this
    refine ⟨⟨p', c - k, by simp, by simp, by omega, .inl (by simp)⟩, fun q hq => ?_⟩
    rw [Nat.zero_sub] at hq
    cases p' <;> simp [readBlk] at hq
  · by_cases hn : n - k = 0
    · refine ⟨⟨p', c - k, by rw [hl], by omega, by omega, .inl (List.eq_nil_of_length_eq_zero (by omega))⟩, fun q hq => ?_⟩
      rw [hn] at hq
      cases p' <;> simp [readBlk] at hq
    · have hp' : p' = some ⟨g, off + k * 2, none⟩ := by
        rcases hp with ⟨_, e⟩ | e
        · omega
        · rw [e _ rfl]
          simp [Addr.add]
      subst hp'
      refine ⟨⟨_, c - k, by rw [hl], by omega, by omega, .inr ⟨g, off + k * 2, rfl, fun i x hx => ?_⟩⟩, fun q hq => ?_⟩
      · rw [List.getElem?_drop] at hx
        have := hc (k + i) x hx
        rw [show off + (k + i) * 2 = off + k * 2 + i * 2 by omega] at this
        exact this
      · obtain ⟨m, hm⟩ : ∃ m, n - k = m + 1 := ⟨n - k - 1, by omega⟩
        rw [hm] at hq
        obtain ⟨m', hm'⟩ : ∃ m', n = m' + 1 := ⟨n - 1, by omega⟩
        rw [hm']
        exact hq

/-- What base answers. -/
def BaseOut (w : World) (s : W.Sv) (v : Value) (r : W.Rec) (e : Ending) (w' : World) : Prop :=
  ∃ v', e = .returned (savV (W.doBase s r) v') ∧ EntR w' v' (W.doBase s r).ents ∧ Below w.heap.size w w' ∧ ∀ q, readBlk v' = some q → readBlk v = some q ∨ w.heap.size ≤ q

set_option maxHeartbeats 1600000 in
theorem refBase_no {w : World} {s : W.Sv} {v : Value} (h : EntR w v s.ents) (ok : W.Ok s) (r : W.Rec) (hi : r.index ≤ 1099511627776) (hf : W.last s < r.index) : Calls Try.prog 36 #[savV s v, recV r] w (BaseOut w s v r) := by
  have HO : Hid (∀ u, Below w.heap.size w u → BaseOut w s v r (.returned (.agg #[.int .i64 s.term, .int .i64 s.vote, .int .i64 r.index, .int .i64 r.term, .string r.data, .slice none 0 0])) u) := by
    intro u hu
    have e1 : W.stays s r = false := by unfold W.stays; rw [decide_eq_false (by omega), Bool.false_and]
    unfold BaseOut W.doBase
    rw [e1]
    exact ⟨.slice none 0 0, rfl, ⟨none, 0, rfl, Nat.le_refl _, by unfold maxLen; omega, .inl rfl⟩, hu, fun q hq => by simp [readBlk] at hq⟩
  generalize BaseOut w s v r = Q at HO ⊢
  obtain ⟨p, c, hv, hc1, hc2, hc3⟩ := h
  have k1 := ok.base
  unfold W.last at hf
  unfold savV recV
  rw [hv]
  obtain ⟨n, hn⟩ : ∃ n, n = s.ents.length := ⟨_, rfl⟩
  rw [← hn] at hf ⊢
  obtain ⟨t, x, b, y, d, l⟩ := s
  obtain ⟨rg, rk, ri, rt, rv, rd⟩ := r
  dsimp only at hi hf k1 HO ⊢
  obtain ⟨k, hk⟩ : ∃ k : Nat, ri - b = (k : Int) := ⟨(ri - b).toNat, by omega⟩
  have hw1 : IntKind.i64.wrap (ri - b) = (k : Int) := by rw [wraps_i64 _ (by omega) (by rw [pow63]; omega)]; omega
  have t1 : ((k : Int) == 0) = false := by simp; omega
  have t2 : 0 < k := by omega
  have t3 : ¬ k ≤ n := by omega
  clear hn hv ok hc1 hc2 hc3 k1 hi hf hk
  go_enter Try.func36, Try.ntmps36
  go_wp2
  go_quiet (fail)
  obtain ⟨u, a, hu, ha, h3⟩ : ∃ u a, u = (((w.alloc (.cells #[.int .i64 t, .int .i64 x, .int .i64 b, .int .i64 y, .string d, .slice p n c] 45)).alloc (.cells #[.int .i64 rg, .int .i64 rk, .int .i64 ri, .int .i64 rt, .int .i64 rv, .string rd] 37)).alloc (.cells #[.int .i64 0, .int .i64 0, .int .i64 0, .int .i64 0, .string ⟨#[]⟩, .slice none 0 0] 45)).drewN nq ∧ a = w.heap.size ∧ F3 w u a #[.int .i64 t, .int .i64 x, .int .i64 b, .int .i64 y, .string d, .slice p n c] #[.int .i64 rg, .int .i64 rk, .int .i64 ri, .int .i64 rt, .int .i64 rv, .string rd] #[.int .i64 0, .int .i64 0, .int .i64 0, .int .i64 0, .string ⟨#[]⟩, .slice none 0 0] :=
    ⟨_, _, rfl, rfl, (F3.start w _ _ _ _ _ _).below (below_drewN _ _)⟩
  rw [← hu, ← ha]
  clear hu ha
  obtain ⟨y0, y1, y2, y3, y4, y5, z0, z1, z2, z3, z4, z5, ff, fg, hB, hA⟩ := h3.all
  have r2 : u.cell? ⟨a + 1, 2, none⟩ = some (.int .i64 ri) := h3.r 2
  have r3 : u.cell? ⟨a + 1, 3, none⟩ = some (.int .i64 rt) := h3.r 3
  have r5 : u.cell? ⟨a + 1, 5, none⟩ = some (.string rd) := h3.r 5
  have HB : Hid _ := hB
  have HA : Hid _ := hA
  clear hB hA h3 t1 t2 t3 hw1
  go_wp2
  refine bodyPost_ret (v := .agg #[.int .i64 t, .int .i64 x, .int .i64 ri, .int .i64 rt, .string rd, .slice none 0 0]) ?qres rfl ?qpost
  case qres => simp [results, Try.results36, go_sem, z0, z1, z2, z3, z4, z5]
  case qpost =>
    have hA := HA.out
    exact HO.out _ (Below.set6 ((((HB.out.setCell (p := ⟨a, 5, none⟩) hA _).setCell (p := ⟨a, 2, none⟩) hA _).setCell (p := ⟨a, 3, none⟩) hA _).setCell (p := ⟨a, 4, none⟩) hA _) (by omega) _ _ _ _ _ _)

set_option maxHeartbeats 1600000 in
theorem refBase_zero {w : World} {s : W.Sv} {v : Value} (h : EntR w v s.ents) (ok : W.Ok s) (r : W.Rec) (hi : r.index ≤ 1099511627776) (hf : r.index = s.base) (hy : r.term ≠ s.bterm) : Calls Try.prog 36 #[savV s v, recV r] w (BaseOut w s v r) := by
  have HO : Hid (∀ u, Below w.heap.size w u → BaseOut w s v r (.returned (.agg #[.int .i64 s.term, .int .i64 s.vote, .int .i64 r.index, .int .i64 r.term, .string r.data, .slice none 0 0])) u) := by
    intro u hu
    have e1 : W.stays s r = false := by unfold W.stays W.termAt; rw [if_pos hf]; simp [hy]
    unfold BaseOut W.doBase
    rw [e1]
    exact ⟨.slice none 0 0, rfl, ⟨none, 0, rfl, Nat.le_refl _, by unfold maxLen; omega, .inl rfl⟩, hu, fun q hq => by simp [readBlk] at hq⟩
  generalize BaseOut w s v r = Q at HO ⊢
  obtain ⟨p, c, hv, hc1, hc2, hc3⟩ := h
  have k1 := ok.base
  unfold savV recV
  rw [hv]
  obtain ⟨n, hn⟩ : ∃ n, n = s.ents.length := ⟨_, rfl⟩
  rw [← hn]
  obtain ⟨t, x, b, y, d, l⟩ := s
  obtain ⟨rg, rk, ri, rt, rv, rd⟩ := r
  dsimp only at hi hf hy k1 HO ⊢
  subst hf
  have hw1 : IntKind.i64.wrap (ri - ri) = 0 := by rw [Int.sub_self]; rfl
  have t1 : (rt == y) = false := by simpa using hy
  clear hn hv ok hc1 hc2 hc3 k1 hi hy
  go_enter Try.func36, Try.ntmps36
  go_wp2
  go_quiet (fail)
  obtain ⟨u, a, hu, ha, h3⟩ : ∃ u a, u = (((w.alloc (.cells #[.int .i64 t, .int .i64 x, .int .i64 ri, .int .i64 y, .string d, .slice p n c] 45)).alloc (.cells #[.int .i64 rg, .int .i64 rk, .int .i64 ri, .int .i64 rt, .int .i64 rv, .string rd] 37)).alloc (.cells #[.int .i64 0, .int .i64 0, .int .i64 0, .int .i64 0, .string ⟨#[]⟩, .slice none 0 0] 45)).drewN nq ∧ a = w.heap.size ∧ F3 w u a #[.int .i64 t, .int .i64 x, .int .i64 ri, .int .i64 y, .string d, .slice p n c] #[.int .i64 rg, .int .i64 rk, .int .i64 ri, .int .i64 rt, .int .i64 rv, .string rd] #[.int .i64 0, .int .i64 0, .int .i64 0, .int .i64 0, .string ⟨#[]⟩, .slice none 0 0] :=
    ⟨_, _, rfl, rfl, (F3.start w _ _ _ _ _ _).below (below_drewN _ _)⟩
  rw [← hu, ← ha]
  clear hu ha
  obtain ⟨y0, y1, y2, y3, y4, y5, z0, z1, z2, z3, z4, z5, ff, fg, hB, hA⟩ := h3.all
  have r2 : u.cell? ⟨a + 1, 2, none⟩ = some (.int .i64 ri) := h3.r 2
  have r3 : u.cell? ⟨a + 1, 3, none⟩ = some (.int .i64 rt) := h3.r 3
  have r5 : u.cell? ⟨a + 1, 5, none⟩ = some (.string rd) := h3.r 5
  have HB : Hid _ := hB
  have HA : Hid _ := hA
  clear hB hA h3 t1 hw1
  go_wp2
  refine bodyPost_ret (v := .agg #[.int .i64 t, .int .i64 x, .int .i64 ri, .int .i64 rt, .string rd, .slice none 0 0]) ?qres rfl ?qpost
  case qres => simp [results, Try.results36, go_sem, z0, z1, z2, z3, z4, z5]
  case qpost =>
    have hA := HA.out
    exact HO.out _ (Below.set6 ((((HB.out.setCell (p := ⟨a, 5, none⟩) hA _).setCell (p := ⟨a, 2, none⟩) hA _).setCell (p := ⟨a, 3, none⟩) hA _).setCell (p := ⟨a, 4, none⟩) hA _) (by omega) _ _ _ _ _ _)

set_option maxHeartbeats 1600000 in
theorem refBase_at {w : World} {s : W.Sv} {v : Value} (h : EntR w v s.ents) (ok : W.Ok s) (r : W.Rec) (hi : r.index ≤ 1099511627776) (m : Nat) (hf : r.index = s.base + (m : Int) + 1) (e : Int × ByteArray) (he : s.ents[m]? = some e) (hy : e.1 ≠ r.term) : Calls Try.prog 36 #[savV s v, recV r] w (BaseOut w s v r) := by
  have HO : Hid (∀ u, Below w.heap.size w u → BaseOut w s v r (.returned (.agg #[.int .i64 s.term, .int .i64 s.vote, .int .i64 r.index, .int .i64 r.term, .string r.data, .slice none 0 0])) u) := by
    intro u hu
    have e1 : W.stays s r = false := by
      unfold W.stays W.termAt
      rw [if_neg (by omega), show (r.index - s.base - 1).toNat = m by omega, he]
      simp
      intro _ q
      exact hy q.symm
    unfold BaseOut W.doBase
    rw [e1]
    exact ⟨.slice none 0 0, rfl, ⟨none, 0, rfl, Nat.le_refl _, by unfold maxLen; omega, .inl rfl⟩, hu, fun q hq => by simp [readBlk] at hq⟩
  generalize BaseOut w s v r = Q at HO ⊢
  obtain ⟨p, c, hv, hc1, hc2, hc3⟩ := h
  have hmn : m < s.ents.length := (List.getElem?_eq_some_iff.1 he).1
  obtain ⟨g, off, hp, hq⟩ : ∃ g off, p = some ⟨g, off, none⟩ ∧ w.cell? ⟨g, off + m * 2, none⟩ = some (.int .i64 e.1) := by
    rcases hc3 with q | ⟨g, off, q1, q2⟩
    · rw [q] at he; simp at he
    · exact ⟨g, off, q1, (q2 m e he).1⟩
  subst hp
  have hg : g < w.heap.size := World.block_lt_of_cell? w ⟨g, off + m * 2, none⟩ hq
  have hg1 : g < w.heap.size + 1 := by omega
  have hg2 : g < w.heap.size + 1 + 1 := by omega
  have k1 := ok.base
  unfold savV recV
  rw [hv]
  obtain ⟨n, hn⟩ : ∃ n, n = s.ents.length := ⟨_, rfl⟩
  rw [← hn] at hmn hc1 ⊢
  obtain ⟨te, de⟩ := e
  obtain ⟨t, x, b, y, d, l⟩ := s
  obtain ⟨rg, rk, ri, rt, rv, rd⟩ := r
  dsimp only at hi hf hy hq k1 HO ⊢
  obtain ⟨k, hk⟩ : ∃ k, k = m + 1 := ⟨_, rfl⟩
  have hw1 : IntKind.i64.wrap (ri - b) = (k : Int) := by rw [wraps_i64 _ (by omega) (by rw [pow63]; omega)]; omega
  have hw2 : IntKind.i64.wrap ((k : Int) - 1) = (m : Int) := by rw [wraps_i64 _ (by omega) (by rw [pow63]; omega)]; omega
  have t1 : ((k : Int) == 0) = false := by simp; omega
  have t2 : 0 < k := by omega
  have t3 : k ≤ n := by omega
  have t4 : (te == rt) = false := by simpa using hy
  have hm0 : (0 : Int) ≤ (m : Int) := by omega
  have hm1 : (m : Int) < (n : Int) := by omega
  clear hn hv ok hc1 hc2 hc3 k1 hi hf hy he hmn hk
  go_enter Try.func36, Try.ntmps36
  go_wp2
  go_quiet (fail)
  obtain ⟨u, a, hu, ha, h3⟩ : ∃ u a, u = (((w.alloc (.cells #[.int .i64 t, .int .i64 x, .int .i64 b, .int .i64 y, .string d, .slice (some ⟨g, off, none⟩) n c] 45)).alloc (.cells #[.int .i64 rg, .int .i64 rk, .int .i64 ri, .int .i64 rt, .int .i64 rv, .string rd] 37)).alloc (.cells #[.int .i64 0, .int .i64 0, .int .i64 0, .int .i64 0, .string ⟨#[]⟩, .slice none 0 0] 45)).drewN nq ∧ a = w.heap.size ∧ F3 w u a #[.int .i64 t, .int .i64 x, .int .i64 b, .int .i64 y, .string d, .slice (some ⟨g, off, none⟩) n c] #[.int .i64 rg, .int .i64 rk, .int .i64 ri, .int .i64 rt, .int .i64 rv, .string rd] #[.int .i64 0, .int .i64 0, .int .i64 0, .int .i64 0, .string ⟨#[]⟩, .slice none 0 0] :=
    ⟨_, _, rfl, rfl, (F3.start w _ _ _ _ _ _).below (below_drewN _ _)⟩
  rw [← hu, ← ha]
  clear hu ha
  obtain ⟨y0, y1, y2, y3, y4, y5, z0, z1, z2, z3, z4, z5, ff, fg, hB, hA⟩ := h3.all
  have r2 : u.cell? ⟨a + 1, 2, none⟩ = some (.int .i64 ri) := h3.r 2
  have r3 : u.cell? ⟨a + 1, 3, none⟩ = some (.int .i64 rt) := h3.r 3
  have r5 : u.cell? ⟨a + 1, 5, none⟩ = some (.string rd) := h3.r 5
  have HB : Hid _ := hB
  have HA : Hid _ := hA
  clear hB hA h3 t1 t2 t3 t4 hw1 hw2 hm0 hm1 hq hg hg1 hg2
  go_wp2
  refine bodyPost_ret (v := .agg #[.int .i64 t, .int .i64 x, .int .i64 ri, .int .i64 rt, .string rd, .slice none 0 0]) ?qres rfl ?qpost
  case qres => simp [results, Try.results36, go_sem, z0, z1, z2, z3, z4, z5]
  case qpost =>
    have hA := HA.out
    exact HO.out _ (Below.set6 ((((HB.out.setCell (p := ⟨a, 5, none⟩) hA _).setCell (p := ⟨a, 2, none⟩) hA _).setCell (p := ⟨a, 3, none⟩) hA _).setCell (p := ⟨a, 4, none⟩) hA _) (by omega) _ _ _ _ _ _)

set_option maxHeartbeats 1600000 in
theorem refBase_keep {w : World} {s : W.Sv} {v : Value} (h : EntR w v s.ents) (ok : W.Ok s) (r : W.Rec) (hi : r.index ≤ 1099511627776) (m : Nat) (hf : r.index = s.base + (m : Int) + 1) (e : Int × ByteArray) (he : s.ents[m]? = some e) (hy : e.1 = r.term) : Calls Try.prog 36 #[savV s v, recV r] w (BaseOut w s v r) := by
  have hmn : m < s.ents.length := (List.getElem?_eq_some_iff.1 he).1
  have HE : Hid (EntR w v s.ents) := h
  obtain ⟨p, c, hv, hc1, hc2, hc3⟩ := h
  obtain ⟨g, off, hp, hq⟩ : ∃ g off, p = some ⟨g, off, none⟩ ∧ w.cell? ⟨g, off + m * 2, none⟩ = some (.int .i64 e.1) := by
    rcases hc3 with q | ⟨g, off, q1, q2⟩
    · rw [q] at he; simp at he
    · exact ⟨g, off, q1, (q2 m e he).1⟩
  subst hp
  have hg : g < w.heap.size := World.block_lt_of_cell? w ⟨g, off + m * 2, none⟩ hq
  have hg1 : g < w.heap.size + 1 := by omega
  have hg2 : g < w.heap.size + 1 + 1 := by omega
  have HO : Hid (∀ p' u, (p' = some ⟨g, off, none⟩ ∧ c - (m + 1) = 0 ∨ p' = some ⟨g, off + (m + 1) * 2, none⟩) → Below w.heap.size w u → BaseOut w s v r (.returned (.agg #[.int .i64 s.term, .int .i64 s.vote, .int .i64 r.index, .int .i64 r.term, .string r.data, .slice p' (s.ents.length - (m + 1)) (c - (m + 1))])) u) := by
    intro p' u hp hu
    have e1 : W.stays s r = true := by
      unfold W.stays W.termAt
      rw [if_neg (by omega), show (r.index - s.base - 1).toNat = m by omega, he]
      simp [hy]
      unfold W.last
      omega
    have hE := HE.out
    rw [hv] at hE
    obtain ⟨q1, q2⟩ := EntR.drop hE (k := m + 1) (p' := p') (by omega) (by
      rcases hp with hp | hp
      · exact .inl hp
      · right
        intro a ha
        injection ha with ha
        rw [hp, ← ha]
        simp [Addr.add])
    unfold BaseOut W.doBase
    rw [e1, if_pos rfl, show (r.index - s.base).toNat = m + 1 by omega]
    refine ⟨_, rfl, EntR.below q1 hu, hu, fun q hq => .inl ?_⟩
    rw [hv]
    exact q2 q hq
  generalize BaseOut w s v r = Q at HO ⊢
  have k1 := ok.base
  unfold savV recV
  rw [hv]
  obtain ⟨n, hn⟩ : ∃ n, n = s.ents.length := ⟨_, rfl⟩
  rw [← hn] at hmn hc1 HO ⊢
  obtain ⟨te, de⟩ := e
  obtain ⟨t, x, b, y, d, l⟩ := s
  obtain ⟨rg, rk, ri, rt, rv, rd⟩ := r
  dsimp only at hi hf hy hq k1 HO ⊢
  obtain ⟨k, hk⟩ : ∃ k, k = m + 1 := ⟨_, rfl⟩
  rw [← hk] at HO
  have hkc : k ≤ c := by omega
  have hcb : c < 9223372036854775808 := by unfold maxLen at hc2; omega
  have hk0 : (0 : Int) ≤ (k : Int) := by omega
  have hw1 : IntKind.i64.wrap (ri - b) = (k : Int) := by rw [wraps_i64 _ (by omega) (by rw [pow63]; omega)]; omega
  have hw2 : IntKind.i64.wrap ((k : Int) - 1) = (m : Int) := by rw [wraps_i64 _ (by omega) (by rw [pow63]; omega)]; omega
  have t1 : ((k : Int) == 0) = false := by simp; omega
  have t2 : 0 < k := by omega
  have t3 : k ≤ n := by omega
  have t4 : (te == rt) = true := by simpa using hy
  have hm0 : (0 : Int) ≤ (m : Int) := by omega
  have hm1 : (m : Int) < (n : Int) := by omega
  clear hn hv ok hc1 hc2 hc3 k1 hi hf hy he hmn hk HE
  go_enter Try.func36, Try.ntmps36
  go_wp2
  go_quiet (fail)
  obtain ⟨u, a, hu, ha, h3⟩ : ∃ u a, u = (((w.alloc (.cells #[.int .i64 t, .int .i64 x, .int .i64 b, .int .i64 y, .string d, .slice (some ⟨g, off, none⟩) n c] 45)).alloc (.cells #[.int .i64 rg, .int .i64 rk, .int .i64 ri, .int .i64 rt, .int .i64 rv, .string rd] 37)).alloc (.cells #[.int .i64 0, .int .i64 0, .int .i64 0, .int .i64 0, .string ⟨#[]⟩, .slice none 0 0] 45)).drewN nq ∧ a = w.heap.size ∧ F3 w u a #[.int .i64 t, .int .i64 x, .int .i64 b, .int .i64 y, .string d, .slice (some ⟨g, off, none⟩) n c] #[.int .i64 rg, .int .i64 rk, .int .i64 ri, .int .i64 rt, .int .i64 rv, .string rd] #[.int .i64 0, .int .i64 0, .int .i64 0, .int .i64 0, .string ⟨#[]⟩, .slice none 0 0] :=
    ⟨_, _, rfl, rfl, (F3.start w _ _ _ _ _ _).below (below_drewN _ _)⟩
  rw [← hu, ← ha]
  clear hu ha
  obtain ⟨y0, y1, y2, y3, y4, y5, z0, z1, z2, z3, z4, z5, ff, fg, hB, hA⟩ := h3.all
  have r2 : u.cell? ⟨a + 1, 2, none⟩ = some (.int .i64 ri) := h3.r 2
  have r3 : u.cell? ⟨a + 1, 3, none⟩ = some (.int .i64 rt) := h3.r 3
  have r5 : u.cell? ⟨a + 1, 5, none⟩ = some (.string rd) := h3.r 5
  have HB : Hid _ := hB
  have HA : Hid _ := hA
  clear hB hA h3 t1 t4 hw1 hw2 hm0 hm1 hq hg hg1 hg2
  go_wp2
  case inl =>
    have e0 : c - k = 0 := by omega
    rw [e0] at HO
    refine bodyPost_ret (v := .agg #[.int .i64 t, .int .i64 x, .int .i64 ri, .int .i64 rt, .string rd, .slice (some ⟨g, off, none⟩) (n - k) 0]) (by simp [results, Try.results36, go_sem, z0, z1, z2, z3, z4, z5]) rfl ?_
    exact HO.out _ _ (.inl ⟨rfl, rfl⟩) (Below.set6 ((((HB.out.setCell (p := ⟨a, 5, none⟩) HA.out _).setCell (p := ⟨a, 2, none⟩) HA.out _).setCell (p := ⟨a, 3, none⟩) HA.out _).setCell (p := ⟨a, 4, none⟩) HA.out _) (by have := HA.out; omega) _ _ _ _ _ _)
  case inr =>
    refine bodyPost_ret (v := .agg #[.int .i64 t, .int .i64 x, .int .i64 ri, .int .i64 rt, .string rd, .slice (some ⟨g, off + k * 2, none⟩) (n - k) (c - k)]) (by simp [results, Try.results36, go_sem, z0, z1, z2, z3, z4, z5]) rfl ?_
    exact HO.out _ _ (.inr rfl) (Below.set6 ((((HB.out.setCell (p := ⟨a, 5, none⟩) HA.out _).setCell (p := ⟨a, 2, none⟩) HA.out _).setCell (p := ⟨a, 3, none⟩) HA.out _).setCell (p := ⟨a, 4, none⟩) HA.out _) (by have := HA.out; omega) _ _ _ _ _ _)

end Go.Proofs.Ytpfnkjfbhcffiaa

namespace Go.Proofs.Ytpfnkjfbhcffiaa
open Go.RowKit

/-- What nine groups' records make lies in block g. -/
structure AllV (w : World) (v : Value) (g : Nat) (S : Nat → W.Sv) (E : Nat → Value) : Prop where
  form : ∃ c, v = .slice (some ⟨g, 0, none⟩) 9 c ∧ 9 ≤ c ∧ c ≤ maxLen
  lt : g < w.heap.size
  cell : ∀ i, i < 9 → w.cell? ⟨g, i * 6, none⟩ = some (.int .i64 (S i).term) ∧ w.cell? ⟨g, i * 6 + 1, none⟩ = some (.int .i64 (S i).vote) ∧ w.cell? ⟨g, i * 6 + 2, none⟩ = some (.int .i64 (S i).base) ∧ w.cell? ⟨g, i * 6 + 3, none⟩ = some (.int .i64 (S i).bterm) ∧ w.cell? ⟨g, i * 6 + 4, none⟩ = some (.string (S i).data) ∧ w.cell? ⟨g, i * 6 + 5, none⟩ = some (E i)
  ent : ∀ i, i < 9 → EntR w (E i) (S i).ents
  sep : ∀ i, i < 9 → readBlk (E i) ≠ some g
  free : ∀ j, w.frozen? ⟨g, j, none⟩ = false

theorem AllV.below {w w' : World} {v : Value} {g : Nat} {S : Nat → W.Sv} {E : Nat → Value} (h : AllV w v g S E) (hb : Below w.heap.size w w') : AllV w' v g S E := by
  have hc : ∀ j, w'.cell? ⟨g, j, none⟩ = w.cell? ⟨g, j, none⟩ := fun j => hb.cell (p := ⟨g, j, none⟩) h.lt
  refine ⟨h.form, Nat.lt_of_lt_of_le h.lt hb.size, fun i hi => ?_, fun i hi => EntR.below (h.ent i hi) hb, h.sep, fun j => (hb.frozen (p := ⟨g, j, none⟩) h.lt).trans (h.free j)⟩
  rw [hc, hc, hc, hc, hc, hc]
  exact h.cell i hi

/-- What told answers. -/
def ToldOut (w : World) (s : St) (S : Nat → W.Sv) (e : Ending) (w' : World) : Prop := ∃ b, e = .returned (.bool b) ∧ ((∀ i, i < 9 → s.gs i = S i) → b = true) ∧ Below w.heap.size w w'

set_option maxHeartbeats 1600000 in
set_option maxRecDepth 20000 in
theorem told_c {w : World} {p : Pl} {s : St} {own : Nat → Prop} (h : Lg w p s own) {v : Value} {g : Nat} {S : Nat → W.Sv} {E : Nat → Value} (ha : AllV w v g S E) :
    Calls Try.prog 19 #[.pointer (some ⟨p.L, 0, none⟩), v] w (ToldOut w s S) := by
  have HO0 : Hid (∀ u i, i < 9 → s.gs i ≠ S i → Below w.heap.size w u → ToldOut w s S (.returned (.bool false)) u) := fun u i hi hne hu => ⟨false, rfl, fun hx => absurd (hx i hi) hne, hu⟩
  have HO1 : Hid (∀ u, Below w.heap.size w u → ToldOut w s S (.returned (.bool true)) u) := fun u hu => ⟨true, rfl, fun _ => rfl, hu⟩
  generalize ToldOut w s S = Q at HO0 HO1 ⊢
  have HL : Hid (∀ u, Below w.heap.size w u → Lg u p s own) := fun u hu => h.below hu
  have HV : Hid (∀ u, Below w.heap.size w u → AllV u v g S E) := fun u hu => ha.below hu
  obtain ⟨c, hv, hc1, hc2⟩ := ha.form
  subst hv
  obtain ⟨L, hL⟩ : ∃ L, L = p.L := ⟨_, rfl⟩
  have HS : Hid (∀ u i, i < 9 → Below w.heap.size w u → Calls Try.prog 21 #[.pointer (some ⟨L, 0, none⟩), .int .i64 ((i : Nat) : Int)] u fun e w' => ∃ pa ca, e = .returned (.tuple #[.agg #[.int .i64 (s.gs i).term, .int .i64 (s.gs i).vote, .int .i64 (s.gs i).base, .int .i64 (s.gs i).bterm, .string (s.gs i).data, .slice pa (s.gs i).ents.length ca], .int .i64 0]) ∧ EntR w' (.slice pa (s.gs i).ents.length ca) (s.gs i).ents ∧ Below u.heap.size u w') := by
    intro u i hi hu
    rw [hL]
    refine (Saved_c (HL.out u hu) i hi).mono ?_
    rintro e w' ⟨v', rfl, h4, h5, _⟩
    obtain ⟨pa, ca, hv, _⟩ := RowV.form h4
    subst hv
    exact ⟨pa, ca, rfl, h4.read, h5⟩
  have HN : Hid (∀ u (j : Int), W.isGroup j = false → Below w.heap.size w u → Calls Try.prog 21 #[.pointer (some ⟨L, 0, none⟩), .int .i64 j] u fun e w' => e = .returned (.tuple #[.agg #[.int .i64 0, .int .i64 0, .int .i64 0, .int .i64 0, .string ⟨#[]⟩, .slice none 0 0], .int .i64 1]) ∧ Below u.heap.size u w') := fun u j hj hu => by rw [hL]; exact Saved_no (HL.out u hu) j hj
  rw [← hL]
  have hcb : c < 9223372036854775808 := by unfold maxLen at hc2; omega
  clear h ha hc2 hL HL
  go_enter Try.func19, Try.ntmps19
  go_wp2
  go_loopw [5] (fun x wr => ∃ (i : Nat), x = .int .i64 (i : Int) ∧ i ≤ 9 ∧ Hid (Below w.heap.size w wr)) (fun x _ => 9 - (intOf x).toNat)
  case atStart => exact ⟨0, rfl, by omega, Below.refl _ _⟩
  case round =>
    obtain ⟨i, rfl, hi, HB⟩ := hrel
    by_cases hlt : i < 9
    · have hi0 : (0 : Int) ≤ (i : Int) := by omega
      have hi9 : (i : Int) < 9 := by omega
      have HSi : Hid _ := HS.out wr i hlt HB.out
      obtain ⟨sv, hsv⟩ : ∃ sv, sv = s.gs i := ⟨_, rfl⟩
      rw [← hsv] at HSi
      have HSV : Hid (sv = s.gs i) := hsv
      clear hsv
      obtain ⟨t, vt, bs, bt, dd, en⟩ := sv
      dsimp only at HSi
      obtain ⟨ne, hne⟩ : ∃ ne, ne = en.length := ⟨_, rfl⟩
      rw [← hne] at HSi
      have HNE : Hid (ne = en.length) := hne
      clear hne
      go_wp2_with fail
      refine Calls.mono HSi.out ?_
      rintro e w3 ⟨pa, ca, rfl, he3, hb3⟩
      have HE3 : Hid (EntR w3 (.slice pa ne ca) en) := he3
      have HB3 : Hid (Below w.heap.size w w3) := HB.out.trans (hb3.mono HB.out.size)
      have hav := HV.out w3 HB3.out
      have cl := hav.cell i hlt
      have HEi : Hid (EntR w3 (E i) (S i).ents) := hav.ent i hlt
      have g3 := hav.lt
      obtain ⟨sw, hsw⟩ : ∃ sw, sw = S i := ⟨_, rfl⟩
      have HSW : Hid (sw = S i) := hsw
      rw [← hsw] at cl HEi
      obtain ⟨t2, vt2, bs2, bt2, dd2, en2⟩ := sw
      dsimp only at cl HEi
      obtain ⟨c0, c1, c2, c3, c4, c5⟩ := cl
      obtain ⟨pb, cb, hEi, _⟩ := HEi.out
      obtain ⟨nf, hnf⟩ : ∃ nf, nf = en2.length := ⟨_, rfl⟩
      rw [← hnf] at hEi
      rw [hEi] at c5 HEi
      clear hsw hnf hav he3 hb3 hEi
      go_wp2_with fail
      obtain ⟨u, hu⟩ : ∃ u, u = w3.alloc (.cells #[.int .i64 t, .int .i64 vt, .int .i64 bs, .int .i64 bt, .string dd, .slice pa ne ca] 45) := ⟨_, rfl⟩
      obtain ⟨bx, hbx⟩ : ∃ bx, bx = w3.heap.size := ⟨_, rfl⟩
      rw [← hu, ← hbx]
      obtain ⟨bb, hbb⟩ : ∃ bb, bb = svSame ⟨t, vt, bs, bt, dd, en⟩ ⟨t2, vt2, bs2, bt2, dd2, en2⟩ := ⟨_, rfl⟩
      have HBB : Hid (bb = svSame ⟨t, vt, bs, bt, dd, en⟩ ⟨t2, vt2, bs2, bt2, dd2, en2⟩) := hbb
      obtain ⟨R, hR0, hC, hM, hBl⟩ : ∃ R : World → Prop, R u.drew ∧ (∀ X, R X → X.cell? ⟨bx, 0, none⟩ = some (.int .i64 t) ∧ X.cell? ⟨bx, 1, none⟩ = some (.int .i64 vt) ∧ X.cell? ⟨bx, 2, none⟩ = some (.int .i64 bs) ∧ X.cell? ⟨bx, 3, none⟩ = some (.int .i64 bt) ∧ X.cell? ⟨bx, 4, none⟩ = some (.string dd) ∧ X.cell? ⟨bx, 5, none⟩ = some (.slice pa ne ca) ∧ X.cell? ⟨g, i * 6, none⟩ = some (.int .i64 t2) ∧ X.cell? ⟨g, i * 6 + 1, none⟩ = some (.int .i64 vt2) ∧ X.cell? ⟨g, i * 6 + 2, none⟩ = some (.int .i64 bs2) ∧ X.cell? ⟨g, i * 6 + 3, none⟩ = some (.int .i64 bt2) ∧ X.cell? ⟨g, i * 6 + 4, none⟩ = some (.string dd2) ∧ X.cell? ⟨g, i * 6 + 5, none⟩ = some (.slice pb nf cb)) ∧
          (∀ X, R X → Calls Try.prog 40 #[.agg #[.int .i64 t, .int .i64 vt, .int .i64 bs, .int .i64 bt, .string dd, .slice pa ne ca], .agg #[.int .i64 t2, .int .i64 vt2, .int .i64 bs2, .int .i64 bt2, .string dd2, .slice pb nf cb]] X fun e w' => e = .returned (.bool bb) ∧ R w') ∧ (∀ X, R X → Below w.heap.size w X) := by
        have hwu : Below w3.heap.size w3 u.drew := by rw [hu]; exact (below_alloc _ _).drew
        have hus : u.drew.heap.size = w3.heap.size + 1 := by rw [hu]; simp
        have ub : ∀ j, u.drew.cell? ⟨bx, j, none⟩ = (#[.int .i64 t, .int .i64 vt, .int .i64 bs, .int .i64 bt, .string dd, .slice pa ne ca] : Array Value)[j]? := by intro j; rw [hu, hbx]; exact World.cell?_alloc_mark w3 _ _ _ j
        refine ⟨fun X => Below u.drew.heap.size u.drew X, Below.refl _ _, fun X hX => ?_, fun X hX => ?_, fun X hX => ?_⟩
        · have q1 : ∀ j, X.cell? ⟨bx, j, none⟩ = u.drew.cell? ⟨bx, j, none⟩ := fun j => hX.cell (p := ⟨bx, j, none⟩) (by show bx < _; omega)
          have q2 : ∀ j, X.cell? ⟨g, j, none⟩ = w3.cell? ⟨g, j, none⟩ := fun j => (hX.cell (p := ⟨g, j, none⟩) (by show g < _; omega)).trans (hwu.cell (p := ⟨g, j, none⟩) g3)
          rw [q1, q1, q1, q1, q1, q1, q2, q2, q2, q2, q2, q2]
          exact ⟨ub 0, ub 1, ub 2, ub 3, ub 4, ub 5, c0, c1, c2, c3, c4, c5⟩
        · have hx : Below w3.heap.size w3 X := hwu.trans (hX.mono hwu.size)
          have := Same_c (w := X) (a := ⟨t, vt, bs, bt, dd, en⟩) (b := ⟨t2, vt2, bs2, bt2, dd2, en2⟩) (EntR.below HE3.out hx) (EntR.below HEi.out hx)
          rw [← hbb] at this
          refine Calls.mono this ?_
          rintro e w' ⟨rfl, hb⟩
          exact ⟨rfl, hX.trans (hb.mono hX.size)⟩
        · exact HB3.out.trans ((hwu.trans (hX.mono hwu.size)).mono HB3.out.size)
      have KM : Hid _ := hM
      have KC : Hid _ := hC
      have KB : Hid _ := hBl
      clear hM hC hBl hu hbx hbb c0 c1 c2 c3 c4 c5 g3
      cases bb
      case false =>
        go_region_held (fun X => X.cell? ⟨bx, 0, none⟩ = some (.int .i64 t) ∧ X.cell? ⟨bx, 1, none⟩ = some (.int .i64 vt) ∧ X.cell? ⟨bx, 2, none⟩ = some (.int .i64 bs) ∧ X.cell? ⟨bx, 3, none⟩ = some (.int .i64 bt) ∧ X.cell? ⟨bx, 4, none⟩ = some (.string dd) ∧ X.cell? ⟨bx, 5, none⟩ = some (.slice pa ne ca) ∧ X.cell? ⟨g, i * 6, none⟩ = some (.int .i64 t2) ∧ X.cell? ⟨g, i * 6 + 1, none⟩ = some (.int .i64 vt2) ∧ X.cell? ⟨g, i * 6 + 2, none⟩ = some (.int .i64 bs2) ∧ X.cell? ⟨g, i * 6 + 3, none⟩ = some (.int .i64 bt2) ∧ X.cell? ⟨g, i * 6 + 4, none⟩ = some (.string dd2) ∧ X.cell? ⟨g, i * 6 + 5, none⟩ = some (.slice pb nf cb))
          (exact KC.out _ (by assumption))
          (first | (go_at_call 40; refine (KM.out _ ?_).mono ?_; assumption; rintro e w6 ⟨rfl, hg6⟩))
        have HB6 : Hid _ := KB.out _ hg6
        clear hg6 KM KC KB hR0
        go_wp2
        refine HO0.out _ i hlt (fun e => ?_) HB6.out
        rw [← HSV.out, ← HSW.out] at e
        have := HBB.out
        rw [svSame_iff.2 e] at this
        cases this
      case true =>
        go_region_held (fun X => X.cell? ⟨bx, 0, none⟩ = some (.int .i64 t) ∧ X.cell? ⟨bx, 1, none⟩ = some (.int .i64 vt) ∧ X.cell? ⟨bx, 2, none⟩ = some (.int .i64 bs) ∧ X.cell? ⟨bx, 3, none⟩ = some (.int .i64 bt) ∧ X.cell? ⟨bx, 4, none⟩ = some (.string dd) ∧ X.cell? ⟨bx, 5, none⟩ = some (.slice pa ne ca) ∧ X.cell? ⟨g, i * 6, none⟩ = some (.int .i64 t2) ∧ X.cell? ⟨g, i * 6 + 1, none⟩ = some (.int .i64 vt2) ∧ X.cell? ⟨g, i * 6 + 2, none⟩ = some (.int .i64 bs2) ∧ X.cell? ⟨g, i * 6 + 3, none⟩ = some (.int .i64 bt2) ∧ X.cell? ⟨g, i * 6 + 4, none⟩ = some (.string dd2) ∧ X.cell? ⟨g, i * 6 + 5, none⟩ = some (.slice pb nf cb))
          (exact KC.out _ (by assumption))
          (first | (go_at_call 40; refine (KM.out _ ?_).mono ?_; assumption; rintro e w6 ⟨rfl, hg6⟩))
        have HB6 : Hid _ := KB.out _ hg6
        clear hg6 KM KC KB hR0
        go_wp2
        go_roundw
        case rel => exact ⟨i + 1, by go_num, by omega, HB6⟩
        case measure => simp [intOf]; omega
    · obtain rfl : i = 9 := by omega
      have HN9 : Hid _ := HN.out wr 9 (by decide) HB.out
      go_wp2_with fail
      refine Calls.mono HN9.out ?_
      rintro e w3 ⟨rfl, hb3⟩
      have HB3 : Hid (Below w.heap.size w w3) := HB.out.trans (hb3.mono HB.out.size)
      have HN1 : Hid (∀ o, Calls Try.prog 21 #[.pointer (some ⟨L, 0, none⟩), .int .i64 (-1)] (w3.alloc o) fun e w' => e = .returned (.tuple #[.agg #[.int .i64 0, .int .i64 0, .int .i64 0, .int .i64 0, .string ⟨#[]⟩, .slice none 0 0], .int .i64 1]) ∧ Below w.heap.size w w') := by
        intro o
        have hb : Below w.heap.size w (w3.alloc o) := HB3.out.trans ((below_alloc _ _).mono HB3.out.size)
        refine (HN.out (w3.alloc o) (-1) (by decide) hb).mono ?_
        rintro e w' ⟨rfl, h⟩
        exact ⟨rfl, hb.trans (h.mono hb.size)⟩
      clear hb3
      go_wp2_with fail
      refine Calls.mono (HN1.out _) ?_
      rintro e w4 ⟨rfl, hb4⟩
      have HB4 : Hid _ := hb4
      clear hb4
      go_wp2
      exact HO1.out _ (HB4.out.trans ((below_alloc _ _).mono HB4.out.size))

end Go.Proofs.Ytpfnkjfbhcffiaa

namespace Go.Proofs.Ytpfnkjfbhcffiaa
open Go.RowKit

/-- The cells of what no records make, so many times. -/
def nwCells : Nat → List Value
  | 0 => []
  | k + 1 => nwCells k ++ [.int .i64 0, .int .i64 (-1), .int .i64 0, .int .i64 0, .string ⟨#[]⟩, .slice none 0 0]
theorem nwCells_len : ∀ k, (nwCells k).length = k * 6
  | 0 => rfl
  | k + 1 => by rw [nwCells, List.length_append, nwCells_len k]; simp; omega
theorem nwCells_at : ∀ k i j, i < k → j < 6 → (nwCells k)[i * 6 + j]? = ([.int .i64 0, .int .i64 (-1), .int .i64 0, .int .i64 0, .string ⟨#[]⟩, .slice none 0 0] : List Value)[j]?
  | 0, i, j, h, _ => by omega
  | k + 1, i, j, h, hj => by
    rw [nwCells]
    by_cases e : i = k
    · subst e
      rw [List.getElem?_append_right (by rw [nwCells_len]; omega), nwCells_len]
      congr 1
      omega
    · rw [List.getElem?_append_left (by rw [nwCells_len]; omega)]
      exact nwCells_at k i j (by omega) hj

theorem infoSav : (Try.prog.info? 45).map (fun i => (i.zero, i.size, i.bytes)) = some (some (.agg #[.int .i64 0, .int .i64 0, .int .i64 0, .int .i64 0, .string ⟨#[]⟩, .slice none 0 0]), 6, 72) := by kernel_rfl

set_option maxHeartbeats 800000 in
set_option maxRecDepth 20000 in
theorem All_none (w : World) : Calls Try.prog 10 #[.slice none 0 0] w fun e w' => ∃ v g, e = .returned v ∧ AllV w' v g (fun _ => W.new) (fun _ => .slice none 0 0) ∧ w.heap.size ≤ g ∧ Below w.heap.size w w' := by
  have HN : Hid (∀ u, Calls Try.prog 26 #[] u fun e w' => e = .returned (.agg #[.int .i64 0, .int .i64 (-1), .int .i64 0, .int .i64 0, .string ⟨#[]⟩, .slice none 0 0]) ∧ Below u.heap.size u w') := refNew_c
  go_enter Try.func10, Try.ntmps10
  go_wp2
  go_loopw [3, 4] (fun ov x wr => ∃ (k : Nat) (q : Option Addr) (c : Nat), x = .int .i64 (k : Int) ∧ k ≤ 9 ∧ ov = .slice q k c ∧ Hid (RowV wr 45 6 (.slice q k c) k (nwCells k)) ∧ Hid (Below w.heap.size w wr) ∧ Hid (∀ z, rowBlk (.slice q k c) = some z → w.heap.size ≤ z)) (fun _ x _ => 9 - (intOf x).toNat)
  case atStart => exact ⟨0, none, 0, rfl, by omega, rfl, RowV.nil _ _ _ _, Below.refl _ _, fun z hz => by simp [rowBlk] at hz⟩
  case round =>
    obtain ⟨k, q, c, rfl, hk, rfl, HR, HB, HK⟩ := hrel
    by_cases hlt : k < 9
    · have hk1 : (k : Int) < 9 := by omega
      go_wp2_with fail
      refine Calls.mono (HN.out _) ?_
      rintro e w1 ⟨rfl, hb1⟩
      have hba : Below wr.heap.size wr (w1.alloc (.cells #[.int .i64 0, .int .i64 (-1), .int .i64 0, .int .i64 0, .string ⟨#[]⟩, .slice none 0 0] 45)) := hb1.trans ((below_alloc _ _).mono hb1.size)
      have HBa : Hid (Below w.heap.size w (w1.alloc (.cells #[.int .i64 0, .int .i64 (-1), .int .i64 0, .int .i64 0, .string ⟨#[]⟩, .slice none 0 0] 45))) := HB.out.trans (hba.mono HB.out.size)
      have HRa : Hid (RowV (w1.alloc (.cells #[.int .i64 0, .int .i64 (-1), .int .i64 0, .int .i64 0, .string ⟨#[]⟩, .slice none 0 0] 45)) 45 6 (.slice q k c) k (nwCells k)) := HR.out.carry (fun z hz => hba.block z (HR.out.lt hz))
      have HSrc : Hid (Src Try.prog 6 34 (.slice (some ⟨w1.heap.size, 0, none⟩) 1 1) 1 [.int .i64 0, .int .i64 (-1), .int .i64 0, .int .i64 0, .string ⟨#[]⟩, .slice none 0 0] (w1.alloc (.cells #[.int .i64 0, .int .i64 (-1), .int .i64 0, .int .i64 0, .string ⟨#[]⟩, .slice none 0 0] 45))) := src_new w1 6 34 45 45 Try.underlying34 [.int .i64 0, .int .i64 (-1), .int .i64 0, .int .i64 0, .string ⟨#[]⟩, .slice none 0 0] rfl (by simp [Value.oneCell'])
      have hmx : Hid (k + 1 ≤ maxLen) := by unfold maxLen; show _ ≤ _; omega
      clear hb1 hba HR HB
      go_wp2_with (at_builtin; refine wpList_append_row rfl (.tmp 10) (.tmp 12) 34 34 45 rfl Try.underlying34 _ 6 72 infoSav rfl (.slice q k c) k (nwCells k) rfl HRa.out _ 1 _ rfl HSrc.out (by omega) hmx.out ?qnext)
      case qnext =>
        intro v' w4 ho hg hl
        have HR4 : Hid (RowV w4 45 6 v' (k + 1) (nwCells (k + 1))) := ho
        have HB4 : Hid (Below w.heap.size w w4) := HBa.out.grown hg HBa.out.size HK.out
        have HK4 : Hid (∀ z, rowBlk v' = some z → w.heap.size ≤ z) := by
          intro z hz
          rcases hl z hz with e | e
          · exact HK.out z e
          · have := HBa.out.size
            have e' : (w1.alloc (.cells #[.int .i64 0, .int .i64 (-1), .int .i64 0, .int .i64 0, .string ⟨#[]⟩, .slice none 0 0] 45)).heap.size ≤ z := by simpa using e
            omega
        obtain ⟨q', c4, hv', _⟩ := ho.form
        subst hv'
        clear ho hg hl HBa HRa HSrc hmx HK
        go_wp2
        go_roundw
        case rel => exact ⟨k + 1, q', c4, by go_num, by omega, rfl, HR4, HB4, HK4⟩
        case measure => simp [intOf]; omega
    · obtain rfl : k = 9 := by omega
      have HX : Hid (∃ g, AllV wr (.slice q 9 c) g (fun _ => W.new) (fun _ => .slice none 0 0) ∧ w.heap.size ≤ g) := by
        have hr := HR.out
        obtain ⟨g, c', hv, hrb, h1, h2, hc⟩ := hr.cells (by omega)
        injection hv with e1 e2 e3
        subst e1 e3
        have hz : ∀ i j, i < 9 → j < 6 → wr.cell? ⟨g, i * 6 + j, none⟩ = ([.int .i64 0, .int .i64 (-1), .int .i64 0, .int .i64 0, .string ⟨#[]⟩, .slice none 0 0] : List Value)[j]? := fun i j hi hj => by rw [hc _ (by omega)]; exact nwCells_at 9 i j hi hj
        refine ⟨g, ⟨⟨c, rfl, h1, h2⟩, hr.lt hrb, fun i hi => ⟨hz i 0 hi (by omega), hz i 1 hi (by omega), hz i 2 hi (by omega), hz i 3 hi (by omega), hz i 4 hi (by omega), hz i 5 hi (by omega)⟩, fun i hi => ⟨none, 0, rfl, Nat.le_refl _, by unfold maxLen; omega, .inl rfl⟩, fun i hi => by simp [readBlk], fun j => ?_⟩, HK.out g hrb⟩
        obtain ⟨_, ⟨e, _⟩ | ⟨g', cap, cur, e1, e2, _⟩⟩ := hr
        · omega
        · injection e1 with e1
          injection e1 with e1
          injection e1 with e1
          subst e1
          simp [World.frozen?, e2]
      clear HR HK
      go_wp2
      go_loopw [5] (fun x wr' => x = .int .i64 0 ∧ wr' = wr) (fun _ _ => 0)
      case atStart => exact ⟨rfl, rfl⟩
      case round =>
        obtain ⟨rfl, rfl⟩ := hrel
        go_wp2
        go_ret
        obtain ⟨g, h1, h2⟩ := HX.out
        exact ⟨_, g, rfl, h1, h2, HB.out⟩

end Go.Proofs.Ytpfnkjfbhcffiaa

namespace Go.Proofs.Ytpfnkjfbhcffiaa
open Go.RowKit

/-- Six cells in a row are set. -/
def set6 (w : World) (g o : Nat) (u0 u1 u2 u3 u4 u5 : Value) : World := (((((w.setCell ⟨g, o, none⟩ u0).setCell ⟨g, o + 1, none⟩ u1).setCell ⟨g, o + 2, none⟩ u2).setCell ⟨g, o + 3, none⟩ u3).setCell ⟨g, o + 4, none⟩ u4).setCell ⟨g, o + 5, none⟩ u5

theorem sc_other (w : World) (g a b : Nat) (v : Value) (h : a ≠ b) : (w.setCell ⟨g, a, none⟩ v).cell? ⟨g, b, none⟩ = w.cell? ⟨g, b, none⟩ := by
  apply World.cell?_setCell_other
  intro e
  injection e with e1 e2
  exact h e2
theorem sc_same (w : World) (g a : Nat) (v : Value) {u : Value} (h : w.cell? ⟨g, a, none⟩ = some u) : (w.setCell ⟨g, a, none⟩ v).cell? ⟨g, a, none⟩ = some v := by
  apply World.cell?_setCell_same
  exact h

theorem set6_out {w : World} {g o : Nat} {u0 u1 u2 u3 u4 u5 : Value} (q : Nat) (h : q < o ∨ o + 6 ≤ q) : (set6 w g o u0 u1 u2 u3 u4 u5).cell? ⟨g, q, none⟩ = w.cell? ⟨g, q, none⟩ := by
  unfold set6
  rw [sc_other _ _ _ _ _ (by omega), sc_other _ _ _ _ _ (by omega), sc_other _ _ _ _ _ (by omega), sc_other _ _ _ _ _ (by omega), sc_other _ _ _ _ _ (by omega), sc_other _ _ _ _ _ (by omega)]

theorem set6_heap {w : World} {g o : Nat} {u0 u1 u2 u3 u4 u5 : Value} {k : Nat} (h : k ≠ g) : (set6 w g o u0 u1 u2 u3 u4 u5).heap[k]? = w.heap[k]? := by
  unfold set6
  rw [Below.heap_setCell _ _ _ _ h, Below.heap_setCell _ _ _ _ h, Below.heap_setCell _ _ _ _ h, Below.heap_setCell _ _ _ _ h, Below.heap_setCell _ _ _ _ h, Below.heap_setCell _ _ _ _ h]

theorem set6_size {w : World} {g o : Nat} {u0 u1 u2 u3 u4 u5 : Value} : (set6 w g o u0 u1 u2 u3 u4 u5).heap.size = w.heap.size := by
  unfold set6
  simp [World.setCell]

theorem set6_in {w : World} {g o : Nat} {u0 u1 u2 u3 u4 u5 x0 x1 x2 x3 x4 x5 : Value} (h0 : w.cell? ⟨g, o, none⟩ = some x0) (h1 : w.cell? ⟨g, o + 1, none⟩ = some x1) (h2 : w.cell? ⟨g, o + 2, none⟩ = some x2) (h3 : w.cell? ⟨g, o + 3, none⟩ = some x3) (h4 : w.cell? ⟨g, o + 4, none⟩ = some x4) (h5 : w.cell? ⟨g, o + 5, none⟩ = some x5) :
    (set6 w g o u0 u1 u2 u3 u4 u5).cell? ⟨g, o, none⟩ = some u0 ∧ (set6 w g o u0 u1 u2 u3 u4 u5).cell? ⟨g, o + 1, none⟩ = some u1 ∧ (set6 w g o u0 u1 u2 u3 u4 u5).cell? ⟨g, o + 2, none⟩ = some u2 ∧ (set6 w g o u0 u1 u2 u3 u4 u5).cell? ⟨g, o + 3, none⟩ = some u3 ∧ (set6 w g o u0 u1 u2 u3 u4 u5).cell? ⟨g, o + 4, none⟩ = some u4 ∧ (set6 w g o u0 u1 u2 u3 u4 u5).cell? ⟨g, o + 5, none⟩ = some u5 := by
  unfold set6
  refine ⟨?_, ?_, ?_, ?_, ?_, ?_⟩
  · rw [sc_other _ _ _ _ _ (by omega), sc_other _ _ _ _ _ (by omega), sc_other _ _ _ _ _ (by omega), sc_other _ _ _ _ _ (by omega), sc_other _ _ _ _ _ (by omega)]
    exact sc_same _ _ _ _ h0
  · rw [sc_other _ _ _ _ _ (by omega), sc_other _ _ _ _ _ (by omega), sc_other _ _ _ _ _ (by omega), sc_other _ _ _ _ _ (by omega)]
    exact sc_same _ _ _ _ (u := x1) (by rw [sc_other _ _ _ _ _ (by omega)]; exact h1)
  · rw [sc_other _ _ _ _ _ (by omega), sc_other _ _ _ _ _ (by omega), sc_other _ _ _ _ _ (by omega)]
    exact sc_same _ _ _ _ (u := x2) (by rw [sc_other _ _ _ _ _ (by omega), sc_other _ _ _ _ _ (by omega)]; exact h2)
  · rw [sc_other _ _ _ _ _ (by omega), sc_other _ _ _ _ _ (by omega)]
    exact sc_same _ _ _ _ (u := x3) (by rw [sc_other _ _ _ _ _ (by omega), sc_other _ _ _ _ _ (by omega), sc_other _ _ _ _ _ (by omega)]; exact h3)
  · rw [sc_other _ _ _ _ _ (by omega)]
    exact sc_same _ _ _ _ (u := x4) (by rw [sc_other _ _ _ _ _ (by omega), sc_other _ _ _ _ _ (by omega), sc_other _ _ _ _ _ (by omega), sc_other _ _ _ _ _ (by omega)]; exact h4)
  · exact sc_same _ _ _ _ (u := x5) (by rw [sc_other _ _ _ _ _ (by omega), sc_other _ _ _ _ _ (by omega), sc_other _ _ _ _ _ (by omega), sc_other _ _ _ _ _ (by omega), sc_other _ _ _ _ _ (by omega)]; exact h5)

theorem AllV.put {w : World} {v : Value} {g : Nat} {S : Nat → W.Sv} {E : Nat → Value} (h : AllV w v g S E) {i : Nat} (hi : i < 9) {s : W.Sv} {e : Value} (he : EntR w e s.ents) (hs : readBlk e ≠ some g) :
    AllV (set6 w g (i * 6) (.int .i64 s.term) (.int .i64 s.vote) (.int .i64 s.base) (.int .i64 s.bterm) (.string s.data) e) v g (upd S i s) (upd E i e) := by
  have hent : ∀ e' l, EntR w e' l → readBlk e' ≠ some g → EntR (set6 w g (i * 6) (.int .i64 s.term) (.int .i64 s.vote) (.int .i64 s.base) (.int .i64 s.bterm) (.string s.data) e) e' l := by
    intro e' l h1 h2
    refine h1.carry (fun k hk => set6_heap ?_)
    intro q
    subst q
    exact h2 hk
  refine ⟨h.form, by rw [set6_size]; exact h.lt, fun j hj => ?_, fun j hj => ?_, fun j hj => ?_, fun j => ?_⟩
  · by_cases q : j = i
    · subst q
      rw [upd_same, upd_same]
      obtain ⟨h0, h1, h2, h3, h4, h5⟩ := h.cell j hj
      exact set6_in h0 h1 h2 h3 h4 h5
    · rw [upd_other _ _ q, upd_other _ _ q, set6_out _ (by omega), set6_out _ (by omega), set6_out _ (by omega), set6_out _ (by omega), set6_out _ (by omega), set6_out _ (by omega)]
      exact h.cell j hj
  · by_cases q : j = i
    · subst q
      rw [upd_same, upd_same]
      exact hent _ _ he hs
    · rw [upd_other _ _ q, upd_other _ _ q]
      exact hent _ _ (h.ent j hj) (h.sep j hj)
  · by_cases q : j = i
    · subst q
      rw [upd_same]
      exact hs
    · rw [upd_other _ _ q]
      exact h.sep j hj
  · unfold set6
    simp only [World.frozen?_setCell]
    exact h.free j

end Go.Proofs.Ytpfnkjfbhcffiaa
