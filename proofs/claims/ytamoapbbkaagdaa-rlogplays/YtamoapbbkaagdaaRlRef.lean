/-
  The document's raft log: lists of entries that are read, and what its calls answer; Same, New, Last, Term.
-/
import Derived.Test.YtamoapbbkaagdaaRlSlice
namespace Go.Proofs.Ytamoapbbkaagdaa
open Go.RowKit

/-- The slice value v reads as a list of entries, wherever it lies. -/
def EntR (w : World) (v : Value) (l : List (Int × ByteArray)) : Prop :=
  ∃ p c, v = .slice p l.length c ∧ l.length ≤ c ∧ c ≤ maxLen ∧ (l = [] ∨ ∃ g off, p = some ⟨g, off, none⟩ ∧ ∀ i e, l[i]? = some e → w.cell? ⟨g, off + i * 2, none⟩ = some (.int .i64 e.1) ∧ w.cell? ⟨g, off + i * 2 + 1, none⟩ = some (.string e.2))

/-- The block that such a list lies in, if it has any entry. -/
def readBlk : Value → Option Nat
  | .slice (some a) (_ + 1) _ => some a.block
  | _ => none

theorem ext6 {a b : ByteArray} (h : a.data.toList = b.data.toList) : a = b := by
  cases a; cases b
  congr 1
  exact Array.ext' h

theorem EntR.carry {w w' : World} {v : Value} {l : List (Int × ByteArray)} (h : EntR w v l) (hk : ∀ k, readBlk v = some k → w'.heap[k]? = w.heap[k]?) : EntR w' v l := by
  obtain ⟨p, c, hv, h1, h2, h3 | ⟨g, off, hp, h4⟩⟩ := h
  · exact ⟨p, c, hv, h1, h2, .inl h3⟩
  · by_cases e : l = []
    · exact ⟨p, c, hv, h1, h2, .inl e⟩
    · have hl : 0 < l.length := List.length_pos_iff.2 e
      obtain ⟨n, hn⟩ : ∃ n, l.length = n + 1 := ⟨l.length - 1, by omega⟩
      have hb := hk g (by rw [hv, hp, hn]; rfl)
      refine ⟨p, c, hv, h1, h2, .inr ⟨g, off, hp, fun i x hx => ?_⟩⟩
      rw [World.cell?_of_block (a := ⟨g, off + i * 2, none⟩) hb, World.cell?_of_block (a := ⟨g, off + i * 2 + 1, none⟩) hb]
      exact h4 i x hx

theorem EntR.lt {w : World} {v : Value} {l : List (Int × ByteArray)} (h : EntR w v l) {k : Nat} (hk : readBlk v = some k) : k < w.heap.size := by
  obtain ⟨p, c, hv, h1, h2, h3 | ⟨g, off, hp, h4⟩⟩ := h
  · rw [hv, h3] at hk
    cases p <;> simp [readBlk] at hk
  · rw [hv, hp] at hk
    cases l with
    | nil => simp [readBlk] at hk
    | cons e l =>
      simp [readBlk] at hk
      subst hk
      have := (h4 0 e rfl).1
      exact World.block_lt_of_cell? w ⟨g, off + 0 * 2, none⟩ this

theorem EntR.below {w w' : World} {v : Value} {l : List (Int × ByteArray)} (h : EntR w v l) (hb : Below w.heap.size w w') : EntR w' v l := h.carry (fun k hk => hb.block k (h.lt hk))

theorem toList_inj {a b : ByteArray} : (a.toList == b.toList) = decide (a = b) := by
  by_cases h : a = b
  · subst h; simp
  · rw [decide_eq_false h]
    rw [beq_eq_false_iff_ne]
    intro e
    rw [ByteArray.toList_eq, ByteArray.toList_eq] at e
    exact h (ext6 e)

set_option maxHeartbeats 800000 in
set_option maxRecDepth 20000 in
theorem entSame_c {w : World} {v1 v2 : Value} {l1 l2 : List (Int × ByteArray)} (h1 : EntR w v1 l1) (h2 : EntR w v2 l2) :
    Calls Try.prog 28 #[v1, v2] w fun e w' => e = .returned (.bool (decide (l1 = l2))) ∧ ∃ m, w' = w.drewN m := by
  obtain ⟨p1, c1, rfl, a1, b1, k1⟩ := h1
  obtain ⟨p2, c2, rfl, a2, b2, k2⟩ := h2
  obtain ⟨n1, hn1⟩ : ∃ n, n = l1.length := ⟨_, rfl⟩
  obtain ⟨n2, hn2⟩ : ∃ n, n = l2.length := ⟨_, rfl⟩
  rw [← hn1] at a1 ⊢
  rw [← hn2] at a2 ⊢
  by_cases hne : n1 = n2
  · subst hne
    have t0 : ((n1 : Int) != (n1 : Int)) = false := by simp
    have HL : Hid (n1 = l1.length ∧ n1 = l2.length) := ⟨hn1, hn2⟩
    have HK1 : Hid _ := k1
    have HK2 : Hid _ := k2
    have hb : n1 < 9223372036854775808 := by unfold maxLen at b1; omega
    clear hn1 hn2 k1 k2 b1 b2
    go_enter Try.func28, Try.ntmps28
    go_wp2
    go_loopw [5] (fun x wr => ∃ (k m : Nat), x = .int .i64 (k : Int) ∧ k ≤ n1 ∧ wr = w.drewN m ∧ Hid (l1.take k = l2.take k)) (fun x _ => n1 - (intOf x).toNat)
    case atStart => exact ⟨0, 0, rfl, Nat.zero_le _, rfl, by show _ = _; rw [List.take_zero, List.take_zero]⟩
    case round =>
      obtain ⟨k, m, rfl, hk, rfl, HE⟩ := hrel
      by_cases hlt : k < n1
      · obtain ⟨e1, x1⟩ : ∃ e, l1[k]? = some e := ⟨_, List.getElem?_eq_getElem (by have := HL.out.1; omega)⟩
        obtain ⟨e2, x2⟩ : ∃ e, l2[k]? = some e := ⟨_, List.getElem?_eq_getElem (by have := HL.out.2; omega)⟩
        obtain ⟨g1, o1, rfl, q1⟩ : ∃ g off, p1 = some ⟨g, off, none⟩ ∧ ∀ i e, l1[i]? = some e → w.cell? ⟨g, off + i * 2, none⟩ = some (.int .i64 e.1) ∧ w.cell? ⟨g, off + i * 2 + 1, none⟩ = some (.string e.2) := by
          rcases HK1.out with q | ⟨g, off, q1, q2⟩
          · rw [q] at x1; simp at x1
          · exact ⟨g, off, q1, q2⟩
        obtain ⟨g2, o2, rfl, q2⟩ : ∃ g off, p2 = some ⟨g, off, none⟩ ∧ ∀ i e, l2[i]? = some e → w.cell? ⟨g, off + i * 2, none⟩ = some (.int .i64 e.1) ∧ w.cell? ⟨g, off + i * 2 + 1, none⟩ = some (.string e.2) := by
          rcases HK2.out with q | ⟨g, off, q1, q2⟩
          · rw [q] at x2; simp at x2
          · exact ⟨g, off, q1, q2⟩
        obtain ⟨y1, y2⟩ := q1 k e1 x1
        obtain ⟨y3, y4⟩ := q2 k e2 x2
        have HX : Hid (l1[k]? = some e1 ∧ l2[k]? = some e2) := ⟨x1, x2⟩
        obtain ⟨t1, d1⟩ := e1
        obtain ⟨t2, d2⟩ := e2
        dsimp only at y1 y2 y3 y4
        clear q1 q2 x1 x2
        have hk0 : (0 : Int) ≤ (k : Int) := by omega
        have hkn : (k : Int) < (n1 : Int) := by omega
        by_cases hs : t1 = t2 ∧ d1 = d2
        · obtain ⟨rfl, rfl⟩ := hs
          go_wp2
          go_quiet (fail)
          go_wp2
          go_roundw
          case rel =>
            refine ⟨k + 1, _, by go_num, by omega, rfl, ?_⟩
            show _ = _
            rw [List.take_add_one, List.take_add_one, HX.out.1, HX.out.2, HE.out]
          case measure => simp [intOf]; omega
        · have HD : Hid (decide (l1 = l2) = false) := by
            refine decide_eq_false (fun e => hs ?_)
            have h1 := HX.out.1
            rw [e, HX.out.2] at h1
            injection h1 with h1
            injection h1 with q1 q2
            exact ⟨q1.symm, q2.symm⟩
          by_cases ht : t1 = t2
          · subst ht
            have t3 : (d1.toList == d2.toList) = false := by rw [toList_inj]; exact decide_eq_false (fun e => hs ⟨rfl, e⟩)
            have t4 : (t1 == t1) = true := by simp
            clear hs
            go_wp2
            go_quiet (fail)
            go_wp2
            go_ret
            exact ⟨by rw [HD.out]; rfl, m + nq, by rw [World.drewN_drewN]⟩
          · have t4 : (t1 == t2) = false := by simpa using ht
            clear hs
            go_wp2
            go_quiet (fail)
            go_wp2
            go_ret
            exact ⟨by rw [HD.out]; rfl, m + nq, by rw [World.drewN_drewN]⟩
      · obtain rfl : k = n1 := by omega
        have e : l1 = l2 := by
          have := HE.out
          rw [List.take_of_length_le (by have := HL.out.1; omega), List.take_of_length_le (by have := HL.out.2; omega)] at this
          exact this
        have HD : Hid (decide (l1 = l2) = true) := decide_eq_true e
        clear e
        go_wp2
        go_ret
        exact ⟨by rw [HD.out]; rfl, _, rfl⟩
  · have t0 : ((n1 : Int) != (n2 : Int)) = true := by simp; omega
    have HD : Hid (decide (l1 = l2) = false) := decide_eq_false (fun e => hne (by rw [hn1, hn2, e]))
    rw [HD.out]
    clear hn1 hn2 k1 k2 b1 b2 HD
    go_enter Try.func28, Try.ntmps28
    go_wp2
    go_ret
    exact ⟨rfl, 0, rfl⟩

theorem EntR.drop {w : World} {p : Option Addr} {n c : Nat} {l : List (Int × ByteArray)} (h : EntR w (.slice p n c) l) {k : Nat} (hk : k ≤ n) {p' : Option Addr} (hp : p' = p ∧ c - k = 0 ∨ ∀ a, p = some a → p' = some (a.add (k * 2))) : EntR w (.slice p' (n - k) (c - k)) (l.drop k) ∧ ∀ q, readBlk (.slice p' (n - k) (c - k)) = some q → readBlk (.slice p n c) = some q := by
  obtain ⟨p0, c0, e, h1, h2, h3⟩ := h
  injection e with e1 e2 e3
  subst e1 e3
  have hl : (l.drop k).length = n - k := by rw [List.length_drop]; omega
  have hz : c - k = 0 → n - k = 0 := by omega
  rcases h3 with e | ⟨g, off, rfl, hc⟩
  · subst e
    have : n = 0 := by simpa using e2
    subst this
    refine ⟨⟨p', c - k, by simp, by simp, by omega, .inl (by simp)⟩, fun q hq => ?_⟩
    rw [Nat.zero_sub] at hq
    cases p' <;> simp [readBlk] at hq
  · by_cases hn : n - k = 0
    · refine ⟨⟨p', c - k, by rw [hl], by omega, by omega, .inl (List.eq_nil_of_length_eq_zero (by omega))⟩, fun q hq => ?_⟩
      rw [hn] at hq
      cases p' <;> simp [readBlk] at hq
    · have hp' : p' = some ⟨g, off + k * 2, none⟩ := by
        rcases hp with ⟨_, e⟩ | e
        · omega
        · rw [e _ rfl]
          simp [Addr.add]
      subst hp'
      refine ⟨⟨_, c - k, by rw [hl], by omega, by omega, .inr ⟨g, off + k * 2, rfl, fun i x hx => ?_⟩⟩, fun q hq => ?_⟩
      · rw [List.getElem?_drop] at hx
        have := hc (k + i) x hx
        rw [show off + (k + i) * 2 = off + k * 2 + i * 2 by omega] at this
        exact this
      · obtain ⟨m, hm⟩ : ∃ m, n - k = m + 1 := ⟨n - k - 1, by omega⟩
        rw [hm] at hq
        obtain ⟨m', hm'⟩ : ∃ m', n = m' + 1 := ⟨n - 1, by omega⟩
        rw [hm']
        exact hq


theorem RowC.read {w : World} {v : Value} {l : List (Int × ByteArray)} (h : RowC w 2 v l.length (entCells l)) : EntR w v l := by
  obtain ⟨p, c, hv, h1, h2⟩ := RowC.form h
  refine ⟨p, c, hv, h1, h2, ?_⟩
  by_cases e : l = []
  · exact .inl e
  · have hl : 0 < l.length := List.length_pos_iff.2 e
    obtain ⟨g, off, c', hv', _, _, _, hc⟩ := RowC.cells h hl
    rw [hv] at hv'
    injection hv' with q
    refine .inr ⟨g, off, q, fun i x hx => ?_⟩
    obtain ⟨e1, e2⟩ := entCells_at l i x hx
    exact ⟨hc _ _ e1, by have := hc _ _ e2; rw [← Nat.add_assoc] at this; exact this⟩

/-- The document's log, as a value. -/
def logV (s : G.L) (v : Value) : Value := .agg #[.int .i64 s.base, .int .i64 s.term, v]

section
variable {w : World} {s : G.L} {v : Value}

theorem rLast_c (h : EntR w v s.ents) (ok : G.Ok s) : Calls Try.prog 30 #[logV s v] w fun e w' => e = .returned (.int .i64 (G.last s)) ∧ Below w.heap.size w w' := by
  obtain ⟨p, c, hv, _, _, _⟩ := h
  have hb := ok.base
  have hl := ok.last
  unfold logV G.last at *
  rw [hv]
  obtain ⟨n, hn⟩ : ∃ n, n = s.ents.length := ⟨_, rfl⟩
  rw [← hn] at hl ⊢
  obtain ⟨b, t, l⟩ := s
  dsimp only at hb hl ⊢
  have hw : IntKind.i64.wrap (b + (n : Int)) = b + (n : Int) := by rw [IntKind.wrap_i64]; omega
  clear hv hn
  go_enter Try.func30, Try.ntmps30
  go_wp2
  go_ret
  exact ⟨rfl, below_alloc _ _⟩

/-- What the document's Term answers. -/
def RTermOut (w : World) (s : G.L) (i : Int) (e : Ending) (w' : World) : Prop := e = .returned (.tuple #[.int .i64 (G.termA s i), .int .i64 (G.termE s i)]) ∧ Below w.heap.size w w'

set_option maxHeartbeats 400000 in
set_option maxRecDepth 20000 in
theorem rTerm_c (h : EntR w v s.ents) (ok : G.Ok s) (i : Int) : Calls Try.prog 25 #[logV s v, .int .i64 i] w (RTermOut w s i) := by
  have hb := ok.base
  have hlen := ok.len
  have HL : Hid (∀ u, Below w.heap.size w u → Calls Try.prog 30 #[logV s v] u fun e w' => e = .returned (.int .i64 (G.last s)) ∧ Below u.heap.size u w') := fun u hu => rLast_c (h.below hu) ok
  have HO : Hid (∀ u, Below w.heap.size w u → RTermOut w s i (.returned (.tuple #[.int .i64 (G.termA s i), .int .i64 (G.termE s i)])) u) := fun u hu => ⟨rfl, hu⟩
  generalize RTermOut w s i = Q at HO ⊢
  unfold G.termA G.termE G.within at HO
  obtain ⟨p, c, hv, hc1, hc2, hc3⟩ := h
  have hlast : G.last s = s.base + (s.ents.length : Int) := rfl
  by_cases c1 : i < s.base
  · rw [if_pos c1, if_neg (by decide)] at HO
    unfold logV
    rw [hv]
    obtain ⟨b, t, l⟩ := s
    dsimp only at *
    clear HL hc3 hc2 hc1 hlast hv hlen hb
    go_enter Try.func25, Try.ntmps25
    go_wp2
    exact HO.out _ (below_alloc _ _)
  · by_cases c2 : G.last s < i
    · rw [if_neg c1, if_pos c2, if_neg (by decide)] at HO
      generalize G.last s = ll at HL c2 HO
      unfold logV at HL ⊢
      rw [hv] at HL ⊢
      obtain ⟨b, t, l⟩ := s
      dsimp only at *
      clear hc3 hc2 hc1 hlast hv hlen hb
      go_enter Try.func25, Try.ntmps25
      go_wp2_with fail
      refine Calls.mono (HL.out _ (below_alloc _ _)) ?_
      rintro e w1 ⟨rfl, hb1⟩
      have HB1 : Hid (Below w.heap.size w w1) := (below_alloc _ _).trans (hb1.mono (below_alloc _ _).size)
      clear hb1
      go_wp2
      exact HO.out _ HB1.out
    · rw [if_neg c1, if_neg c2, if_pos rfl] at HO
      unfold G.termAt at HO
      by_cases c3 : i = s.base
      · rw [if_pos c3] at HO
        generalize G.last s = ll at HL c2 HO hlast
        unfold logV at HL ⊢
        rw [hv] at HL ⊢
        obtain ⟨b, t, l⟩ := s
        dsimp only at *
        have t3 : (i == b) = true := by simpa using c3
        obtain ⟨u, hu⟩ : ∃ u, u = w.alloc (.cells #[.int .i64 b, .int .i64 t, .slice p l.length c] 30) := ⟨_, rfl⟩
        have HU : Hid (Below w.heap.size w u) := by rw [hu]; exact below_alloc w _
        obtain ⟨bx, hbx⟩ : ∃ bx, bx = w.heap.size := ⟨_, rfl⟩
        have hub : ∀ j, u.cell? ⟨bx, j, none⟩ = (#[.int .i64 b, .int .i64 t, .slice p l.length c] : Array Value)[j]? := fun j => by rw [hu, hbx]; exact World.cell?_alloc_mark w _ _ _ j
        have hbu : bx < u.heap.size := by rw [hu, hbx]; simp
        have u0 : u.cell? ⟨bx, 0, none⟩ = some (.int .i64 b) := hub 0
        have u1 : u.cell? ⟨bx, 1, none⟩ = some (.int .i64 t) := hub 1
        have u2 : u.cell? ⟨bx, 2, none⟩ = some (.slice p l.length c) := hub 2
        clear hc3 hc2 hc1 hlast hv hlen hb c3 hub
        go_enter Try.func25, Try.ntmps25
        go_wp2_with fail
        rw [← hu]
        try rw [← hbx]
        clear hu hbx
        refine Calls.mono (HL.out _ HU.out) ?_
        rintro e w1 ⟨rfl, hb1⟩
        have HB1 : Hid (Below w.heap.size w w1) := HU.out.trans (hb1.mono HU.out.size)
        have z0 := (hb1.cell (p := ⟨bx, 0, none⟩) hbu).trans u0
        have z1 := (hb1.cell (p := ⟨bx, 1, none⟩) hbu).trans u1
        clear hb1 u0 u1 u2
        go_wp2
        exact HO.out _ HB1.out
      · rw [if_neg c3] at HO
        obtain ⟨k, hk⟩ : ∃ k : Nat, i - s.base - 1 = (k : Int) := ⟨(i - s.base - 1).toNat, by omega⟩
        have hkl : k < s.ents.length := by omega
        obtain ⟨x, hx⟩ : ∃ x, s.ents[k]? = some x := ⟨_, List.getElem?_eq_getElem hkl⟩
        rw [hk, Int.toNat_natCast, hx] at HO
        obtain ⟨g, off, rfl, hcell⟩ : ∃ g off, p = some ⟨g, off, none⟩ ∧ w.cell? ⟨g, off + k * 2, none⟩ = some (.int .i64 x.1) := by
          rcases hc3 with e | ⟨g, off, e1, e2⟩
          · rw [e] at hx; simp at hx
          · exact ⟨g, off, e1, (e2 k x hx).1⟩
        generalize G.last s = ll at HL c2 HO hlast
        unfold logV at HL ⊢
        rw [hv] at HL ⊢
        obtain ⟨n, hn⟩ : ∃ n, n = s.ents.length := ⟨_, rfl⟩
        rw [← hn] at HL hkl hc1 ⊢
        obtain ⟨b, t, l⟩ := s
        dsimp only at *
        have t3 : (i == b) = false := by simpa using c3
        obtain ⟨u, hu⟩ : ∃ u, u = w.alloc (.cells #[.int .i64 b, .int .i64 t, .slice (some ⟨g, off, none⟩) n c] 30) := ⟨_, rfl⟩
        have HU : Hid (Below w.heap.size w u) := by rw [hu]; exact below_alloc w _
        obtain ⟨bx, hbx⟩ : ∃ bx, bx = w.heap.size := ⟨_, rfl⟩
        have hub : ∀ j, u.cell? ⟨bx, j, none⟩ = (#[.int .i64 b, .int .i64 t, .slice (some ⟨g, off, none⟩) n c] : Array Value)[j]? := fun j => by rw [hu, hbx]; exact World.cell?_alloc_mark w _ _ _ j
        have hbu : bx < u.heap.size := by rw [hu, hbx]; simp
        have u0 : u.cell? ⟨bx, 0, none⟩ = some (.int .i64 b) := hub 0
        have u1 : u.cell? ⟨bx, 1, none⟩ = some (.int .i64 t) := hub 1
        have u2 : u.cell? ⟨bx, 2, none⟩ = some (.slice (some ⟨g, off, none⟩) n c) := hub 2
        have hgl : g < w.heap.size := World.block_lt_of_cell? _ _ hcell
        have hgu : g < u.heap.size := Nat.lt_of_lt_of_le hgl HU.out.size
        have u3 : u.cell? ⟨g, off + k * 2, none⟩ = some (.int .i64 x.1) := (HU.out.cell (p := ⟨g, off + k * 2, none⟩) hgl).trans hcell
        have HQ : Hid (wrap64 (i - b) = ((k + 1 : Nat) : Int) ∧ wrap64 (((k + 1 : Nat) : Int) - 1) = (k : Int)) := ⟨w64 _ (by omega) (by omega), w64 _ (by omega) (by omega)⟩
        have hk0 : (0 : Int) ≤ (k : Int) := by omega
        have hk1 : (k : Int) < (n : Int) := by omega
        clear hc3 hc2 hc1 hlast hv hlen hb c3 hub hcell hx hn hk hgl
        obtain ⟨x1, x2⟩ := x
        dsimp only at u3 HO
        obtain ⟨kp, hkp⟩ : ∃ kp, kp = k + 1 := ⟨_, rfl⟩
        rw [← hkp] at HQ
        clear hkp
        go_enter Try.func25, Try.ntmps25
        go_wp2_with fail
        rw [← hu]
        try rw [← hbx]
        clear hu hbx
        refine Calls.mono (HL.out _ HU.out) ?_
        rintro e w1 ⟨rfl, hb1⟩
        have HB1 : Hid (Below w.heap.size w w1) := HU.out.trans (hb1.mono HU.out.size)
        have z0 := (hb1.cell (p := ⟨bx, 0, none⟩) hbu).trans u0
        have z2 := (hb1.cell (p := ⟨bx, 2, none⟩) hbu).trans u2
        have z3 := (hb1.cell (p := ⟨g, off + k * 2, none⟩) hgu).trans u3
        clear hb1 u0 u1 u2 u3
        obtain ⟨q1, q2⟩ := HQ.out
        go_wp2
        exact HO.out _ HB1.out

end
end Go.Proofs.Ytamoapbbkaagdaa
