/-
  Cut: the closures, what slices.IndexFunc and slices.DeleteFunc do with them.
-/
import Derived.Test.YtpopanfefpehnaaNnTwice
namespace Go.Proofs.Ytpopanfefpehnaa
open Go.RowKit

theorem cut1_c (bt : Nat) (t : Int) (l : Q.Lt) (w : World) (ht : w.cell? ⟨bt, 0, none⟩ = some (.int .i64 t)) :
    Calls Try.prog 71 #[.agg #[.int .i64 l.fr, .int .i64 l.tt, .string l.tx], .pointer (some ⟨bt, 0, none⟩)] w fun e w' => e = .returned (.bool (decide (l.tt = t))) ∧ Below w.heap.size w w' := by
  have ht2 : ∀ o, (w.alloc o).cell? ⟨bt, 0, none⟩ = some (.int .i64 t) := fun o => (Below.cell (below_alloc w o) (World.block_lt_of_cell? _ _ ht)).trans ht
  have hb : ∀ o, Below w.heap.size w (w.alloc o) := fun o => below_alloc w o
  have HB : Hid _ := hb
  obtain ⟨fr, tt, tx⟩ := l
  dsimp only
  clear hb
  by_cases hq : tt = t
  · subst hq
    go_enter Try.func71, Try.ntmps71
    go_wp2
    go_ret
    exact ⟨by simp, HB.out _⟩
  · go_enter Try.func71, Try.ntmps71
    go_wp2
    go_ret
    refine ⟨?_, HB.out _⟩
    have e : decide (tt = t) = false := by simpa using hq
    simp [hq]

theorem cut2_c (bt : Nat) (t a b k : Int) (w : World) (ht : w.cell? ⟨bt, 0, none⟩ = some (.int .i64 t)) :
    Calls Try.prog 73 #[.agg #[.int .i64 a, .int .i64 b], .int .i64 k, .pointer (some ⟨bt, 0, none⟩)] w fun e w' => e = .returned (.bool (decide (b = t))) ∧ Below w.heap.size w w' := by
  have ht2 : ∀ o, (w.alloc o).cell? ⟨bt, 0, none⟩ = some (.int .i64 t) := fun o => (Below.cell (below_alloc w o) (World.block_lt_of_cell? _ _ ht)).trans ht
  have hb : ∀ o, Below w.heap.size w (w.alloc o) := fun o => below_alloc w o
  have HB : Hid _ := hb
  clear hb
  by_cases hq : b = t
  · subst hq
    go_enter Try.func73, Try.ntmps73
    go_wp2
    go_ret
    exact ⟨by simp, HB.out _⟩
  · go_enter Try.func73, Try.ntmps73
    go_wp2
    go_ret
    refine ⟨?_, HB.out _⟩
    simp [hq]

/-- The first that goes to t. -/
def First (ls : List Q.Lt) (t : Int) (r : Int) : Prop := (r = -1 ∧ ∀ l ∈ ls, l.tt ≠ t) ∨ ∃ (k : Nat) (l : Q.Lt), r = (k : Int) ∧ ls[k]? = some l ∧ l.tt = t ∧ ∀ q l', q < k → ls[q]? = some l' → l'.tt ≠ t

/-- The closure of Cut. -/
def clo1 (bt : Nat) : Value := .func (.func 71) #[] #[.pointer (some ⟨bt, 0, none⟩)]

set_option maxHeartbeats 800000 in
theorem IndexFunc_c {w : World} {p : Option Addr} {m c bt : Nat} {ls : List Q.Lt} {t : Int} (h : RowC w 3 (.slice p m c) m (ltCells ls)) (hm : m = ls.length) (hm2 : m ≤ 1099511627776) (ht : w.cell? ⟨bt, 0, none⟩ = some (.int .i64 t)) :
    Calls Try.prog 97 #[.slice p m c, .func (.func 71) #[] #[.pointer (some ⟨bt, 0, none⟩)]] w fun e w' => (∃ r, e = .returned (.int .i64 r) ∧ First ls t r) ∧ Below w.heap.size w w' := by
  have hsz := h.sizes
  have HI : Hid (∀ k, k < m → ∃ l g off, ls[k]? = some l ∧ p = some ⟨g, off, none⟩ ∧ ∀ X, Below w.heap.size w X → X.cell? ⟨g, off + k * 3, none⟩ = some (.int .i64 l.fr) ∧ X.cell? ⟨g, off + k * 3 + 1, none⟩ = some (.int .i64 l.tt) ∧ X.cell? ⟨g, off + k * 3 + 2, none⟩ = some (.string l.tx)) := by
    intro k hk
    obtain ⟨l, hl⟩ : ∃ l, ls[k]? = some l := ⟨_, List.getElem?_eq_getElem (by omega)⟩
    obtain ⟨g, off, c', hv, _, _, _, hC⟩ := h.cells (by omega)
    injection hv with e1 _ _
    obtain ⟨e0, e1', e2⟩ := ltCells_at ls k l hl
    refine ⟨l, g, off, hl, e1, fun X hX => ?_⟩
    have y0 := hC _ _ e0
    have y1 := hC _ _ e1'
    have y2 := hC _ _ e2
    have hg : g < w.heap.size := World.block_lt_of_cell? _ _ y0
    rw [← Nat.add_assoc] at y1 y2
    exact ⟨(hX.cell (p := ⟨g, _, none⟩) hg).trans y0, (hX.cell (p := ⟨g, _, none⟩) hg).trans y1, (hX.cell (p := ⟨g, _, none⟩) hg).trans y2⟩
  have HC : Hid (∀ (X : World) (l : Q.Lt), Below w.heap.size w X → Calls Try.prog 71 #[.agg #[.int .i64 l.fr, .int .i64 l.tt, .string l.tx], .pointer (some ⟨bt, 0, none⟩)] X fun e w' => e = .returned (.bool (decide (l.tt = t))) ∧ Below w.heap.size w w') := by
    intro X l hX
    refine (cut1_c bt t l X ((hX.cell (World.block_lt_of_cell? _ _ ht)).trans ht)).mono ?_
    rintro e w' ⟨rfl, hb⟩
    exact ⟨rfl, hX.trans (hb.mono hX.size)⟩
  have HM : Hid (m = ls.length) := hm
  obtain ⟨hs1, hs2⟩ := hsz
  unfold maxLen at hs2
  clear h hm ht
  go_enter Try.func97, Try.ntmps97
  go_wp2
  go_loopw [8] (fun iv wr => ∃ k : Nat, iv = .int .i64 (k : Int) ∧ k ≤ m ∧ Hid (Below w.heap.size w wr ∧ ∀ q l', q < k → ls[q]? = some l' → l'.tt ≠ t)) (fun iv _ => m - (intOf iv).toNat)
  case atStart => exact ⟨0, rfl, Nat.zero_le _, Below.refl _ _, fun q l' hq => by omega⟩
  case round =>
    obtain ⟨k, rfl, hkm, HV⟩ := hrel
    by_cases hlt : k < m
    · obtain ⟨l, g, off, hl, hp, hX⟩ := HI.out k hlt
      subst hp
      obtain ⟨y0, y1, y2⟩ := hX wr HV.out.1
      have HL : Hid (ls[k]? = some l) := hl
      have hk0 : (0 : Int) ≤ (k : Int) := Int.natCast_nonneg k
      have HCl : Hid _ := HC.out wr l HV.out.1
      obtain ⟨fr, tt, tx⟩ := l
      dsimp only at y0 y1 y2 HCl
      clear hX hl
      by_cases hq : tt = t
      · have e : decide (tt = t) = true := by simpa using hq
        rw [e] at HCl
        have HF : Hid (First ls t (k : Int)) := .inr ⟨k, _, rfl, HL.out, hq, HV.out.2⟩
        clear e hq
        go_wp2_with fail
        refine Calls.mono HCl.out ?_
        rintro e X ⟨rfl, hb⟩
        have HB : Hid _ := hb
        clear hb
        go_wp2
        go_ret
        exact ⟨⟨_, rfl, HF.out⟩, HB.out⟩
      · have e : decide (tt = t) = false := by simpa using hq
        rw [e] at HCl
        have HNx : Hid (∀ q l', q < k + 1 → ls[q]? = some l' → l'.tt ≠ t) := fun q l' hq' hl' => by
          by_cases hqk : q < k
          · exact HV.out.2 q l' hqk hl'
          · have : q = k := by omega
            subst this
            rw [HL.out] at hl'
            injection hl' with hl'
            rw [← hl']
            exact hq
        clear e hq
        go_wp2_with fail
        refine Calls.mono HCl.out ?_
        rintro e X ⟨rfl, hb⟩
        have HB : Hid _ := hb
        clear hb
        go_wp2
        go_roundw
        case rel => exact ⟨k + 1, by go_num, by omega, HB.out, HNx.out⟩
        case measure => simp [intOf]; omega
    · have HF : Hid (First ls t (-1)) := .inl ⟨rfl, fun l hl => by
        obtain ⟨q, hq⟩ := List.getElem?_of_mem hl
        have := (List.getElem?_eq_some_iff.1 hq).1
        exact HV.out.2 q l (by have := HM.out; omega) hq⟩
      obtain rfl : k = m := by omega
      clear hlt hkm
      go_wp2
      go_ret
      exact ⟨⟨_, rfl, HF.out⟩, HV.out.1⟩

/-- The letters that stay, of the first so many. -/
def keepT (ls : List Q.Lt) (t : Int) (j : Nat) : List Q.Lt := Q.cutL (ls.take j) t

theorem keepT_yes {ls : List Q.Lt} {t : Int} {j : Nat} {l : Q.Lt} (hl : ls[j]? = some l) (h : l.tt ≠ t) : keepT ls t (j + 1) = keepT ls t j ++ [l] := by
  unfold keepT Q.cutL
  rw [List.take_add_one, hl, List.filter_append]
  simp [h]
theorem keepT_no {ls : List Q.Lt} {t : Int} {j : Nat} {l : Q.Lt} (hl : ls[j]? = some l) (h : l.tt = t) : keepT ls t (j + 1) = keepT ls t j := by
  unfold keepT Q.cutL
  rw [List.take_add_one, hl, List.filter_append]
  simp [h]
theorem keepT_all (ls : List Q.Lt) (t : Int) : keepT ls t ls.length = Q.cutL ls t := by unfold keepT; rw [List.take_length]
theorem keepT_len (ls : List Q.Lt) (t : Int) (j : Nat) : (keepT ls t j).length ≤ j := by
  unfold keepT Q.cutL
  exact Nat.le_trans (List.length_filter_le _ _) (by rw [List.length_take]; omega)
theorem keepT_id {ls : List Q.Lt} {t : Int} {k : Nat} (h : ∀ q l', q < k → ls[q]? = some l' → l'.tt ≠ t) : keepT ls t k = ls.take k := by
  unfold keepT Q.cutL
  rw [List.filter_eq_self]
  intro l hl
  obtain ⟨q, hq⟩ := List.getElem?_of_mem hl
  rw [List.getElem?_take] at hq
  split at hq
  · rename_i hqk
    simpa using h q l hqk hq
  · cases hq
theorem cutL_id {ls : List Q.Lt} {t : Int} (h : ∀ l ∈ ls, l.tt ≠ t) : Q.cutL ls t = ls := by
  unfold Q.cutL
  rw [List.filter_eq_self]
  intro l hl
  simpa using h l hl

/-- DeleteFunc under way: the first i places hold what stays of the first j. -/
structure Dl (w : World) (g off c : Nat) (ls : List Q.Lt) (t : Int) (bt j : Nat) (X : World) : Prop where
  grown : w.grownBy X (some g)
  room : RoomAt X g off (c * 3)
  kept : ∀ q x, (ltCells (keepT ls t j))[q]? = some x → X.cell? ⟨g, off + q, none⟩ = some x
  rest : ∀ q x, j * 3 ≤ q → (ltCells ls)[q]? = some x → X.cell? ⟨g, off + q, none⟩ = some x
  bt : X.cell? ⟨bt, 0, none⟩ = some (.int .i64 t)

theorem Dl.below {w X Y : World} {g off c : Nat} {ls : List Q.Lt} {t : Int} {bt j : Nat} (h : Dl w g off c ls t bt j X) (hb : Below X.heap.size X Y) (hg : g < w.heap.size) : Dl w g off c ls t bt j Y := by
  have hs := h.grown.size
  have hgX : Y.heap[g]? = X.heap[g]? := hb.block g (by omega)
  exact ⟨⟨hb.os.trans h.grown.os, hb.tape.trans h.grown.tape, hb.output.trans h.grown.output, Nat.le_trans hs hb.size, fun i hi hne => (hb.block i (by omega)).trans (h.grown.block i hi hne)⟩, h.room.carry hgX,
    fun q x hq => (World.cell?_of_block (a := ⟨g, off + q, none⟩) hgX).trans (h.kept q x hq), fun q x hj hq => (World.cell?_of_block (a := ⟨g, off + q, none⟩) hgX).trans (h.rest q x hj hq), (hb.cell (World.block_lt_of_cell? _ _ h.bt)).trans h.bt⟩

/-- One more that goes. -/
theorem Dl.gone {w X : World} {g off c : Nat} {ls : List Q.Lt} {t : Int} {bt j : Nat} {l : Q.Lt} (h : Dl w g off c ls t bt j X) (hl : ls[j]? = some l) (ht : l.tt = t) : Dl w g off c ls t bt (j + 1) X :=
  ⟨h.grown, h.room, by rw [keepT_no hl ht]; exact h.kept, fun q x hj hq => h.rest q x (by omega) hq, h.bt⟩

/-- One more that stays. -/
theorem Dl.stays {w X : World} {g off c : Nat} {ls : List Q.Lt} {t : Int} {bt j i : Nat} {l : Q.Lt} (h : Dl w g off c ls t bt j X) (hl : ls[j]? = some l) (ht : l.tt ≠ t) (hi : i = (keepT ls t j).length) (hij : i < j) (hjc : j < c) (hbg : bt ≠ g) :
    Dl w g off c ls t bt (j + 1) (((X.setCell ⟨g, off + i * 3, none⟩ (.int .i64 l.fr)).setCell ⟨g, off + i * 3 + 1, none⟩ (.int .i64 l.tt)).setCell ⟨g, off + i * 3 + 2, none⟩ (.string l.tx)) := by
  have h0 : ∃ y, X.cell? ⟨g, off + i * 3, none⟩ = some y := Option.isSome_iff_exists.1 (h.room (i * 3) (by omega)).1
  have h1 : ∃ y, X.cell? ⟨g, off + i * 3 + 1, none⟩ = some y := by rw [Nat.add_assoc]; exact Option.isSome_iff_exists.1 (h.room (i * 3 + 1) (by omega)).1
  have h2 : ∃ y, X.cell? ⟨g, off + i * 3 + 2, none⟩ = some y := by rw [Nat.add_assoc]; exact Option.isSome_iff_exists.1 (h.room (i * 3 + 2) (by omega)).1
  obtain ⟨a0, h0⟩ := h0
  obtain ⟨a1, h1⟩ := h1
  obtain ⟨a2, h2⟩ := h2
  have k1 : (X.setCell ⟨g, off + i * 3, none⟩ (.int .i64 l.fr)).cell? ⟨g, off + i * 3 + 1, none⟩ = some a1 := by rw [cell_set6 _ h0, if_neg (by omega)]; exact h1
  have k2 : ((X.setCell ⟨g, off + i * 3, none⟩ (.int .i64 l.fr)).setCell ⟨g, off + i * 3 + 1, none⟩ (.int .i64 l.tt)).cell? ⟨g, off + i * 3 + 2, none⟩ = some a2 := by rw [cell_set6 _ k1, if_neg (by omega), cell_set6 _ h0, if_neg (by omega)]; exact h2
  have hc : ∀ q, (((X.setCell ⟨g, off + i * 3, none⟩ (.int .i64 l.fr)).setCell ⟨g, off + i * 3 + 1, none⟩ (.int .i64 l.tt)).setCell ⟨g, off + i * 3 + 2, none⟩ (.string l.tx)).cell? ⟨g, off + q, none⟩ = if q = i * 3 + 2 then some (.string l.tx) else if q = i * 3 + 1 then some (.int .i64 l.tt) else if q = i * 3 then some (.int .i64 l.fr) else X.cell? ⟨g, off + q, none⟩ := fun q => by
    rw [cell_set6 _ k2]
    by_cases e2 : q = i * 3 + 2
    · rw [if_pos (by omega), if_pos e2]
    · rw [if_neg (by omega), if_neg e2, cell_set6 _ k1]
      by_cases e1 : q = i * 3 + 1
      · rw [if_pos (by omega), if_pos e1]
      · rw [if_neg (by omega), if_neg e1, cell_set6 _ h0]
        by_cases e0 : q = i * 3
        · rw [if_pos (by omega), if_pos e0]
        · rw [if_neg (by omega), if_neg e0]
  have hne : ∀ q, q ≠ g → (((X.setCell ⟨g, off + i * 3, none⟩ (.int .i64 l.fr)).setCell ⟨g, off + i * 3 + 1, none⟩ (.int .i64 l.tt)).setCell ⟨g, off + i * 3 + 2, none⟩ (.string l.tx)).heap[q]? = X.heap[q]? := fun q hq => by
    rw [Below.heap_setCell _ _ _ _ hq, Below.heap_setCell _ _ _ _ hq, Below.heap_setCell _ _ _ _ hq]
  refine ⟨⟨h.grown.os, h.grown.tape, h.grown.output, by rw [size_set6, size_set6, size_set6]; exact h.grown.size, fun q hq hqn => (hne q (fun e => hqn (by rw [e]))).trans (h.grown.block q hq hqn)⟩, fun q hq => ⟨?_, ?_⟩, fun q x hq => ?_, fun q x hj hq => ?_, ?_⟩
  · rw [hc]
    split
    · rfl
    · split
      · rfl
      · split
        · rfl
        · exact (h.room q hq).1
  · rw [World.frozen?_setCell, World.frozen?_setCell, World.frozen?_setCell]
    exact (h.room q hq).2
  · rw [keepT_yes hl ht, ltCells_snoc] at hq
    have hkl : (ltCells (keepT ls t j)).length = i * 3 := by rw [ltCells_len, hi]
    rw [hc]
    by_cases hlt : q < i * 3
    · rw [List.getElem?_append_left (by omega)] at hq
      rw [if_neg (by omega), if_neg (by omega), if_neg (by omega)]
      exact h.kept q x hq
    · rw [List.getElem?_append_right (by omega), hkl] at hq
      have hq3 := (List.getElem?_eq_some_iff.1 hq).1
      simp at hq3
      have : q - i * 3 = 0 ∨ q - i * 3 = 1 ∨ q - i * 3 = 2 := by omega
      rcases this with e | e | e
      · rw [e] at hq
        rw [if_neg (by omega), if_neg (by omega), if_pos (by omega)]
        simpa using hq
      · rw [e] at hq
        rw [if_neg (by omega), if_pos (by omega)]
        simpa using hq
      · rw [e] at hq
        rw [if_pos (by omega)]
        simpa using hq
  · rw [hc, if_neg (by omega), if_neg (by omega), if_neg (by omega)]
    exact h.rest q x (by omega) hq
  · rw [World.cell?_of_block (a := ⟨bt, 0, none⟩) (hne bt hbg)]
    exact h.bt

end Go.Proofs.Ytpopanfefpehnaa
