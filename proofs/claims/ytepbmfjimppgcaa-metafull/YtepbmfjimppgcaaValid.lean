/-
  What Valid does: it tells whether bytes are a text; nothing that was there is changed.
-/
import Derived.Test.YtepbmfjimppgcaaChar
namespace Go.Proofs.Ytepbmfjimppgcaa
open Go.RowKit

/-- A struct of three numbers in a block of its own. -/
def Blk3 (w : World) (g : Nat) (T : TypeId) (x y z : Int) : Prop := w.heap[g]? = some (.cells #[.int .i64 x, .int .i64 y, .int .i64 z] T (0, 0))

theorem Blk3.cells {w : World} {g : Nat} {T : TypeId} {x y z : Int} (h : Blk3 w g T x y z) :
    w.cell? ⟨g, 0, none⟩ = some (.int .i64 x) ∧ w.cell? ⟨g, 1, none⟩ = some (.int .i64 y) ∧ w.cell? ⟨g, 2, none⟩ = some (.int .i64 z) ∧ (∀ j, w.frozen? ⟨g, j, none⟩ = false) ∧ g < w.heap.size := by
  unfold Blk3 at h
  refine ⟨?_, ?_, ?_, ?_, ?_⟩
  · rw [Lib.cell_of_heap h]; rfl
  · rw [Lib.cell_of_heap h]; rfl
  · rw [Lib.cell_of_heap h]; rfl
  · intro j; exact Lib.frozen_of_heap h j
  · rcases Nat.lt_or_ge g w.heap.size with h' | h'
    · exact h'
    · rw [Array.getElem?_eq_none h'] at h; cases h

theorem Blk3.set {w : World} {g : Nat} {T : TypeId} {x y z : Int} (h : Blk3 w g T x y z) (a b c : Int) :
    Blk3 (((w.setCell ⟨g, 0, none⟩ (.int .i64 a)).setCell ⟨g, 1, none⟩ (.int .i64 b)).setCell ⟨g, 2, none⟩ (.int .i64 c)) g T a b c := by
  unfold Blk3 at h ⊢
  simp [World.setCell, Array.getElem?_modify, h]

theorem Blk3.below {w w' : World} {B g : Nat} {T : TypeId} {x y z : Int} (h : Blk3 w g T x y z) (hb : Below B w w') (hg : g < B) : Blk3 w' g T x y z := by
  unfold Blk3 at h ⊢
  rw [hb.block g hg, h]

theorem byteAt (s : ByteArray) (k : Nat) (h : k < s.size) : s.data.toList.drop k = s[k] :: s.data.toList.drop (k + 1) := by
  rw [List.drop_eq_getElem_cons (by simpa using h)]; rfl

theorem mv_step {c : M.Ch} {s : ByteArray} {k : Nat} (h : k < s.size) {r : Bool} (e : M.mValid c (s.data.toList.drop k) = r) (c' : M.Ch)
    (hc : (if c.left = 0 then M.char0 s[k].toNat else M.char1 c s[k].toNat) = some c') : M.mValid c' (s.data.toList.drop (k + 1)) = r := by
  rw [byteAt s k h, M.mValid, hc] at e
  exact e

theorem mv_stop {c : M.Ch} {s : ByteArray} {k : Nat} (h : k < s.size) {r : Bool} (e : M.mValid c (s.data.toList.drop k) = r)
    (hc : (if c.left = 0 then M.char0 s[k].toNat else M.char1 c s[k].toNat) = none) : false = r := by
  rw [byteAt s k h, M.mValid, hc] at e
  exact e

theorem mv_end {c : M.Ch} {s : ByteArray} {k : Nat} (h : ¬ k < s.size) {r : Bool} (e : M.mValid c (s.data.toList.drop k) = r) : ((c.left : Int) == 0) = r := by
  rw [List.drop_of_length_le (by simp; omega), M.mValid] at e
  rw [← e, Bool.eq_iff_iff]
  simp

/-- Is it a text? -/
def valid (s : ByteArray) : Bool := M.mValid ⟨0, 0, 0⟩ s.data.toList

set_option maxHeartbeats 1000000 in
theorem bits_Valid (s : ByteArray) (w : World) (hs : s.size ≤ maxLen) :
    Calls Try.prog 75 #[.string s] w fun e w' => e = .returned (.bool (valid s)) ∧ Below w.heap.size w w' := by
  unfold maxLen at hs
  obtain ⟨r, hr⟩ : ∃ r, r = valid s := ⟨_, rfl⟩
  rw [← hr]
  have HR : Hid (r = valid s) := hr
  clear hr
  go_enter Try.func75, Try.ntmps75
  go_wp2
  go_loopw [8] (fun i wr => ∃ (k : Nat) (c : M.Ch), k ≤ s.size ∧ i = .int .i64 (k : Int) ∧ Blk3 wr w.heap.size 130 c.left c.number c.least ∧ M.Few c ∧ Hid (M.mValid c (s.data.toList.drop k) = r) ∧ Below w.heap.size w wr)
    (fun i _ => s.size - (intOf i).toNat)
  case atStart => exact ⟨0, ⟨0, 0, 0⟩, Nat.zero_le _, rfl, heap_alloc_new w _, M.few0, HR.out.symm, (Below.refl _ _).alloc (Nat.le_refl _) _⟩
  case round =>
    obtain ⟨k, c, hk, rfl, hblk, hfew, he, hb⟩ := hrel
    obtain ⟨hc0, hc1, hc2, hfr, hlt⟩ := hblk.cells
    by_cases hks : k < s.size
    · by_cases hl : c.left = 0
      · have hl' : ((c.left : Int) == 0) = true := by simp [hl]
        have hbt : s[k].toNat < 256 := s[k].toNat_lt
        have hsz := hb.size
        cases hq : M.char0 s[k].toNat with
        | none =>
          have hfin := mv_stop hks he.out (by rw [if_pos hl]; exact hq)
          have HF : Hid (false = r) := hfin
          have HQ : Hid (M.char0 s[k].toNat = none) := hq
          clear hfin hq hl
          go_wp2_with (go_at_call 80; refine (begin_no _ _ hbt HQ.out).mono ?_; rintro e w1 ⟨rfl, hbel⟩; obtain ⟨q0, q1, q2, qf, qlt⟩ := (hblk.below hbel hlt).cells)
          go_ret
          exact ⟨ret_bool HF.out, (((hb.trans (hbel.mono (by omega))).setCell (by simp) _).setCell (by simp) _).setCell (by simp) _⟩
        | some c' =>
          have hfin := mv_step hks he.out c' (by rw [if_pos hl]; exact hq)
          have hfew' := M.few_char0 hq
          have HF : Hid (M.mValid c' (s.data.toList.drop (k + 1)) = r) := hfin
          have HQ : Hid (M.char0 s[k].toNat = some c') := hq
          clear hfin hq hl
          go_wp2_with (go_at_call 80; refine (begin_yes _ _ _ hbt HQ.out).mono ?_; rintro e w1 ⟨rfl, hbel⟩; obtain ⟨q0, q1, q2, qf, qlt⟩ := (hblk.below hbel hlt).cells)
          go_roundw
          case rel => exact ⟨k + 1, c', by omega, by go_num, (hblk.below hbel hlt).set _ _ _, hfew', HF, (((hb.trans (hbel.mono (by omega))).setCell (by simp) _).setCell (by simp) _).setCell (by simp) _⟩
          case measure => simp [intOf]; omega
      · have hl' : ((c.left : Int) == 0) = false := by simp [hl]
        have hbt : s[k].toNat < 256 := s[k].toNat_lt
        have hsz := hb.size
        have hki : (k : Int) < (s.size : Int) := by omega
        have HL : Hid (c.left ≠ 0) := hl
        cases hq : M.char1 c s[k].toNat with
        | none =>
          have hfin := mv_stop hks he.out (by rw [if_neg hl]; exact hq)
          have HF : Hid (false = r) := hfin
          have HQ : Hid (M.char1 c s[k].toNat = none) := hq
          clear hfin hq hl
          go_wp2
          go_region_with (go_at_call 81; refine (next_no _ c _ hbt hfew HL.out HQ.out).mono ?_; rintro e w1 ⟨x, y, z, rfl, hbel⟩; obtain ⟨q0, q1, q2, qf, qlt⟩ := (Blk3.below (w := wr.drew) hblk hbel hlt).cells)
          all_goals go_wp2
          all_goals go_ret
          all_goals exact ⟨ret_bool HF.out, (((hb.drew.trans (hbel.mono (by simp; omega))).setCell (by simp) _).setCell (by simp) _).setCell (by simp) _⟩
        | some c' =>
          have hfin := mv_step hks he.out c' (by rw [if_neg hl]; exact hq)
          have hfew' := M.few_char1 hfew hl hq
          have HF : Hid (M.mValid c' (s.data.toList.drop (k + 1)) = r) := hfin
          have HQ : Hid (M.char1 c s[k].toNat = some c') := hq
          clear hfin hq hl
          go_wp2
          go_region_with (go_at_call 81; refine (next_yes _ c c' _ hbt hfew HL.out HQ.out).mono ?_; rintro e w1 ⟨rfl, hbel⟩; obtain ⟨q0, q1, q2, qf, qlt⟩ := (Blk3.below (w := wr.drew) hblk hbel hlt).cells)
          all_goals go_wp2
          all_goals
            go_roundw
            case rel => exact ⟨k + 1, c', by omega, by go_num, (Blk3.below (w := wr.drew) hblk hbel hlt).set _ _ _, hfew', HF, (((hb.drew.trans (hbel.mono (by simp; omega))).setCell (by simp) _).setCell (by simp) _).setCell (by simp) _⟩
            case measure => simp [intOf]; omega
    · have hl' : ¬ (k : Int) < (s.size : Int) := by omega
      go_wp2
      go_ret
      exact ⟨ret_bool (mv_end hks he.out), hb⟩

end Go.Proofs.Ytepbmfjimppgcaa
