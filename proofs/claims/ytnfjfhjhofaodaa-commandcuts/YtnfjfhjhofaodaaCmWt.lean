/-
  walkTruth, where fields go into bytes.
-/
import Derived.Test.YtnfjfhjhofaodaaCmFd
namespace Go.Proofs.Ytnfjfhjhofaodaa
open Go.RowKit

def wrV (B : Nat) : Value := .iface 91 (.pointer (some ⟨B, 0, none⟩))

theorem m_wnum (a : Addr) (w : World) : (method 273 91 (.pointer (some a)) "rookery/command.number").run Try.prog w = .ok (90, .pointer (some a)) w := by kernel_rfl
theorem m_wtext (a : Addr) (w : World) : (method 273 91 (.pointer (some a)) "rookery/command.text").run Try.prog w = .ok (91, .pointer (some a)) w := by kernel_rfl

/-- A cell that is written what it holds: nothing turns. -/
theorem setCell_same {w : World} {b o : Nat} {v : Value} (h : w.cell? ⟨b, o, none⟩ = some v) : w.setCell ⟨b, o, none⟩ v = w := by
  have hh : (w.setCell ⟨b, o, none⟩ v).heap = w.heap := by
    apply Array.ext_getElem?
    intro i
    by_cases e : i = b
    · subst e
      cases hb : w.heap[i]? with
      | none =>
        unfold World.setCell
        simp only [Array.getElem?_modify, if_true, hb, Option.map_none]
      | some x =>
        cases x with
        | cells c el f =>
          have h' : c[o]? = some v := by
            have : w.cell? ⟨i, o, none⟩ = c[o]? := by
              unfold World.cell?
              simp [hb]
            rw [← this]; exact h
          unfold World.setCell
          simp only [Array.getElem?_modify, if_true, hb, Option.map_some, Option.isSome_none, Bool.false_eq_true, if_false]
          congr 2
          apply Array.ext_getElem?
          intro j
          rw [Array.getElem?_setIfInBounds]
          split
          · rename_i ej
            subst ej
            split
            · exact h'.symm
            · rename_i hlt
              rw [Array.getElem?_eq_none (by omega)]
          · rfl
        | _ =>
          unfold World.setCell
          simp only [Array.getElem?_modify, if_true, hb, Option.map_some]
    · exact Below.heap_setCell _ _ _ _ e
  have e2 : w.setCell ⟨b, o, none⟩ v = { w with heap := (w.setCell ⟨b, o, none⟩ v).heap } := rfl
  rw [e2, hh]

set_option maxHeartbeats 1000000 in
set_option maxRecDepth 100000 in
theorem walkTruth_w {w : World} {B : Nat} {g : Option Nat} {l : List UInt8} (h : Wr w B g l) (b o : Nat) (t : Bool) (hp : w.cell? ⟨b, o, none⟩ = some (.bool t)) (hz : w.frozen? ⟨b, o, none⟩ = false) (hB : b ≠ B) (hg : g ≠ some b) (hl : l.length ≤ 140737487000000) :
    Calls Try.prog 52 #[wrV B, .pointer (some ⟨b, o, none⟩)] w (WOut w B g l (Cm.enc1 (.n 1) (.n (if t then 1 else 0)))) := by
  have hm := m_wnum
  unfold wrV
  have hbl := World.block_lt_of_cell? _ _ hp
  have hbl' : b < w.heap.size := hbl
  obtain ⟨v, hv⟩ : ∃ v : Nat, v = if t then 1 else 0 := ⟨_, rfl⟩
  have hvi : (if t then (1 : Int) else 0) = (v : Int) := by rw [hv]; cases t <;> rfl
  rw [hvi]
  have hv1 : v ≤ 1 := by rw [hv]; split <;> omega
  have hx : Cm.enc1 (.n 1) (.n (v : Int)) = some (M.putVar v) := by rw [Cm.enc1, if_pos (by omega), Int.toNat_natCast]
  rw [hx]
  have hW := h.below (alloc_below w (.cells #[.int .i64 (v : Int)] 3))
  have cN : (w.alloc (.cells #[.int .i64 (v : Int)] 3)).cell? ⟨w.heap.size, 0, none⟩ = some (.int .i64 (v : Int)) := by simp [go_sem]
  have hn := wr_number hW ⟨w.heap.size, 0, none⟩ (v : Int) (by omega) 1 cN (by omega)
  rw [hx] at hn
  have HN := hidden hn
  have HC : Hid (∀ w1, KeptO (WrO B g) (w.alloc (.cells #[.int .i64 (v : Int)] 3)) w1 → w1.cell? ⟨b, o, none⟩ = some (.bool t) ∧ w1.frozen? ⟨b, o, none⟩ = false ∧ KeptO (WrO B g) w w1 ∧ (w.heap.size ≠ B → g ≠ some w.heap.size → w1.cell? ⟨w.heap.size, 0, none⟩ = some (.int .i64 (v : Int)))) := by
    intro w1 hk1
    have hnot : ¬ WrO B g b := by rintro (x | x); exact hB x; exact hg x
    refine ⟨?_, ?_, (KeptO.of_below (alloc_below w _)).trans hk1 (fun _ _ x => x), ?_⟩
    · rw [hk1.cell (p := ⟨b, o, none⟩) (by simp; omega) hnot, (alloc_below w _).cell (p := ⟨b, o, none⟩) hbl]; exact hp
    · rw [hk1.frozen (p := ⟨b, o, none⟩) (by simp; omega) hnot, (alloc_below w _).frozen (p := ⟨b, o, none⟩) hbl]; exact hz
    · intro h1 h2
      rw [hk1.cell (p := ⟨w.heap.size, 0, none⟩) (by simp) (by rintro (x | x); exact h1 x; exact h2 x)]; exact cN
  have hBl : w.heap.size ≠ B := by have := h.lt; omega
  have hgl : g ≠ some w.heap.size := fun e => by have := h.row_lt _ e; omega
  have HW : Hid ((w.alloc (.cells #[.int .i64 (v : Int)] 3)).heap.size = w.heap.size + 1) := by unfold Hid; simp
  have hp0 : (w.alloc (.cells #[.int .i64 0] 3)).cell? ⟨b, o, none⟩ = some (.bool t) := by rw [(alloc_below w _).cell (p := ⟨b, o, none⟩) hbl]; exact hp
  clear hn hW cN hx hl hp hz hvi hv1
  cases t
  · simp only [Bool.false_eq_true, if_false] at hv
    subst hv
    go_enter Try.func52, Try.ntmps52
    go_wp2_with (go_at_call 90; refine (HN.out).mono ?_; rintro e w1 ⟨rfl, g', hw1, hk1, hg1⟩; obtain ⟨c1, c2, HK, c3⟩ := HC.out w1 hk1; have c4 := c3 hBl hgl)
    go_end0
    rw [setCell_same (by simpa using c1)]
    refine ⟨rfl, g', hw1, HK, fun k hk => ?_⟩
    rcases hg1 k hk with x | x
    · exact .inl x
    · rw [HW.out] at x; exact .inr (by omega)
  · simp only [if_true] at hv
    subst hv
    go_enter Try.func52, Try.ntmps52
    go_wp2_with (go_at_call 90; refine (HN.out).mono ?_; rintro e w1 ⟨rfl, g', hw1, hk1, hg1⟩; obtain ⟨c1, c2, HK, c3⟩ := HC.out w1 hk1; have c4 := c3 hBl hgl)
    go_end0
    rw [setCell_same (by simpa using c1)]
    refine ⟨rfl, g', hw1, HK, fun k hk => ?_⟩
    rcases hg1 k hk with x | x
    · exact .inl x
    · rw [HW.out] at x; exact .inr (by omega)

end Go.Proofs.Ytnfjfhjhofaodaa
