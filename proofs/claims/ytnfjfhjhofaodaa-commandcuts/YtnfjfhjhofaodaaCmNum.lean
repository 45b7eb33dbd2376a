/-
  The writer's number and text.
-/
import Derived.Test.YtnfjfhjhofaodaaCmWr
import Derived.Test.YtnfjfhjhofaodaaCmMath
namespace Go.Proofs.Ytnfjfhjhofaodaa
open Go.RowKit

/-- What a call on a writer comes to: bytes behind what it has, or a panic. -/
def WOut (w : World) (B : Nat) (g : Option Nat) (l : List UInt8) (x : Option (List UInt8)) (e : Ending) (w' : World) : Prop :=
  match x with
  | some bs => e = .returned (.tuple #[]) ∧ ∃ g', Wr w' B g' (l ++ bs) ∧ KeptO (WrO B g) w w' ∧ (∀ k, g' = some k → g = some k ∨ w.heap.size ≤ k)
  | none => (∃ t v, e = .panicked [{ v := .iface t v, recovered := false }]) ∧ KeptO (WrO B g) w w'

theorem hidden {a : Prop} (h : a) : Hid a := h

theorem WrO.mono_lt {w : World} {B : Nat} {g g' : Option Nat} (hg : ∀ k, g' = some k → g = some k ∨ w.heap.size ≤ k) : ∀ k, k < w.heap.size → WrO B g' k → WrO B g k := by
  rintro k hk (rfl | h)
  · exact .inl rfl
  · rcases hg k h with x | x
    · exact .inr x
    · omega

theorem KeptO.below_self {w w' : World} (h : Below w.heap.size w w') {own : Nat → Prop} : KeptO own w w' := KeptO.of_below h

set_option maxHeartbeats 1000000 in
set_option maxRecDepth 100000 in
theorem wr_number {w : World} {B : Nat} {g : Option Nat} {l : List UInt8} (h : Wr w B g l) (p : Addr) (v : Int) (hv : v < 9223372036854775808) (m : Nat) (hp : w.cell? p = some (.int .i64 v)) (hl : l.length ≤ 140737488000000) :
    Calls Try.prog 90 #[.pointer (some ⟨B, 0, none⟩), .pointer (some p), .int .i64 (m : Int)] w (WOut w B g l (Cm.enc1 (.n m) (.n v))) := by
  have hpl : p.block < w.heap.size := World.block_lt_of_cell? _ _ hp
  by_cases hneg : v < 0
  · have hx : Cm.enc1 (.n m) (.n v) = none := by rw [Cm.enc1, if_neg (by omega)]
    rw [hx]
    go_enter Try.func90, Try.ntmps90
    go_wp2_with (go_at_call 92; refine (bits_PutVar_no v w hneg).mono ?_; rintro e w1 ⟨rfl, rfl⟩)
    go_wp2
    exact ⟨rfl, ⟨_, _, rfl⟩, KeptO.refl _ _⟩
  · obtain ⟨n, rfl⟩ := Int.eq_ofNat_of_zero_le (Int.not_lt.1 hneg)
    have hn : n < 9223372036854775808 := by omega
    by_cases hmn : (m : Int) < (n : Int)
    · have hx : Cm.enc1 (.n m) (.n (n : Int)) = none := by rw [Cm.enc1, if_neg (by omega)]
      rw [hx]
      have HN : Hid (n < 9223372036854775808) := hn
      clear hv hl hn
      go_enter Try.func90, Try.ntmps90
      go_wp2_with (go_at_call 92; refine (bits_PutVar_yes n w HN.out).mono ?_; rintro e w1 ⟨rfl, hb⟩; have c1 : w1.cell? p = some (.int .i64 (n : Int)) := by rw [hb.cell hpl]; exact hp)
      go_wp2
      exact ⟨rfl, ⟨_, _, rfl⟩, KeptO.of_below hb⟩
    · have hx : Cm.enc1 (.n m) (.n (n : Int)) = some (M.putVar n) := by rw [Cm.enc1, if_pos (by omega), Int.toNat_natCast]
      rw [hx]
      have hlen := M.putVar_length9 hn
      have hs : (⟨(M.putVar n).toArray⟩ : ByteArray).size = (M.putVar n).length := by show (M.putVar n).toArray.size = _; simp
      have HS : Hid (l.length + (⟨(M.putVar n).toArray⟩ : ByteArray).size ≤ 140737488351232) := show l.length + (⟨(M.putVar n).toArray⟩ : ByteArray).size ≤ 140737488351232 by omega
      have HN : Hid (n < 9223372036854775808) := hn
      clear hv hl hn hlen hs hx
      go_enter Try.func90, Try.ntmps90
      go_wp2_with (go_at_call 92; refine (bits_PutVar_yes n w HN.out).mono ?_; rintro e w1 ⟨rfl, hb⟩; have c1 : w1.cell? p = some (.int .i64 (n : Int)) := by rw [hb.cell hpl]; exact hp)
      have hW := h.below hb
      go_wp2_with (go_at_call 42; refine (wr_write hW ⟨(M.putVar n).toArray⟩ HS.out).mono ?_; rintro e w2 ⟨rfl, g', hw2, hk2, hg2⟩)
      go_wp2
      go_end0
      refine ⟨rfl, g', hw2, (KeptO.of_below hb).trans hk2 (fun _ _ x => x), fun k hk => ?_⟩
      rcases hg2 k hk with x | x
      · exact .inl x
      · exact .inr (Nat.le_trans hb.size x)

theorem alloc_below (w : World) (o : Obj) : Below w.heap.size w (w.alloc o) := (Below.refl _ w).alloc (Nat.le_refl _) o

theorem WOut.from {w w1 w' : World} {B : Nat} {g : Option Nat} {l : List UInt8} {x : Option (List UInt8)} {e : Ending} (hb : Below w.heap.size w w1) (h : WOut w1 B g l x e w') : WOut w B g l x e w' := by
  cases x with
  | none => exact ⟨h.1, (KeptO.of_below hb).trans h.2 (fun _ _ x => x)⟩
  | some bs =>
    obtain ⟨he, g', hw2, hk2, hg2⟩ := h
    refine ⟨he, g', hw2, (KeptO.of_below hb).trans hk2 (fun _ _ x => x), fun k hk => ?_⟩
    rcases hg2 k hk with x | x
    · exact .inl x
    · exact .inr (Nat.le_trans hb.size x)

set_option maxHeartbeats 1000000 in
set_option maxRecDepth 100000 in
theorem wr_text {w : World} {B : Nat} {g : Option Nat} {l : List UInt8} (h : Wr w B g l) (p : Addr) (s : ByteArray) (hs : s.size < 9223372036854775808) (hp : w.cell? p = some (.string s)) (hB : p.block ≠ B) (hg : g ≠ some p.block) (hl : l.length ≤ 140737487000000) :
    Calls Try.prog 91 #[.pointer (some ⟨B, 0, none⟩), .pointer (some p)] w (WOut w B g l (Cm.enc1 .t (.t s))) := by
  have hpl : p.block < w.heap.size := World.block_lt_of_cell? _ _ hp
  have HL : Hid (l.length ≤ 140737487000000) := hl
  have HS : Hid (s.size < 9223372036854775808) := hs
  have hW := h.below (alloc_below w (.cells #[.int .i64 (s.size : Int)] 3))
  have cN : (w.alloc (.cells #[.int .i64 (s.size : Int)] 3)).cell? ⟨w.heap.size, 0, none⟩ = some (.int .i64 (s.size : Int)) := by simp [go_sem]
  have HW := hidden hW
  clear hW
  by_cases hle : s.size ≤ 262144
  · have hx : Cm.enc1 (.n 262144) (.n (s.size : Int)) = some (M.putVar s.size) := by rw [Cm.enc1, if_pos (by omega), Int.toNat_natCast]
    have hy : Cm.enc1 .t (.t s) = some (M.putVar s.size ++ s.data.toList) := by rw [Cm.enc1, if_pos (by unfold Cm.mR; exact hle)]
    have hlen := M.putVar_length9 hs
    have HL2 : Hid ((l ++ M.putVar s.size).length + s.size ≤ 140737488351232) := show (l ++ M.putVar s.size).length + s.size ≤ 140737488351232 by rw [List.length_append]; omega
    have hn := wr_number HW.out ⟨w.heap.size, 0, none⟩ (s.size : Int) (by omega) 262144 cN (by omega)
    rw [hy]
    rw [hx] at hn
    have HN := hidden hn
    clear hn hl hs hle hlen hx hy
    go_enter Try.func91, Try.ntmps91
    go_wp2_with (go_at_call 90; refine (HN.out).mono ?_; rintro e w1 ⟨rfl, g', hw1, hk1, hg1⟩)
    have c1 : w1.cell? p = some (.string s) := by
      rw [hk1.cell (by simp; omega) (by rintro (x | x); exact hB x; exact hg x)]
      rw [(alloc_below w _).cell (p := p) hpl]
      exact hp
    have HK : Hid (KeptO (WrO B g) w w1) := (KeptO.of_below (alloc_below w _)).trans hk1 (fun _ _ x => x)
    have HG : Hid (∀ k, g' = some k → g = some k ∨ w.heap.size ≤ k) := fun k hk => by
      rcases hg1 k hk with x | x
      · exact .inl x
      · simp at x; exact .inr (by omega)
    have HW1 : Hid (Wr w1.drew B g' (l ++ M.putVar s.size)) := hw1
    clear hk1 hg1 hw1 HN HW cN
    go_region_with (go_at_call 42; refine (wr_write HW1.out s HL2.out).mono ?_; rintro e w2 ⟨rfl, g2, hw2, hk2, hg2⟩)
    all_goals go_wp2
    all_goals go_end0
    all_goals
      refine ⟨rfl, g2, by rw [← List.append_assoc]; exact hw2, HK.out.drew.trans hk2 (WrO.mono_lt HG.out), fun k hk => ?_⟩
      rcases hg2 k hk with x | x
      · exact HG.out k x
      · exact .inr (Nat.le_trans HK.out.size x)
  · have hx : Cm.enc1 (.n 262144) (.n (s.size : Int)) = none := by rw [Cm.enc1, if_neg (by omega)]
    have hy : Cm.enc1 .t (.t s) = none := by rw [Cm.enc1, if_neg (by unfold Cm.mR; exact hle)]
    have hn := wr_number HW.out ⟨w.heap.size, 0, none⟩ (s.size : Int) (by omega) 262144 cN (by omega)
    rw [hy]
    rw [hx] at hn
    have HN := hidden hn
    clear hn hl hs hle hx hy
    go_enter Try.func91, Try.ntmps91
    go_wp2_with (go_at_call 90; refine (HN.out).mono ?_; rintro e w1 ⟨⟨t, v, rfl⟩, hk1⟩)
    exact ⟨rfl, ⟨_, _, rfl⟩, (KeptO.of_below (alloc_below w _)).trans hk1 (fun _ _ x => x)⟩

end Go.Proofs.Ytnfjfhjhofaodaa
