/-
  What the first byte of a character, and each further one, does: the character so far, and whether the byte may stand there; nothing that was there is changed.
-/
import Derived.Test.YtepbmfjimppgcaaRows
import Derived.Test.YtepbmfjimppgcaaOwn
import Derived.Test.YtepbmfjimppgcaaMath
import Derived.Deep.RegionWith
namespace Go.Proofs.Ytepbmfjimppgcaa
open Go.RowKit

def chV (c : M.Ch) : Value := .agg #[.int .i64 c.left, .int .i64 c.number, .int .i64 c.least]

set_option maxHeartbeats 400000 in
theorem begin_1 (b : Int) (w : World) (h : b < 128) :
    Calls Try.prog 80 #[.int .u8 b] w fun e w' => e = .returned (.tuple #[.agg #[.int .i64 0, .int .i64 0, .int .i64 0], .bool true]) ∧ Below w.heap.size w w' := by
  go_enter Try.func80, Try.ntmps80
  go_wp2
  exact bodyPost_ret (v := .tuple #[.agg #[.int .i64 0, .int .i64 0, .int .i64 0], .bool true]) (by simp [results, Try.results80, go_sem]) rfl ⟨rfl, (Below.refl _ _).alloc (Nat.le_refl _) _⟩

set_option maxHeartbeats 400000 in
theorem begin_2 (b : Int) (w : World) (h1 : 128 ≤ b) (h : b ≤ 255) (h2 : (b / 32 == 6) = true) :
    Calls Try.prog 80 #[.int .u8 b] w fun e w' => e = .returned (.tuple #[.agg #[.int .i64 1, .int .i64 (b % 32), .int .i64 128], .bool true]) ∧ Below w.heap.size w w' := by
  go_enter Try.func80, Try.ntmps80
  go_wp2
  exact bodyPost_ret (v := .tuple #[.agg #[.int .i64 1, .int .i64 (b % 32), .int .i64 128], .bool true]) (by simp [results, Try.results80, go_sem]) rfl ⟨rfl, (Below.refl _ _).alloc (Nat.le_refl _) _⟩

set_option maxHeartbeats 400000 in
theorem begin_3 (b : Int) (w : World) (h1 : 128 ≤ b) (h : b ≤ 255) (h2 : (b / 32 == 6) = false) (h3 : (b / 16 == 14) = true) :
    Calls Try.prog 80 #[.int .u8 b] w fun e w' => e = .returned (.tuple #[.agg #[.int .i64 2, .int .i64 (b % 16), .int .i64 2048], .bool true]) ∧ Below w.heap.size w w' := by
  go_enter Try.func80, Try.ntmps80
  go_wp2
  exact bodyPost_ret (v := .tuple #[.agg #[.int .i64 2, .int .i64 (b % 16), .int .i64 2048], .bool true]) (by simp [results, Try.results80, go_sem]) rfl ⟨rfl, (Below.refl _ _).alloc (Nat.le_refl _) _⟩

set_option maxHeartbeats 400000 in
theorem begin_4 (b : Int) (w : World) (h1 : 128 ≤ b) (h : b ≤ 255) (h2 : (b / 32 == 6) = false) (h3 : (b / 16 == 14) = false) (h4 : (b / 8 == 30) = true) :
    Calls Try.prog 80 #[.int .u8 b] w fun e w' => e = .returned (.tuple #[.agg #[.int .i64 3, .int .i64 (b % 8), .int .i64 65536], .bool true]) ∧ Below w.heap.size w w' := by
  go_enter Try.func80, Try.ntmps80
  go_wp2
  exact bodyPost_ret (v := .tuple #[.agg #[.int .i64 3, .int .i64 (b % 8), .int .i64 65536], .bool true]) (by simp [results, Try.results80, go_sem]) rfl ⟨rfl, (Below.refl _ _).alloc (Nat.le_refl _) _⟩

set_option maxHeartbeats 400000 in
theorem begin_5 (b : Int) (w : World) (h1 : 128 ≤ b) (h : b ≤ 255) (h2 : (b / 32 == 6) = false) (h3 : (b / 16 == 14) = false) (h4 : (b / 8 == 30) = false) :
    Calls Try.prog 80 #[.int .u8 b] w fun e w' => e = .returned (.tuple #[.agg #[.int .i64 0, .int .i64 0, .int .i64 0], .bool false]) ∧ Below w.heap.size w w' := by
  go_enter Try.func80, Try.ntmps80
  go_wp2
  exact bodyPost_ret (v := .tuple #[.agg #[.int .i64 0, .int .i64 0, .int .i64 0], .bool false]) (by simp [results, Try.results80, go_sem]) rfl ⟨rfl, (Below.refl _ _).alloc (Nat.le_refl _) _⟩

theorem begin_yes (b : Nat) (c : M.Ch) (w : World) (hb : b < 256) (hc : M.char0 b = some c) :
    Calls Try.prog 80 #[.int .u8 (b : Int)] w fun e w' => e = .returned (.tuple #[.agg #[.int .i64 (c.left : Int), .int .i64 (c.number : Int), .int .i64 (c.least : Int)], .bool true]) ∧ Below w.heap.size w w' := by
  unfold M.char0 at hc
  split at hc
  · cases hc; exact begin_1 b w (by omega)
  · split at hc
    · cases hc; exact begin_2 b w (by omega) (by omega) (beq_iff_eq.2 (by omega))
    · split at hc
      · cases hc; exact begin_3 b w (by omega) (by omega) (beq_eq_false_iff_ne.2 (by omega)) (beq_iff_eq.2 (by omega))
      · split at hc
        · cases hc; exact begin_4 b w (by omega) (by omega) (beq_eq_false_iff_ne.2 (by omega)) (beq_eq_false_iff_ne.2 (by omega)) (beq_iff_eq.2 (by omega))
        · cases hc

theorem begin_no (b : Nat) (w : World) (hb : b < 256) (hc : M.char0 b = none) :
    Calls Try.prog 80 #[.int .u8 (b : Int)] w fun e w' => e = .returned (.tuple #[.agg #[.int .i64 0, .int .i64 0, .int .i64 0], .bool false]) ∧ Below w.heap.size w w' := by
  unfold M.char0 at hc
  split at hc
  · cases hc
  · split at hc
    · cases hc
    · split at hc
      · cases hc
      · split at hc
        · cases hc
        · exact begin_5 b w (by omega) (by omega) (beq_eq_false_iff_ne.2 (by omega)) (beq_eq_false_iff_ne.2 (by omega)) (beq_eq_false_iff_ne.2 (by omega))

set_option maxHeartbeats 400000 in
theorem fits_any (l n m : Int) (w : World) (h0 : 0 ≤ n) (h1 : 0 ≤ m) :
    Calls Try.prog 93 #[.agg #[.int .i64 l, .int .i64 n, .int .i64 m]] w fun e w' => e = .returned (.bool (M.fits n.toNat m.toNat)) ∧ Below w.heap.size w w' := by
  obtain ⟨n, rfl⟩ := Int.eq_ofNat_of_zero_le h0
  obtain ⟨m, rfl⟩ := Int.eq_ofNat_of_zero_le h1
  go_enter Try.func93, Try.ntmps93
  go_wp2
  all_goals go_ret
  all_goals refine ⟨ret_bool ?_, (Below.refl _ _).alloc (Nat.le_refl _) _⟩
  all_goals (rw [Bool.eq_iff_iff]; simp [M.fits]; omega)

set_option maxHeartbeats 400000 in
theorem next_1 (l n m : Nat) (b : Int) (w : World) (_hb : 0 ≤ b ∧ b ≤ 255) (h1 : (b / 64 != 2) = true) :
    Calls Try.prog 81 #[.agg #[.int .i64 (l : Int), .int .i64 (n : Int), .int .i64 (m : Int)], .int .u8 b] w fun e w' => e = .returned (.tuple #[.agg #[.int .i64 0, .int .i64 0, .int .i64 0], .bool false]) ∧ Below w.heap.size w w' := by
  go_enter Try.func81, Try.ntmps81
  go_wp2
  exact bodyPost_ret (v := .tuple #[.agg #[.int .i64 0, .int .i64 0, .int .i64 0], .bool false]) (by simp [results, Try.results81, go_sem]) rfl ⟨rfl, ((Below.refl _ _).alloc (Nat.le_refl _) _).alloc (by simp) _⟩

set_option maxHeartbeats 400000 in
theorem next_2 (l n m : Nat) (b : Int) (w : World) (hb : 0 ≤ b ∧ b ≤ 255) (h1 : (b / 64 != 2) = false) (hl : 1 < l) (hl3 : l ≤ 3) (hn : n ≤ 2097151) :
    Calls Try.prog 81 #[.agg #[.int .i64 (l : Int), .int .i64 (n : Int), .int .i64 (m : Int)], .int .u8 b] w fun e w' => e = .returned (.tuple #[.agg #[.int .i64 ((l : Int) - 1), .int .i64 ((n : Int) * 64 + b % 64), .int .i64 (m : Int)], .bool true]) ∧ Below w.heap.size w w' := by
  have hg : decide ((1 : Int) < (l : Int)) = true := by simp; omega
  have hor : bits BinOp.or IntKind.i64 ((n : Int) * 64) (b % 64) = (n : Int) * 64 + b % 64 := or64 6 _ _ (by omega) (by simp) (by omega) (by omega) (by omega) (by omega)
  go_enter Try.func81, Try.ntmps81
  go_wp2
  go_region
  go_wp2
  exact bodyPost_ret (v := .tuple #[.agg #[.int .i64 ((l : Int) - 1), .int .i64 ((n : Int) * 64 + b % 64), .int .i64 (m : Int)], .bool true]) (by simp [results, Try.results81, go_sem]) rfl ⟨rfl, (((Below.refl _ _).alloc (Nat.le_refl _) _).alloc (by simp) _).drew⟩

set_option maxHeartbeats 400000 in
theorem next_3 (n m : Nat) (b : Int) (w : World) (hb : 0 ≤ b ∧ b ≤ 255) (h1 : (b / 64 != 2) = false) (hn : n ≤ 2097151) :
    Calls Try.prog 81 #[.agg #[.int .i64 1, .int .i64 (n : Int), .int .i64 (m : Int)], .int .u8 b] w fun e w' => e = .returned (.tuple #[.agg #[.int .i64 0, .int .i64 ((n : Int) * 64 + b % 64), .int .i64 (m : Int)], .bool (M.fits ((n : Int) * 64 + b % 64).toNat m)]) ∧ Below w.heap.size w w' := by
  have hor : bits BinOp.or IntKind.i64 ((n : Int) * 64) (b % 64) = (n : Int) * 64 + b % 64 := or64 6 _ _ (by omega) (by simp) (by omega) (by omega) (by omega) (by omega)
  go_enter Try.func81, Try.ntmps81
  go_wp2
  go_region_with (go_at_call 93; refine (fits_any _ _ _ _ (by omega) (by omega)).mono ?_; rintro e w' ⟨rfl, hbel⟩; obtain ⟨hc, hf⟩ := bcell hbel)
  all_goals go_wp2
  all_goals refine bodyPost_ret (v := .tuple #[.agg #[.int .i64 0, .int .i64 ((n : Int) * 64 + b % 64), .int .i64 (m : Int)], .bool (M.fits ((n : Int) * 64 + b % 64).toNat m)]) ?_ rfl ⟨rfl, ?_⟩
  all_goals first
    | (simp [results, Try.results81, go_sem, hc]; done)
    | exact (((((((Below.refl _ _).alloc (Nat.le_refl _) _).alloc (by simp) _).drew).trans (hbel.mono (by simp; omega))).setCell (by simp) _).setCell (by simp) _).setCell (by simp) _

theorem next_yes (b : Nat) (c c' : M.Ch) (w : World) (hb : b < 256) (hf : M.Few c) (h0 : c.left ≠ 0) (hc : M.char1 c b = some c') :
    Calls Try.prog 81 #[.agg #[.int .i64 (c.left : Int), .int .i64 (c.number : Int), .int .i64 (c.least : Int)], .int .u8 (b : Int)] w fun e w' => e = .returned (.tuple #[.agg #[.int .i64 (c'.left : Int), .int .i64 (c'.number : Int), .int .i64 (c'.least : Int)], .bool true]) ∧ Below w.heap.size w w' := by
  have hn := M.few_number hf
  have h3 := hf.1
  obtain ⟨l, n, m⟩ := c
  unfold M.char1 at hc
  split at hc
  · rename_i h64
    have e64 : (((b : Int) / 64) != 2) = false := by simp; omega
    split at hc
    · rename_i hor
      cases hc
      simp only at h0 hn h3 hor ⊢
      by_cases hl : 1 < l
      · have h := next_2 l n m b w (by omega) e64 hl h3 hn
        rw [show ((l - 1 : Nat) : Int) = (l : Int) - 1 from by omega, show ((n * 64 + b % 64 : Nat) : Int) = (n : Int) * 64 + (b : Int) % 64 from by omega]
        exact h
      · have hl1 : l = 1 := by omega
        subst hl1
        have h := next_3 n m b w (by omega) e64 hn
        rw [show ((n : Int) * 64 + (b : Int) % 64).toNat = n * 64 + b % 64 from by omega, hor.resolve_left (by omega)] at h
        rw [show ((n * 64 + b % 64 : Nat) : Int) = (n : Int) * 64 + (b : Int) % 64 from by omega]
        exact h
    · cases hc
  · cases hc

theorem next_no (b : Nat) (c : M.Ch) (w : World) (hb : b < 256) (hf : M.Few c) (h0 : c.left ≠ 0) (hc : M.char1 c b = none) :
    Calls Try.prog 81 #[.agg #[.int .i64 (c.left : Int), .int .i64 (c.number : Int), .int .i64 (c.least : Int)], .int .u8 (b : Int)] w fun e w' => ∃ x y z : Int, e = .returned (.tuple #[.agg #[.int .i64 x, .int .i64 y, .int .i64 z], .bool false]) ∧ Below w.heap.size w w' := by
  have hn := M.few_number hf
  have h3 := hf.1
  obtain ⟨l, n, m⟩ := c
  unfold M.char1 at hc
  split at hc
  · rename_i h64
    have e64 : (((b : Int) / 64) != 2) = false := by simp; omega
    split at hc
    · cases hc
    · rename_i hor
      simp only at h0 hn h3 hor ⊢
      have hl1 : l = 1 := by omega
      subst hl1
      have h := next_3 n m b w (by omega) e64 hn
      have hfit : M.fits (n * 64 + b % 64) m = false := by
        cases hq : M.fits (n * 64 + b % 64) m
        · rfl
        · exact absurd (Or.inr hq) hor
      rw [show ((n : Int) * 64 + (b : Int) % 64).toNat = n * 64 + b % 64 from by omega, hfit] at h
      exact h.mono fun e w' hq => ⟨_, _, _, hq⟩
  · rename_i h64
    have h := next_1 l n m b w (by omega) (by simp; omega)
    exact h.mono fun e w' hq => ⟨_, _, _, hq⟩

end Go.Proofs.Ytepbmfjimppgcaa
