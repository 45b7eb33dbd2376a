/-
  Of the hashes of eight bytes in a row, behind whatever came, one has another slot.
-/
import Derived.Test.YtkjmajkmjebhnaaSumMath
namespace Go.Proofs.Ytkjmajkmjebhnaa
namespace S

/-- The fours of three and of two. -/
def f3 (y : Nat) : Nat := (y % 16 ^^^ y / 16 % 16) ^^^ y / 256 % 16
def f2 (y : Nat) : Nat := y % 16 ^^^ y / 16 % 16
theorem nib_lo (lo r P : Nat) (k : Nat) (h : lo < 16 ^ P) (hk : k < P) : (lo + 16 ^ P * r) / 16 ^ k % 16 = lo / 16 ^ k % 16 := by
  obtain ⟨d, rfl⟩ : ∃ d, P = k + (d + 1) := ⟨P - k - 1, by omega⟩
  rw [Nat.pow_add, Nat.mul_assoc, Nat.add_mul_div_left _ _ (Nat.pow_pos (by decide)), Nat.pow_succ, Nat.mul_comm (16 ^ d) 16, Nat.mul_assoc, Nat.add_mul_mod_self_left]
theorem nib_hi (lo r P : Nat) (k : Nat) (h : lo < 16 ^ P) : (lo + 16 ^ P * r) / 16 ^ (P + k) % 16 = r / 16 ^ k % 16 := by
  rw [Nat.pow_add, ← Nat.div_div_eq_div_mul, Nat.add_mul_div_left _ _ (Nat.pow_pos (by decide)), Nat.div_eq_of_lt h, Nat.zero_add]
theorem nibs_lo (lo r P : Nat) (h : lo < 16 ^ P) : ∀ k, k ≤ P → nibs k (lo + 16 ^ P * r) = nibs k lo
  | 0, _ => rfl
  | k + 1, hk => by rw [nibs, nibs, nibs_lo lo r P h k (by omega), nib_lo lo r P k h (by omega)]
theorem nibs_cut (lo r P : Nat) (h : lo < 16 ^ P) : ∀ k, nibs (P + k) (lo + 16 ^ P * r) = nibs P lo ^^^ nibs k r
  | 0 => by rw [Nat.add_zero, nibs_lo lo r P h P (Nat.le_refl _), nibs.eq_1, Nat.xor_zero]
  | k + 1 => by
    show nibs (P + k) (lo + 16 ^ P * r) ^^^ (lo + 16 ^ P * r) / 16 ^ (P + k) % 16 = _
    rw [nibs_cut lo r P h k, nib_hi lo r P k h, Nat.xor_assoc]
    rfl
theorem f3_nibs (y : Nat) : nibs 3 y = f3 y := by
  unfold f3
  simp [nibs]
theorem f2_nibs (y : Nat) : nibs 2 y = f2 y := by
  unfold f2
  simp [nibs]
theorem nibs_parts (lo mid hi : Nat) (h1 : lo < 4096) (h2 : mid < 4096) : nibs 8 (lo + 4096 * mid + 16777216 * hi) = (f3 lo ^^^ f2 hi) ^^^ f3 mid := by
  have e : lo + 4096 * mid + 16777216 * hi = lo + 16 ^ 3 * (mid + 16 ^ 3 * hi) := by omega
  rw [e, show (8 : Nat) = 3 + (3 + 2) from rfl, nibs_cut lo _ 3 h1, nibs_cut mid hi 3 h2, f3_nibs, f3_nibs, f2_nibs, Nat.xor_assoc, Nat.xor_comm (f2 hi)]

def code (a b c d : Nat) : Nat := (a ^^^ b) * 256 + (a ^^^ c) * 16 + (a ^^^ d)
def codes : List Nat := [18, 272, 291, 359, 408, 476, 495, 510, 802, 805, 810, 812, 813, 814, 1893, 2202, 3294, 3836, 4077]
def hiOk (h : Nat) : Bool := codes.contains (code (f2 h) (f2 ((h + 1) % 256)) (f2 ((h + 2) % 256)) (f2 ((h + 3) % 256)))
def loOk (q : Nat) (r : Nat) : Bool := !codes.contains (code (f3 ((8 * q + 403 * r) % 4096)) (f3 ((8 * q + 403 * (r + 1)) % 4096)) (f3 ((8 * q + 403 * (r + 2)) % 4096)) (f3 ((8 * q + 403 * (r + 3)) % 4096)))

theorem hi_all : (List.range 256).all hiOk = true := by kernel_rfl
theorem lo_all0 : (List.range 512).all (fun q => decide (4096 ≤ 8 * q + 1209) || (q == 177 || loOk q 0)) = true := by kernel_rfl
theorem lo_all4 : (List.range 512).all (fun q => decide (8 * q + 1209 < 4096) || loOk q 4) = true := by kernel_rfl
theorem lo_177 : (List.range 256).all (fun h => !((f3 (1416 + 403) ^^^ f2 ((h + 1) % 256) == f3 1416 ^^^ f2 h) && (f3 (1416 + 806) ^^^ f2 ((h + 2) % 256) == f3 1416 ^^^ f2 h) && (f3 (1416 + 1209) ^^^ f2 ((h + 3) % 256) == f3 1416 ^^^ f2 h) && (f3 (1416 + 1612) ^^^ f2 ((h + 4) % 256) == f3 1416 ^^^ f2 h))) = true := by kernel_rfl

theorem xor_turn {a b c d : Nat} (h : a ^^^ b = c ^^^ d) : c ^^^ a = d ^^^ b := by
  have h1 : (c ^^^ b) ^^^ (a ^^^ b) = (c ^^^ b) ^^^ (c ^^^ d) := by rw [h]
  have e1 : (c ^^^ b) ^^^ (a ^^^ b) = c ^^^ a := by rw [xor_swap, Nat.xor_self, Nat.xor_zero]
  have e2 : (c ^^^ b) ^^^ (c ^^^ d) = d ^^^ b := by rw [xor_swap, Nat.xor_self, Nat.zero_xor, Nat.xor_comm]
  rw [e1, e2] at h1
  exact h1

theorem xor_strike {a b c : Nat} (h : a ^^^ c = b ^^^ c) : a = b := by
  have h1 := congrArg (fun x => x ^^^ c) h
  simpa [Nat.xor_assoc] using h1

/-- Four in a row that are alike: one table of shares would hold the other's. -/
theorem four (q r h : Nat) (hh : h < 256) (hlo : loOk q r = true)
    (h1 : f3 ((8 * q + 403 * (r + 1)) % 4096) ^^^ f2 ((h + 1) % 256) = f3 ((8 * q + 403 * r) % 4096) ^^^ f2 h)
    (h2 : f3 ((8 * q + 403 * (r + 2)) % 4096) ^^^ f2 ((h + 2) % 256) = f3 ((8 * q + 403 * r) % 4096) ^^^ f2 h)
    (h3 : f3 ((8 * q + 403 * (r + 3)) % 4096) ^^^ f2 ((h + 3) % 256) = f3 ((8 * q + 403 * r) % 4096) ^^^ f2 h) : False := by
  have hhi : hiOk h = true := List.all_eq_true.1 hi_all h (List.mem_range.2 hh)
  unfold loOk code at hlo
  rw [xor_turn h1, xor_turn h2, xor_turn h3] at hlo
  unfold hiOk code at hhi
  rw [hhi] at hlo
  exact absurd hlo (by decide)

/-- Of eight numbers in a row, times the prime, one has other fours. -/
theorem eight (B : Nat) (hB : B < 4294967296) (h8 : B % 8 = 0) (K : Nat) (h : ∀ l, l < 8 → nibs 8 ((B + l * 16777619) % 4294967296) = K) : False := by
  obtain ⟨q, hq⟩ : ∃ q, B % 4096 = 8 * q := ⟨B % 4096 / 8, by omega⟩
  obtain ⟨M, hM⟩ : ∃ M, M = B / 4096 % 4096 := ⟨_, rfl⟩
  obtain ⟨H, hH⟩ : ∃ H, H = B / 16777216 := ⟨_, rfl⟩
  have hMl : M < 4096 := by omega
  have hHl : H < 256 := by omega
  have hql : q < 512 := by omega
  have hBe : B = 8 * q + 4096 * M + 16777216 * H := by omega
  by_cases hc : 8 * q + 1209 < 4096
  · have e : ∀ l, l < 4 → (B + l * 16777619) % 4294967296 = (8 * q + 403 * l) % 4096 + 4096 * M + 16777216 * ((H + l) % 256) := by
      intro l hl
      rw [Nat.mod_eq_of_lt (show 8 * q + 403 * l < 4096 by omega), hBe]
      clear hM hH hq hBe h
      by_cases hw : H + l < 256
      · rw [Nat.mod_eq_of_lt hw]; omega
      · rw [show (H + l) % 256 = H + l - 256 by omega]; omega
    have g : ∀ l, l < 4 → (f3 ((8 * q + 403 * l) % 4096) ^^^ f2 ((H + l) % 256)) ^^^ f3 M = K := by
      intro l hl
      rw [← nibs_parts _ _ _ (Nat.mod_lt _ (by omega)) hMl, ← e l hl]
      exact h l (by omega)
    have g0 := g 0 (by omega)
    rw [show (H + 0) % 256 = H by omega] at g0
    have g1 := xor_strike ((g 1 (by omega)).trans g0.symm)
    have g2 := xor_strike ((g 2 (by omega)).trans g0.symm)
    have g3 := xor_strike ((g 3 (by omega)).trans g0.symm)
    by_cases h177 : q = 177
    · subst h177
      have e4 : (B + 4 * 16777619) % 4294967296 = (1416 + 1612) + 4096 * M + 16777216 * ((H + 4) % 256) := by omega
      have g4 : (f3 (1416 + 1612) ^^^ f2 ((H + 4) % 256)) ^^^ f3 M = K := by
        rw [← nibs_parts _ _ _ (by omega) hMl, ← e4]
        exact h 4 (by omega)
      have g4 := xor_strike (g4.trans g0.symm)
      have hall := List.all_eq_true.1 lo_177 H (List.mem_range.2 hHl)
      rw [show (8 * 177 + 403 * 0) % 4096 = 1416 by omega] at g1 g2 g3 g4
      rw [show (8 * 177 + 403 * 1) % 4096 = 1416 + 403 by omega] at g1
      rw [show (8 * 177 + 403 * 2) % 4096 = 1416 + 806 by omega] at g2
      rw [show (8 * 177 + 403 * 3) % 4096 = 1416 + 1209 by omega] at g3
      rw [g1, g2, g3, g4] at hall
      simp at hall
    · have hlo := List.all_eq_true.1 lo_all0 q (List.mem_range.2 hql)
      have hn : (q == 177) = false := by simpa using h177
      have hm : decide (4096 ≤ 8 * q + 1209) = false := decide_eq_false (by omega)
      simp only [hn, hm, Bool.false_or] at hlo
      exact four q 0 H hHl hlo g1 g2 g3
  · obtain ⟨N, hN⟩ : ∃ N, N = (H + 4 + (M + 1) / 4096) % 256 := ⟨_, rfl⟩
    have hNl : N < 256 := by omega
    have e : ∀ l, l < 4 → (B + (4 + l) * 16777619) % 4294967296 = (8 * q + 403 * (4 + l)) % 4096 + 4096 * ((M + 1) % 4096) + 16777216 * ((N + l) % 256) := by
      intro l hl
      rw [show (8 * q + 403 * (4 + l)) % 4096 = 8 * q + 403 * (4 + l) - 4096 by omega, show (N + l) % 256 = (H + 4 + l + (M + 1) / 4096) % 256 by omega, hBe]
      clear hM hH hq hBe h hN hNl
      by_cases hm : M + 1 < 4096
      · rw [Nat.mod_eq_of_lt hm, Nat.div_eq_of_lt hm]
        by_cases hw : H + 4 + l + 0 < 256
        · rw [Nat.mod_eq_of_lt hw]; omega
        · rw [show (H + 4 + l + 0) % 256 = H + 4 + l - 256 by omega]; omega
      · rw [show M + 1 = 4096 by omega]
        by_cases hw : H + 4 + l + 1 < 256
        · rw [show (H + 4 + l + 4096 / 4096) % 256 = H + 4 + l + 1 by omega]; omega
        · rw [show (H + 4 + l + 4096 / 4096) % 256 = H + 4 + l + 1 - 256 by omega]; omega
    have g : ∀ l, l < 4 → (f3 ((8 * q + 403 * (4 + l)) % 4096) ^^^ f2 ((N + l) % 256)) ^^^ f3 ((M + 1) % 4096) = K := by
      intro l hl
      rw [← nibs_parts _ _ _ (Nat.mod_lt _ (by omega)) (Nat.mod_lt _ (by omega)), ← e l hl]
      exact h (4 + l) (by omega)
    have g0 := g 0 (by omega)
    rw [show (N + 0) % 256 = N by omega] at g0
    have g1 := xor_strike ((g 1 (by omega)).trans g0.symm)
    have g2 := xor_strike ((g 2 (by omega)).trans g0.symm)
    have g3 := xor_strike ((g 3 (by omega)).trans g0.symm)
    have hlo := List.all_eq_true.1 lo_all4 q (List.mem_range.2 hql)
    have hn : decide (8 * q + 1209 < 4096) = false := by simpa using hc
    simp only [hn, Bool.false_or] at hlo
    exact four q 4 N hNl hlo g1 g2 g3

/-- Behind whatever came: of the bytes 104 to 111 one has another slot. -/
theorem spread (x : Nat) (K : Nat) (h : ∀ j, j < 8 → nibs 8 ((x ^^^ (104 + j)) * 16777619 % 4294967296) = K) : False := by
  obtain ⟨y, hy⟩ : ∃ y, y = x / 8 ^^^ 13 := ⟨_, rfl⟩
  have key : ∀ l, l < 8 → ∃ j, j < 8 ∧ x ^^^ (104 + j) = 8 * y + l := by
    intro l hl
    have hr : x % 8 < 2 ^ 3 := Nat.mod_lt _ (by decide)
    have hj : x % 8 ^^^ l < 2 ^ 3 := Nat.xor_lt_two_pow hr (by omega)
    refine ⟨x % 8 ^^^ l, hj, ?_⟩
    have e1 := split_xor 3 (x / 8) (x % 8) hr
    have e2 := split_xor 3 13 (x % 8 ^^^ l) hj
    have e3 := split_xor 3 y l (by omega)
    have hm := Nat.div_add_mod x 8
    have e4 : 2 ^ 3 * (x / 8) ^^^ 2 ^ 3 * 13 = 2 ^ 3 * y := by
      rw [hy]
      apply Nat.eq_of_testBit_eq
      intro i
      simp only [Nat.testBit_xor, Nat.testBit_two_pow_mul]
      by_cases hi : 3 ≤ i <;> simp [hi]
    have e5 : x = 2 ^ 3 * (x / 8) ^^^ x % 8 := by rw [e1]; omega
    have e6 : 104 + (x % 8 ^^^ l) = 2 ^ 3 * 13 ^^^ (x % 8 ^^^ l) := by rw [e2]
    rw [e6]
    conv => lhs; lhs; rw [e5]
    rw [xor_swap, e4, xor_cancel, e3]
  refine eight (8 * y * 16777619 % 4294967296) (Nat.mod_lt _ (by omega)) (by omega) K ?_
  intro l hl
  obtain ⟨j, hj, e⟩ := key l hl
  have := h j hj
  rw [e] at this
  rw [← this]
  congr 1
  omega
end S
end Go.Proofs.Ytkjmajkmjebhnaa
