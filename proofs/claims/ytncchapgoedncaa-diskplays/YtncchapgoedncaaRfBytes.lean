/-
  What the document's Bytes answers.
-/
import Derived.Test.YtncchapgoedncaaRfOwn
namespace Go.Proofs.Ytncchapgoedncaa
open Go.RowKit

theorem boxed {w : World} {v : Value} {room g1 g2 c1 c2 : Nat} {T : Nat → ByteArray} {S : Nat → Nat} (h : Rf w v room T S g1 g2 c1 c2) (t : TypeId) :
    Below w.heap.size w (w.alloc (.cells #[.int .i64 (room : Int), .slice (some ⟨g1, 0, none⟩) 256 c1, .slice (some ⟨g2, 0, none⟩) 256 c2] t)) ∧
    (∀ i, i < 256 → (w.alloc (.cells #[.int .i64 (room : Int), .slice (some ⟨g1, 0, none⟩) 256 c1, .slice (some ⟨g2, 0, none⟩) 256 c2] t)).cell? ⟨g1, i, none⟩ = some (.string (T i))) ∧
    (∀ i, i < 256 → (w.alloc (.cells #[.int .i64 (room : Int), .slice (some ⟨g1, 0, none⟩) 256 c1, .slice (some ⟨g2, 0, none⟩) 256 c2] t)).cell? ⟨g2, i, none⟩ = some (.int .i64 (S i : Int))) := by
  have hb := (Below.refl w.heap.size w).alloc (Nat.le_refl _) (.cells #[.int .i64 (room : Int), .slice (some ⟨g1, 0, none⟩) 256 c1, .slice (some ⟨g2, 0, none⟩) 256 c2] t)
  exact ⟨hb, (h.below hb).t, (h.below hb).s⟩

theorem ref_Bytes_out {w : World} {v : Value} {room g1 g2 c1 c2 : Nat} {T : Nat → ByteArray} {S : Nat → Nat} (h : Rf w v room T S g1 g2 c1 c2) (k p n : Int) (hk : isFile k = false ∨ p < 0 ∨ n < 0) :
    Calls Try.prog 17 #[v, .int .i64 k, .int .i64 p, .int .i64 n] w fun e w' => e = .returned (.tuple #[.string ⟨#[]⟩, .int .i64 1]) ∧ Below w.heap.size w w' := by
  have hform := h.form
  subst hform
  have HB : Hid _ := (boxed h 30).1
  have HF : Hid (∀ W, Calls Try.prog 28 #[.int .i64 k] W fun e w' => e = .returned (.bool (isFile k)) ∧ w' = W) := ref_file k
  clear h
  by_cases e : isFile k = false
  · rw [e] at HF
    clear hk e
    go_enter Try.func17, Try.ntmps17
    go_wp2_with fail
    refine (HF.out _).mono ?_
    rintro e w1 ⟨rfl, rfl⟩
    go_wp2
    go_ret2
    exact ⟨rfl, HB.out⟩
  · rw [show isFile k = true by cases hq : isFile k; exact absurd hq e; rfl] at HF
    have hk' : p < 0 ∨ n < 0 := by rcases hk with q | q; exact absurd q e; exact q
    clear hk e
    by_cases e : p < 0
    · have h1 : decide (p < 0) = true := by simpa using e
      clear hk' e
      go_enter Try.func17, Try.ntmps17
      go_wp2_with fail
      refine (HF.out _).mono ?_
      rintro e w1 ⟨rfl, rfl⟩
      go_wp2
      go_ret2
      exact ⟨rfl, HB.out⟩
    · have h1 : decide (p < 0) = false := by simpa using e
      have h2 : decide (n < 0) = true := by simp; omega
      clear hk' e
      go_enter Try.func17, Try.ntmps17
      go_wp2_with fail
      refine (HF.out _).mono ?_
      rintro e w1 ⟨rfl, rfl⟩
      go_wp2
      go_ret2
      exact ⟨rfl, HB.out⟩

theorem ref_Bytes_past {w : World} {v : Value} {room g1 g2 c1 c2 : Nat} {T : Nat → ByteArray} {S : Nat → Nat} (h : Rf w v room T S g1 g2 c1 c2) (i : Nat) (hi : i < 256) (p n : Nat) (hn : (n : Int) < 9223372036854775808) (hpast : (T i).size < p + n) :
    Calls Try.prog 17 #[v, .int .i64 (i : Int), .int .i64 (p : Int), .int .i64 (n : Int)] w fun e w' => e = .returned (.tuple #[.string ⟨#[]⟩, .int .i64 1]) ∧ Below w.heap.size w w' := by
  have hform := h.form
  subst hform
  obtain ⟨hb, ht, _⟩ := boxed h 30
  have HB : Hid _ := hb
  have ct := ht i hi
  have hff := ref_file i
  rw [isFile_nat hi] at hff
  have HF : Hid (∀ W, Calls Try.prog 28 #[.int .i64 (i : Int)] W fun e w' => e = .returned (.bool true) ∧ w' = W) := hff
  obtain ⟨s, hs⟩ : ∃ s, s = T i := ⟨_, rfl⟩
  rw [← hs] at ct hpast
  have p0 : decide ((p : Int) < 0) = false := by simp
  have n0 : decide ((n : Int) < 0) = false := by simp
  clear h hb ht hff hs
  by_cases e : s.size < p
  · have h1 : decide (s.size < p) = true := by simpa using e
    go_enter Try.func17, Try.ntmps17
    go_wp2_with fail
    refine (HF.out _).mono ?_
    rintro e w1 ⟨rfl, rfl⟩
    go_wp2
    go_ret2
    exact ⟨rfl, HB.out⟩
  · have h1 : decide (s.size < p) = false := by simpa using e
    have h2 : decide ((s.size : Int) - (p : Int) < (n : Int)) = true := by simp; omega
    go_enter Try.func17, Try.ntmps17
    go_wp2_with fail
    refine (HF.out _).mono ?_
    rintro e w1 ⟨rfl, rfl⟩
    go_wp2
    go_ret2
    exact ⟨rfl, HB.out⟩

theorem ref_Bytes_yes {w : World} {v : Value} {room g1 g2 c1 c2 : Nat} {T : Nat → ByteArray} {S : Nat → Nat} (h : Rf w v room T S g1 g2 c1 c2) (i : Nat) (hi : i < 256) (p n : Nat) (hl : (T i).size ≤ 16777216) (hin : p + n ≤ (T i).size) :
    Calls Try.prog 17 #[v, .int .i64 (i : Int), .int .i64 (p : Int), .int .i64 (n : Int)] w fun e w' => e = .returned (.tuple #[.string ((T i).extract p (p + n)), .int .i64 0]) ∧ Below w.heap.size w w' := by
  have hform := h.form
  subst hform
  obtain ⟨hb, ht, _⟩ := boxed h 30
  have HB : Hid _ := hb
  have ct := ht i hi
  have hff := ref_file i
  rw [isFile_nat hi] at hff
  have HF : Hid (∀ W, Calls Try.prog 28 #[.int .i64 (i : Int)] W fun e w' => e = .returned (.bool true) ∧ w' = W) := hff
  obtain ⟨s, hs⟩ : ∃ s, s = T i := ⟨_, rfl⟩
  rw [← hs] at ct hin hl ⊢
  have p0 : decide ((p : Int) < 0) = false := by simp
  have n0 : decide ((n : Int) < 0) = false := by simp
  have h1 : decide (s.size < p) = false := by simp; omega
  have h2 : decide ((s.size : Int) - (p : Int) < (n : Int)) = false := by simp; omega
  clear h hb ht hff hs
  go_enter Try.func17, Try.ntmps17
  go_wp2_with fail
  refine (HF.out _).mono ?_
  rintro e w1 ⟨rfl, rfl⟩
  go_wp2
  go_ret2
  exact ⟨rfl, HB.out⟩

end Go.Proofs.Ytncchapgoedncaa
