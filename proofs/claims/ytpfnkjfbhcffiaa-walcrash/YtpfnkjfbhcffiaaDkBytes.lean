/-
  What Bytes answers: the file's bytes from at on, n of them; or that there are no such.
-/
import Derived.Test.YtpfnkjfbhcffiaaDkSmall
namespace Go.Proofs.Ytpfnkjfbhcffiaa
open Go.RowKit

theorem Bytes_no (w : World) (d : Value) (k p n : Int) (h : NotMade w d) : Calls Try.prog 22 #[d, .int .i64 k, .int .i64 p, .int .i64 n] w fun e w' => e = .returned (.tuple #[.string ⟨#[]⟩, .int .i64 1]) ∧ w' = w := by
  have hm := has_no w d k h
  clear h
  go_enter Try.func22, Try.ntmps22
  go_wp2_with fail
  refine hm.mono ?_
  rintro e w' ⟨rfl, rfl⟩
  go_wp2
  go_ret2
  exact ⟨rfl, rfl⟩

theorem Bytes_out {w : World} {b room : Nat} {A : Nat → List UInt8} {S : Nat → Nat} {own : Nat → Prop} (h : Dk w b room A S own) (k p n : Int) (hk : isFile k = false ∨ p < 0 ∨ n < 0) : Calls Try.prog 22 #[.pointer (some ⟨b, 0, none⟩), .int .i64 k, .int .i64 p, .int .i64 n] w fun e w' => e = .returned (.tuple #[.string ⟨#[]⟩, .int .i64 1]) ∧ w' = w := by
  have hm := has_yes h k
  clear h
  by_cases e : isFile k = false
  · rw [e] at hm
    clear hk e
    go_enter Try.func22, Try.ntmps22
    go_wp2_with fail
    refine hm.mono ?_
    rintro e w' ⟨rfl, rfl⟩
    go_wp2
    go_ret2
    exact ⟨rfl, rfl⟩
  · rw [show isFile k = true by cases hq : isFile k; exact absurd hq e; rfl] at hm
    have hk' : p < 0 ∨ n < 0 := by rcases hk with q | q; exact absurd q e; exact q
    clear hk e
    by_cases e : p < 0
    · have h1 : decide (p < 0) = true := by simpa using e
      clear hk' e
      go_enter Try.func22, Try.ntmps22
      go_wp2_with fail
      refine hm.mono ?_
      rintro e w' ⟨rfl, rfl⟩
      go_wp2
      go_ret2
      exact ⟨rfl, rfl⟩
    · have h1 : decide (p < 0) = false := by simpa using e
      have h2 : decide (n < 0) = true := by simp; omega
      clear hk' e
      go_enter Try.func22, Try.ntmps22
      go_wp2_with fail
      refine hm.mono ?_
      rintro e w' ⟨rfl, rfl⟩
      go_wp2
      go_ret2
      exact ⟨rfl, rfl⟩

theorem Bytes_past {w : World} {b room : Nat} {A : Nat → List UInt8} {S : Nat → Nat} {own : Nat → Prop} (h : Dk w b room A S own) (i : Nat) (hi : i < 256) (p n : Nat) (hn : (n : Int) < 9223372036854775808) (hpast : (A i).length < p + n) : Calls Try.prog 22 #[.pointer (some ⟨b, 0, none⟩), .int .i64 (i : Int), .int .i64 (p : Int), .int .i64 (n : Int)] w fun e w' => e = .returned (.tuple #[.string ⟨#[]⟩, .int .i64 1]) ∧ w' = w := by
  have hm := has_yes h i
  rw [isFile_nat hi] at hm
  obtain ⟨V, h⟩ := h
  have h0 := h.bytes i hi
  have hl := h.len hi
  obtain ⟨ao, cap, hv⟩ := (h.row i hi).form
  rw [hv] at h0
  obtain ⟨m, hm'⟩ : ∃ m, m = (A i).length := ⟨_, rfl⟩
  rw [← hm'] at h0 hl hpast
  clear h hv hm'
  have p0 : decide ((p : Int) < 0) = false := by simp
  have n0 : decide ((n : Int) < 0) = false := by simp
  by_cases e : m < p
  · have h1 : decide (m < p) = true := by simp; omega
    go_enter Try.func22, Try.ntmps22
    go_wp2_with fail
    refine hm.mono ?_
    rintro e w' ⟨rfl, rfl⟩
    go_wp2
    go_ret2
    exact ⟨rfl, rfl⟩
  · have h1 : decide (m < p) = false := by simp; omega
    have h2 : decide ((m : Int) - (p : Int) < (n : Int)) = true := by simp; omega
    go_enter Try.func22, Try.ntmps22
    go_wp2_with fail
    refine hm.mono ?_
    rintro e w' ⟨rfl, rfl⟩
    go_wp2
    go_ret2
    exact ⟨rfl, rfl⟩

theorem Bytes_yes {w : World} {b room : Nat} {A : Nat → List UInt8} {S : Nat → Nat} {own : Nat → Prop} (h : Dk w b room A S own) (i : Nat) (hi : i < 256) (p n : Nat) (hin : p + n ≤ (A i).length) : Calls Try.prog 22 #[.pointer (some ⟨b, 0, none⟩), .int .i64 (i : Int), .int .i64 (p : Int), .int .i64 (n : Int)] w fun e w' => e = .returned (.tuple #[.string ⟨(((A i).drop p).take n).toArray⟩, .int .i64 0]) ∧ w' = w := by
  have hm := has_yes h i
  rw [isFile_nat hi] at hm
  obtain ⟨V, h⟩ := h
  have h0 := h.bytes i hi
  have hl := h.len hi
  obtain ⟨hq, ⟨hv, hz⟩ | ⟨g, cap, cur, hv, hbg, hg, hnc, hcm, hcs, htk⟩⟩ := h.row i hi
  · rw [hv] at h0
    have hA : A i = [] := List.eq_nil_of_length_eq_zero hz
    have e1 : p = 0 := by omega
    have e2 : n = 0 := by omega
    subst e1 e2
    have HR : Hid ((((A i).drop 0).take 0) = []) := by simp [Hid]
    obtain ⟨r, hr⟩ : ∃ r, r = (((A i).drop 0).take 0) := ⟨_, rfl⟩
    rw [← hr] at HR ⊢
    have hc0 : (convert 60 9 (.slice none 0 0)).run Try.prog w = .ok (.string ⟨#[]⟩) w := by kernel_rfl
    clear h hv hq hz hA hl hin hr
    go_enter Try.func22, Try.ntmps22
    go_wp2_with fail
    refine hm.mono ?_
    rintro e w' ⟨rfl, rfl⟩
    go_wp2
    go_ret2
    rw [HR.out]
    exact ⟨rfl, rfl⟩
  · rw [hv] at h0
    have p0 : decide ((p : Int) < 0) = false := by simp
    have n0 : decide ((n : Int) < 0) = false := by simp
    have hlen : (((A i).drop p).take n).length = n := by simp; omega
    have hcell : ∀ j, j < n → w.cell? ⟨g, p + j, none⟩ = (Lib.byteCells (A i))[p + j]? := fun j hj =>
      World.ownsRow.cellAt (w := w) (base := b + 1) (e := 5) (size := 1) (g := g) (n := (A i).length) (cap := cap) (xs := Lib.byteCells (A i)) ⟨hq, .inr ⟨g, cap, cur, rfl, hbg, hg, hnc, hcm, hcs, htk⟩⟩ (p + j) (by omega)
    have hconv : ∀ (o c : Nat), (o = p ∨ n = 0) → (convert 60 9 (.slice (some ⟨g, o, none⟩) n c)).run Try.prog w = .ok (.string ⟨(((A i).drop p).take n).toArray⟩) w := by
      intro o c ho
      have := run_convert_bytes_back (P := Try.prog) w 60 9 5 ⟨g, o, none⟩ c (((A i).drop p).take n) Try.underlying60 Try.underlying5 Try.underlying9 (by
        intro j hj
        have hj2 : j < n := by rw [hlen] at hj; exact hj
        rcases ho with rfl | ho
        · rw [show (⟨g, o, none⟩ : Addr).add j = ⟨g, o + j, none⟩ from by unfold Addr.add; split <;> simp_all, hcell j hj2]
          have hx : o + j < (A i).length := by omega
          simp [Lib.byteCells, hx]
        · omega)
      rw [hlen] at this
      exact this
    obtain ⟨m, hm'⟩ : ∃ m, m = (A i).length := ⟨_, rfl⟩
    rw [← hm'] at h0 hl hin hnc
    obtain ⟨r, hr⟩ : ∃ r, r = (((A i).drop p).take n) := ⟨_, rfl⟩
    rw [← hr] at hconv ⊢
    have h1 : decide (m < p) = false := by simp; omega
    have h2 : decide ((m : Int) - (p : Int) < (n : Int)) = false := by simp; omega
    have h3 : p + n - p = n := by omega
    unfold maxLen at hcm
    clear h hv hq hcell hlen hm' htk hcs hg hbg hr
    by_cases e : cap = p
    · have e0 : n = 0 := by omega
      have em : m = p := by omega
      subst e0 em e
      have hc2 := hconv 0 0 (.inr rfl)
      clear hconv
      go_enter Try.func22, Try.ntmps22
      go_wp2_with fail
      refine hm.mono ?_
      rintro e w' ⟨rfl, rfl⟩
      go_wp2
      go_ret2
      exact ⟨rfl, rfl⟩
    · have hc2 := hconv p (cap - p) (.inl rfl)
      clear hconv
      go_enter Try.func22, Try.ntmps22
      go_wp2_with fail
      refine hm.mono ?_
      rintro e w' ⟨rfl, rfl⟩
      go_wp2
      go_ret2
      exact ⟨rfl, rfl⟩

end Go.Proofs.Ytpfnkjfbhcffiaa
