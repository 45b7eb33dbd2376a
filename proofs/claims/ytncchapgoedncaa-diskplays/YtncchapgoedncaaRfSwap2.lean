/-
  What the document's Swap answers where all bytes of both files are sure.
-/
import Derived.Test.YtncchapgoedncaaRfSwap
namespace Go.Proofs.Ytncchapgoedncaa
open Go.RowKit

set_option maxHeartbeats 1000000 in
set_option maxRecDepth 20000 in
theorem ref_Swap_yes {w : World} {v : Value} {room g1 g2 c1 c2 : Nat} {T : Nat → ByteArray} {S : Nat → Nat} (h : Rf w v room T S g1 g2 c1 c2) (i j : Nat) (hi : i < 256) (hj : j < 256) (hl : ¬ S i < (T i).size) (hl2 : ¬ S j < (T j).size) :
    Calls Try.prog 21 #[v, .int .i64 (i : Int), .int .i64 (j : Int)] w fun e w' => ∃ v' g1' g2' c1' c2', e = .returned (.tuple #[v', .int .i64 0]) ∧ Rf w' v' room (upd (upd T i (T j)) j (T i)) (upd (upd S i (T j).size) j (T i).size) g1' g2' c1' c2' ∧ w.heap.size ≤ g1' ∧ w.heap.size ≤ g2' ∧ Below w.heap.size w w' := by
  obtain ⟨a, w2, ha, hw2, hg, hga1, hga2⟩ := ga_begin h
  have hform := h.form
  subst hform
  have hff := ref_file i
  rw [isFile_nat hi] at hff
  have HF : Hid (∀ W, Calls Try.prog 28 #[.int .i64 (i : Int)] W fun e w' => e = .returned (.bool true) ∧ w' = W) := hff
  have hff2 := ref_file j
  rw [isFile_nat hj] at hff2
  have HF2 : Hid (∀ W, Calls Try.prog 28 #[.int .i64 (j : Int)] W fun e w' => e = .returned (.bool true) ∧ w' = W) := hff2
  obtain ⟨si, hsi⟩ : ∃ si, si = T i := ⟨_, rfl⟩
  obtain ⟨sj, hsj⟩ : ∃ sj, sj = T j := ⟨_, rfl⟩
  obtain ⟨ui, hui⟩ : ∃ ui, ui = S i := ⟨_, rfl⟩
  obtain ⟨uj, huj⟩ : ∃ uj, uj = S j := ⟨_, rfl⟩
  rw [← hsi, ← hsj]
  obtain ⟨T1, hT1⟩ : ∃ T1, T1 = upd T i sj := ⟨_, rfl⟩
  obtain ⟨S1, hS1⟩ : ∃ S1, S1 = upd S i sj.size := ⟨_, rfl⟩
  obtain ⟨T2, hT2⟩ : ∃ T2, T2 = upd T1 j si := ⟨_, rfl⟩
  obtain ⟨S2, hS2⟩ : ∃ S2, S2 = upd S1 j si.size := ⟨_, rfl⟩
  rw [← hT1, ← hS1, ← hT2, ← hS2]
  have HC : Hid (∀ W, GA w W a room g1 g2 c1 c2 T S → W.cell? ⟨a, 1, none⟩ = some (.slice (some ⟨g1, 0, none⟩) 256 c1) ∧ W.cell? ⟨a, 2, none⟩ = some (.slice (some ⟨g2, 0, none⟩) 256 c2) ∧ W.cell? ⟨g1, i, none⟩ = some (.string si) ∧ W.cell? ⟨g2, i, none⟩ = some (.int .i64 (ui : Int)) ∧ W.cell? ⟨g1, j, none⟩ = some (.string sj) ∧ W.cell? ⟨g2, j, none⟩ = some (.int .i64 (uj : Int))) :=
    fun W hW => ⟨hW.x1, hW.x2, by rw [hsi]; exact hW.rf.t i hi, by rw [hui]; exact hW.rf.s i hi, by rw [hsj]; exact hW.rf.t j hj, by rw [huj]; exact hW.rf.s j hj⟩
  have HW : Hid (∀ W, GA w W a room g1 g2 c1 c2 T S → Calls Try.prog 29 #[.agg #[.int .i64 (room : Int), .slice (some ⟨g1, 0, none⟩) 256 c1, .slice (some ⟨g2, 0, none⟩) 256 c2], .int .i64 (i : Int), .string sj, .int .i64 (sj.size : Int)] W fun e w' =>
      ∃ r1 r2 q1 q2, e = .returned (.agg #[.int .i64 (room : Int), .slice (some ⟨r1, 0, none⟩) 256 q1, .slice (some ⟨r2, 0, none⟩) 256 q2]) ∧ Hid (Rf w' (.agg #[.int .i64 (room : Int), .slice (some ⟨r1, 0, none⟩) 256 q1, .slice (some ⟨r2, 0, none⟩) 256 q2]) room T1 S1 r1 r2 q1 q2) ∧ GA w w' a room g1 g2 c1 c2 T S) := by
    intro W hW
    have := ref_with hW.rf i hi sj sj.size
    rw [← hT1, ← hS1] at this
    refine this.mono ?_
    rintro e w' ⟨v', r1, r2, q1, q2, rfl, h1, h2, h3, hb⟩
    have hf := h1.form
    subst hf
    exact ⟨r1, r2, q1, q2, rfl, h1, hW.below hb⟩
  have HW2 : Hid (∀ W p1 p2 k1 k2, GA w W a room g1 g2 c1 c2 T S → Rf W (.agg #[.int .i64 (room : Int), .slice (some ⟨p1, 0, none⟩) 256 k1, .slice (some ⟨p2, 0, none⟩) 256 k2]) room T1 S1 p1 p2 k1 k2 → Calls Try.prog 29 #[.agg #[.int .i64 (room : Int), .slice (some ⟨p1, 0, none⟩) 256 k1, .slice (some ⟨p2, 0, none⟩) 256 k2], .int .i64 (j : Int), .string si, .int .i64 (si.size : Int)] W fun e w' =>
      ∃ r1 r2 q1 q2, e = .returned (.agg #[.int .i64 (room : Int), .slice (some ⟨r1, 0, none⟩) 256 q1, .slice (some ⟨r2, 0, none⟩) 256 q2]) ∧ Hid (Rf w' (.agg #[.int .i64 (room : Int), .slice (some ⟨r1, 0, none⟩) 256 q1, .slice (some ⟨r2, 0, none⟩) 256 q2]) room T2 S2 r1 r2 q1 q2) ∧ Hid (a + 1 < r1 ∧ a + 1 < r2) ∧ GA w w' a room g1 g2 c1 c2 T S) := by
    intro W p1 p2 k1 k2 hW hR
    have := ref_with hR j hj si si.size
    rw [← hT2, ← hS2] at this
    refine this.mono ?_
    rintro e w' ⟨v', r1, r2, q1, q2, rfl, h1, h2, h3, hb⟩
    have hf := h1.form
    have hl := hW.lt
    subst hf
    exact ⟨r1, r2, q1, q2, rfl, h1, ⟨by omega, by omega⟩, hW.below hb⟩
  have HG : Hid (GA w w2 a room g1 g2 c1 c2 T S) := hg
  have Ha : Hid (a = w.heap.size) := ha
  have hi1 : (0 : Int) ≤ (i : Int) := by omega
  have hi2 : (i : Int) < 256 := by omega
  have hj1 : (0 : Int) ≤ (j : Int) := by omega
  have hj2 : (j : Int) < 256 := by omega
  rw [← hsi, ← hui] at hl
  rw [← hsj, ← huj] at hl2
  have t1 : decide ((ui : Int) < (si.size : Int)) = false := decide_eq_false (by omega)
  have t2 : decide ((uj : Int) < (sj.size : Int)) = false := decide_eq_false (by omega)
  obtain ⟨x1, x2, ci, di, cj, dj⟩ := HC.out w2 hg
  clear h hg hff hff2 hsi hsj hui huj hT1 hS1 hT2 hS2 hga1 hga2
  go_enter Try.func21, Try.ntmps21
  go_wp2_with fail
  rw [← hw2, ← ha]
  refine (HF.out _).mono ?_
  rintro e w1 ⟨rfl, hq⟩
  have hq := hq.symm
  subst hq
  clear hw2 ha
  go_wp2_with fail
  refine (HF2.out _).mono ?_
  rintro e w1 ⟨rfl, hq⟩
  have hq := hq.symm
  subst hq
  go_wp2
  go_quiet (fail)
  have hgN := HG.out.drewN nq
  obtain ⟨W3, hW3⟩ : ∃ W3, W3 = w2.drewN nq := ⟨_, rfl⟩
  rw [← hW3] at hgN ⊢
  clear hW3 x1 x2 ci di cj dj HG
  obtain ⟨x1, x2, ci, di, cj, dj⟩ := HC.out W3 hgN
  have HG3 : Hid _ := hgN
  clear hgN
  go_wp2
  go_quiet (fail)
  have hgN := HG3.out.drewN nq
  obtain ⟨W4, hW4⟩ : ∃ W4, W4 = W3.drewN nq := ⟨_, rfl⟩
  rw [← hW4] at hgN ⊢
  clear hW4 x1 x2 ci di cj dj HG3
  have y0 := hgN.x0
  have y1 := hgN.x1
  have y2 := hgN.x2
  have HG4 : Hid _ := hgN
  clear hgN
  go_wp2_with fail
  refine (HW.out _ HG4.out).mono ?_
  rintro e w5 ⟨p1, p2, k1, k2, rfl, HR1, hg5⟩
  have HG5 : Hid _ := hg5
  clear hg5
  go_wp2_with fail
  refine (HW2.out _ p1 p2 k1 k2 HG5.out HR1.out).mono ?_
  rintro e w6 ⟨r1, r2, q1, q2, rfl, HRf, Hrr, hg7⟩
  have z0 := hg7.z0
  have z1 := hg7.z1
  have z2 := hg7.z2
  have f0 := hg7.f 0 (by omega)
  have f1 := hg7.f 1 (by omega)
  have f2 := hg7.f 2 (by omega)
  have HB6 : Hid _ := hg7.bel
  clear hg7
  go_wp2
  refine bodyPost_ret (v := .tuple #[.agg #[.int .i64 (room : Int), .slice (some ⟨r1, 0, none⟩) 256 q1, .slice (some ⟨r2, 0, none⟩) 256 q2], .int .i64 0]) ?qres rfl ?qpost
  case qres => simp [results, Try.results21, go_sem, z0, z1, z2]
  case qpost =>
    have e := Ha.out
    obtain ⟨k1, k2⟩ := Hrr.out
    refine ⟨_, r1, r2, q1, q2, rfl, HRf.out.set3 _ _ _ (by omega) (by omega), by omega, by omega, set3_below HB6.out (by omega) _ _ _⟩

end Go.Proofs.Ytncchapgoedncaa
