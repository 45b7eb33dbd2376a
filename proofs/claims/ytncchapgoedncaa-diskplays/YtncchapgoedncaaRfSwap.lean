/-
  What the document's Swap answers.
-/
import Derived.Test.YtncchapgoedncaaRfTrim
import Derived.Deep.QuietTactic
import Derived.BigQuiet
namespace Go.Proofs.Ytncchapgoedncaa
open Go.RowKit

theorem GA.drewN {w W : World} {a room g1 g2 c1 c2 : Nat} {T : Nat → ByteArray} {S : Nat → Nat} (h : GA w W a room g1 g2 c1 c2 T S) (n : Nat) : GA w (W.drewN n) a room g1 g2 c1 c2 T S := h.below ⟨rfl, rfl, rfl, Nat.le_refl _, fun _ _ => rfl⟩

set_option maxHeartbeats 400000 in
theorem ref_Swap_out {w : World} {v : Value} {room g1 g2 c1 c2 : Nat} {T : Nat → ByteArray} {S : Nat → Nat} (h : Rf w v room T S g1 g2 c1 c2) (k m : Int) (hk : isFile k = false ∨ isFile m = false) :
    Calls Try.prog 21 #[v, .int .i64 k, .int .i64 m] w fun e w' => e = .returned (.tuple #[v, .int .i64 1]) ∧ Below w.heap.size w w' := by
  obtain ⟨a, w2, ha, hw2, hg, _, _⟩ := ga_begin h
  have hform := h.form
  subst hform
  have HF : Hid (∀ W, Calls Try.prog 28 #[.int .i64 k] W fun e w' => e = .returned (.bool (isFile k)) ∧ w' = W) := ref_file k
  have HF2 : Hid (∀ W, Calls Try.prog 28 #[.int .i64 m] W fun e w' => e = .returned (.bool (isFile m)) ∧ w' = W) := ref_file m
  have x0 := hg.x0
  have x1 := hg.x1
  have x2 := hg.x2
  have z0 := hg.z0
  have z1 := hg.z1
  have z2 := hg.z2
  have f0 := hg.f 0 (by omega)
  have f1 := hg.f 1 (by omega)
  have f2 := hg.f 2 (by omega)
  have HB : Hid (Below w.heap.size w w2) := hg.bel
  have Ha : Hid (a = w.heap.size) := ha
  clear h hg
  by_cases e : isFile k = false
  · rw [e] at HF
    clear hk e HF2
    go_enter Try.func21, Try.ntmps21
    go_wp2_with fail
    rw [← hw2, ← ha]
    refine (HF.out _).mono ?_
    rintro e w1 ⟨rfl, hq⟩
    subst hq
    clear hw2 ha
    go_wp2
    refine bodyPost_ret (v := .tuple #[.agg #[.int .i64 (room : Int), .slice (some ⟨g1, 0, none⟩) 256 c1, .slice (some ⟨g2, 0, none⟩) 256 c2], .int .i64 1]) ?qres rfl ?qpost
    case qres => simp [results, Try.results21, go_sem, z0, z1, z2]
    case qpost => exact ⟨rfl, set3_below HB.out (by have := Ha.out; omega) _ _ _⟩
  · rw [show isFile k = true by cases hq : isFile k; exact absurd hq e; rfl] at HF
    have hm : isFile m = false := by rcases hk with q | q; exact absurd q e; exact q
    rw [hm] at HF2
    clear hk e hm
    go_enter Try.func21, Try.ntmps21
    go_wp2_with fail
    rw [← hw2, ← ha]
    refine (HF.out _).mono ?_
    rintro e w1 ⟨rfl, hq⟩
    subst hq
    clear hw2 ha
    go_wp2_with fail
    refine (HF2.out _).mono ?_
    rintro e w1 ⟨rfl, hq⟩
    subst hq
    go_wp2
    refine bodyPost_ret (v := .tuple #[.agg #[.int .i64 (room : Int), .slice (some ⟨g1, 0, none⟩) 256 c1, .slice (some ⟨g2, 0, none⟩) 256 c2], .int .i64 1]) ?qres rfl ?qpost
    case qres => simp [results, Try.results21, go_sem, z0, z1, z2]
    case qpost => exact ⟨rfl, set3_below HB.out (by have := Ha.out; omega) _ _ _⟩

set_option maxHeartbeats 800000 in
set_option maxRecDepth 20000 in
theorem ref_Swap_loose {w : World} {v : Value} {room g1 g2 c1 c2 : Nat} {T : Nat → ByteArray} {S : Nat → Nat} (h : Rf w v room T S g1 g2 c1 c2) (i j : Nat) (hi : i < 256) (hj : j < 256) (hl : S i < (T i).size ∨ (¬ S i < (T i).size ∧ S j < (T j).size)) :
    Calls Try.prog 21 #[v, .int .i64 (i : Int), .int .i64 (j : Int)] w fun e w' => e = .returned (.tuple #[v, .int .i64 31]) ∧ Below w.heap.size w w' := by
  obtain ⟨a, w2, ha, hw2, hg, _, _⟩ := ga_begin h
  have hform := h.form
  subst hform
  have hff := ref_file i
  rw [isFile_nat hi] at hff
  have HF : Hid (∀ W, Calls Try.prog 28 #[.int .i64 (i : Int)] W fun e w' => e = .returned (.bool true) ∧ w' = W) := hff
  have hff2 := ref_file j
  rw [isFile_nat hj] at hff2
  have HF2 : Hid (∀ W, Calls Try.prog 28 #[.int .i64 (j : Int)] W fun e w' => e = .returned (.bool true) ∧ w' = W) := hff2
  have x0 := hg.x0
  have x1 := hg.x1
  have x2 := hg.x2
  have ci := hg.rf.t i hi
  have di := hg.rf.s i hi
  have cj := hg.rf.t j hj
  have dj := hg.rf.s j hj
  obtain ⟨si, hsi⟩ : ∃ si, si = T i := ⟨_, rfl⟩
  obtain ⟨sj, hsj⟩ : ∃ sj, sj = T j := ⟨_, rfl⟩
  obtain ⟨ui, hui⟩ : ∃ ui, ui = S i := ⟨_, rfl⟩
  obtain ⟨uj, huj⟩ : ∃ uj, uj = S j := ⟨_, rfl⟩
  rw [← hsi] at ci hl
  rw [← hsj] at cj hl
  rw [← hui] at di hl
  rw [← huj] at dj hl
  have HG : Hid (∀ n, GA w (w2.drewN n) a room g1 g2 c1 c2 T S) := hg.drewN
  have Ha : Hid (a = w.heap.size) := ha
  clear h hg hff hff2 hsi hsj hui huj x0
  have hi1 : (0 : Int) ≤ (i : Int) := by omega
  have hi2 : (i : Int) < 256 := by omega
  have hj1 : (0 : Int) ≤ (j : Int) := by omega
  have hj2 : (j : Int) < 256 := by omega
  rcases hl with hl | ⟨hl, hl2⟩
  · have t1 : decide ((ui : Int) < (si.size : Int)) = true := decide_eq_true (by omega)
    go_enter Try.func21, Try.ntmps21
    go_wp2_with fail
    rw [← hw2, ← ha]
    refine (HF.out _).mono ?_
    rintro e w1 ⟨rfl, hq⟩
    subst hq
    clear hw2 ha
    go_wp2_with fail
    refine (HF2.out _).mono ?_
    rintro e w1 ⟨rfl, hq⟩
    subst hq
    go_wp2
    go_quiet (fail)
    have hgN := HG.out nq
    have y0 := hgN.x0
    have y1 := hgN.x1
    have y2 := hgN.x2
    have z0 := hgN.z0
    have z1 := hgN.z1
    have z2 := hgN.z2
    have f0 := hgN.f 0 (by omega)
    have f1 := hgN.f 1 (by omega)
    have f2 := hgN.f 2 (by omega)
    have HB : Hid (Below w.heap.size w _) := hgN.bel
    clear hgN x1 x2 ci di cj dj
    go_wp2
    refine bodyPost_ret (v := .tuple #[.agg #[.int .i64 (room : Int), .slice (some ⟨g1, 0, none⟩) 256 c1, .slice (some ⟨g2, 0, none⟩) 256 c2], .int .i64 31]) ?qres rfl ?qpost
    case qres => simp [results, Try.results21, go_sem, z0, z1, z2]
    case qpost => exact ⟨rfl, set3_below HB.out (by have := Ha.out; omega) _ _ _⟩
  · have t1 : decide ((ui : Int) < (si.size : Int)) = false := decide_eq_false (by omega)
    have t2 : decide ((uj : Int) < (sj.size : Int)) = true := decide_eq_true (by omega)
    go_enter Try.func21, Try.ntmps21
    go_wp2_with fail
    rw [← hw2, ← ha]
    refine (HF.out _).mono ?_
    rintro e w1 ⟨rfl, hq⟩
    subst hq
    clear hw2 ha
    go_wp2_with fail
    refine (HF2.out _).mono ?_
    rintro e w1 ⟨rfl, hq⟩
    subst hq
    go_wp2
    go_quiet (fail)
    have hgN := HG.out nq
    have y0 := hgN.x0
    have y1 := hgN.x1
    have y2 := hgN.x2
    have z0 := hgN.z0
    have z1 := hgN.z1
    have z2 := hgN.z2
    have f0 := hgN.f 0 (by omega)
    have f1 := hgN.f 1 (by omega)
    have f2 := hgN.f 2 (by omega)
    have HB : Hid (Below w.heap.size w _) := hgN.bel
    clear hgN x1 x2 ci di cj dj
    go_wp2
    refine bodyPost_ret (v := .tuple #[.agg #[.int .i64 (room : Int), .slice (some ⟨g1, 0, none⟩) 256 c1, .slice (some ⟨g2, 0, none⟩) 256 c2], .int .i64 31]) ?qres rfl ?qpost
    case qres => simp [results, Try.results21, go_sem, z0, z1, z2]
    case qpost => exact ⟨rfl, set3_below HB.out (by have := Ha.out; omega) _ _ _⟩

end Go.Proofs.Ytncchapgoedncaa
