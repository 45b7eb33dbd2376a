/-
  What the document's Trim answers.
-/
import Derived.Test.YtncchapgoedncaaRfAdd2
namespace Go.Proofs.Ytncchapgoedncaa
open Go.RowKit

/-- The disk and its result's block, as a function of the document begins. -/
theorem ga_begin {w : World} {v : Value} {room g1 g2 c1 c2 : Nat} {T : Nat → ByteArray} {S : Nat → Nat} (h : Rf w v room T S g1 g2 c1 c2) :
    ∃ a w2, a = w.heap.size ∧ w2 = (w.alloc (.cells #[.int .i64 (room : Int), .slice (some ⟨g1, 0, none⟩) 256 c1, .slice (some ⟨g2, 0, none⟩) 256 c2] 30)).alloc (.cells #[.int .i64 0, .slice none 0 0, .slice none 0 0] 30) ∧ GA w w2 a room g1 g2 c1 c2 T S ∧ g1 < a ∧ g2 < a := by
  have hform := h.form
  subst hform
  exact ⟨_, _, rfl, rfl, ga_start h _, h.l1, h.l2⟩

theorem ref_Trim_out {w : World} {v : Value} {room g1 g2 c1 c2 : Nat} {T : Nat → ByteArray} {S : Nat → Nat} (h : Rf w v room T S g1 g2 c1 c2) (k m : Int) (hk : isFile k = false ∨ m < 0) :
    Calls Try.prog 18 #[v, .int .i64 k, .int .i64 m] w fun e w' => e = .returned (.tuple #[v, .int .i64 1]) ∧ Below w.heap.size w w' := by
  obtain ⟨a, w2, ha, hw2, hg, _, _⟩ := ga_begin h
  have hform := h.form
  subst hform
  have HF : Hid (∀ W, Calls Try.prog 28 #[.int .i64 k] W fun e w' => e = .returned (.bool (isFile k)) ∧ w' = W) := ref_file k
  have x0 := hg.x0
  have x1 := hg.x1
  have x2 := hg.x2
  have z0 := hg.z0
  have z1 := hg.z1
  have z2 := hg.z2
  have f0 := hg.f 0 (by omega)
  have f1 := hg.f 1 (by omega)
  have f2 := hg.f 2 (by omega)
  have HB : Hid (Below w.heap.size w w2) := hg.bel
  have Ha : Hid (a = w.heap.size) := ha
  clear h hg
  by_cases e : isFile k = false
  · rw [e] at HF
    clear hk e
    go_enter Try.func18, Try.ntmps18
    go_wp2_with fail
    rw [← hw2, ← ha]
    refine (HF.out _).mono ?_
    rintro e w1 ⟨rfl, hq⟩
    subst hq
    clear hw2 ha
    go_wp2
    refine bodyPost_ret (v := .tuple #[.agg #[.int .i64 (room : Int), .slice (some ⟨g1, 0, none⟩) 256 c1, .slice (some ⟨g2, 0, none⟩) 256 c2], .int .i64 1]) ?qres rfl ?qpost
    case qres => simp [results, Try.results18, go_sem, z0, z1, z2]
    case qpost => exact ⟨rfl, set3_below HB.out (by have := Ha.out; omega) _ _ _⟩
  · rw [show isFile k = true by cases hq : isFile k; exact absurd hq e; rfl] at HF
    have hm : decide (m < 0) = true := by rcases hk with q | q; exact absurd q e; simpa using q
    clear hk e
    go_enter Try.func18, Try.ntmps18
    go_wp2_with fail
    rw [← hw2, ← ha]
    refine (HF.out _).mono ?_
    rintro e w1 ⟨rfl, hq⟩
    subst hq
    clear hw2 ha
    go_wp2
    refine bodyPost_ret (v := .tuple #[.agg #[.int .i64 (room : Int), .slice (some ⟨g1, 0, none⟩) 256 c1, .slice (some ⟨g2, 0, none⟩) 256 c2], .int .i64 1]) ?qres rfl ?qpost
    case qres => simp [results, Try.results18, go_sem, z0, z1, z2]
    case qpost => exact ⟨rfl, set3_below HB.out (by have := Ha.out; omega) _ _ _⟩

theorem ref_Trim_past {w : World} {v : Value} {room g1 g2 c1 c2 : Nat} {T : Nat → ByteArray} {S : Nat → Nat} (h : Rf w v room T S g1 g2 c1 c2) (i m : Nat) (hi : i < 256) (hp : (T i).size < m) :
    Calls Try.prog 18 #[v, .int .i64 (i : Int), .int .i64 (m : Int)] w fun e w' => e = .returned (.tuple #[v, .int .i64 1]) ∧ Below w.heap.size w w' := by
  obtain ⟨a, w2, ha, hw2, hg, _, _⟩ := ga_begin h
  have hform := h.form
  subst hform
  have hff := ref_file i
  rw [isFile_nat hi] at hff
  have HF : Hid (∀ W, Calls Try.prog 28 #[.int .i64 (i : Int)] W fun e w' => e = .returned (.bool true) ∧ w' = W) := hff
  have x0 := hg.x0
  have x1 := hg.x1
  have x2 := hg.x2
  have z0 := hg.z0
  have z1 := hg.z1
  have z2 := hg.z2
  have f0 := hg.f 0 (by omega)
  have f1 := hg.f 1 (by omega)
  have f2 := hg.f 2 (by omega)
  have ct := hg.rf.t i hi
  obtain ⟨st, hst⟩ : ∃ st, st = T i := ⟨_, rfl⟩
  rw [← hst] at ct hp
  have HB : Hid (Below w.heap.size w w2) := hg.bel
  have Ha : Hid (a = w.heap.size) := ha
  have hm0 : decide ((m : Int) < 0) = false := by simp
  clear h hg hff hst
  go_enter Try.func18, Try.ntmps18
  go_wp2_with fail
  rw [← hw2, ← ha]
  refine (HF.out _).mono ?_
  rintro e w1 ⟨rfl, hq⟩
  subst hq
  clear hw2 ha
  go_wp2
  refine bodyPost_ret (v := .tuple #[.agg #[.int .i64 (room : Int), .slice (some ⟨g1, 0, none⟩) 256 c1, .slice (some ⟨g2, 0, none⟩) 256 c2], .int .i64 1]) ?qres rfl ?qpost
  case qres => simp [results, Try.results18, go_sem, z0, z1, z2]
  case qpost => exact ⟨rfl, set3_below HB.out (by have := Ha.out; omega) _ _ _⟩

theorem run_head (s : ByteArray) (m : Nat) (h : m ≤ s.size) (W : World) :
    (Instr.slice 9 (.string s) none (some (.int .i64 (m : Int))) none).run Try.prog W = .ok (.string (s.extract 0 m)) W := by
  rw [run_slice_string_h (ht := Try.underlying9) (kh := .i64) (h := (m : Int)) (h0 := by omega) (h2 := by omega), Int.toNat_natCast]

set_option maxHeartbeats 400000 in
set_option maxRecDepth 20000 in
theorem ref_Trim_yes {w : World} {v : Value} {room g1 g2 c1 c2 : Nat} {T : Nat → ByteArray} {S : Nat → Nat} (h : Rf w v room T S g1 g2 c1 c2) (i m : Nat) (hi : i < 256) (hp : m ≤ (T i).size) :
    Calls Try.prog 18 #[v, .int .i64 (i : Int), .int .i64 (m : Int)] w fun e w' => ∃ v' g1' g2' c1' c2', e = .returned (.tuple #[v', .int .i64 0]) ∧ Rf w' v' room (upd T i ((T i).extract 0 m)) (upd S i (min (S i) m)) g1' g2' c1' c2' ∧ w.heap.size ≤ g1' ∧ w.heap.size ≤ g2' ∧ Below w.heap.size w w' := by
  obtain ⟨a, w2, ha, hw2, hg, hga1, hga2⟩ := ga_begin h
  have hform := h.form
  subst hform
  have hff := ref_file i
  rw [isFile_nat hi] at hff
  have HF : Hid (∀ W, Calls Try.prog 28 #[.int .i64 (i : Int)] W fun e w' => e = .returned (.bool true) ∧ w' = W) := hff
  obtain ⟨T', hT'⟩ : ∃ T', T' = upd T i ((T i).extract 0 m) := ⟨_, rfl⟩
  obtain ⟨S', hS'⟩ : ∃ S', S' = upd S i (min (S i) m) := ⟨_, rfl⟩
  rw [← hT', ← hS']
  obtain ⟨st, hst⟩ : ∃ st, st = T i := ⟨_, rfl⟩
  obtain ⟨su, hsu⟩ : ∃ su, su = S i := ⟨_, rfl⟩
  obtain ⟨mn, hmn⟩ : ∃ mn, mn = min su m := ⟨_, rfl⟩
  obtain ⟨sx, hsx⟩ : ∃ sx, sx = st.extract 0 m := ⟨_, rfl⟩
  have HW : Hid (∀ W, GA w W a room g1 g2 c1 c2 T S → Calls Try.prog 29 #[.agg #[.int .i64 (room : Int), .slice (some ⟨g1, 0, none⟩) 256 c1, .slice (some ⟨g2, 0, none⟩) 256 c2], .int .i64 (i : Int), .string sx, .int .i64 (mn : Int)] W fun e w' =>
      ∃ r1 r2 q1 q2, e = .returned (.agg #[.int .i64 (room : Int), .slice (some ⟨r1, 0, none⟩) 256 q1, .slice (some ⟨r2, 0, none⟩) 256 q2]) ∧ Hid (Rf w' (.agg #[.int .i64 (room : Int), .slice (some ⟨r1, 0, none⟩) 256 q1, .slice (some ⟨r2, 0, none⟩) 256 q2]) room T' S' r1 r2 q1 q2) ∧ Hid (a + 1 < r1 ∧ a + 1 < r2) ∧ GA w w' a room g1 g2 c1 c2 T S) := by
    intro W hW
    have := ref_with hW.rf i hi sx mn
    rw [hsx, hmn, hst, hsu, ← hT', ← hS'] at this
    rw [hsx, hmn, hst, hsu]
    refine this.mono ?_
    rintro e w' ⟨v', r1, r2, q1, q2, rfl, h1, h2, h3, hb⟩
    have hf := h1.form
    have hl := hW.lt
    subst hf
    exact ⟨r1, r2, q1, q2, rfl, h1, ⟨by omega, by omega⟩, hW.below hb⟩
  have HT : Hid (∀ W, GA w W a room g1 g2 c1 c2 T S → W.cell? ⟨g1, i, none⟩ = some (.string st) ∧ W.cell? ⟨g2, i, none⟩ = some (.int .i64 (su : Int))) := fun W hW => by rw [hst, hsu]; exact ⟨hW.rf.t i hi, hW.rf.s i hi⟩
  rw [← hst] at hp
  have hrun := run_head st m hp
  rw [← hsx] at hrun
  have hmin : (if su < m then (su : Int) else (m : Int)) = (mn : Int) := by
    rw [hmn]
    by_cases hc : su < m
    · rw [if_pos hc, Nat.min_eq_left (by omega)]
    · rw [if_neg hc, Nat.min_eq_right (by omega)]
  have Ha : Hid (a = w.heap.size) := ha
  have Hgg : Hid (g1 < a ∧ g2 < a) := ⟨hga1, hga2⟩
  have HK : Hid (∀ W, GA w W a room g1 g2 c1 c2 T S → W.cell? ⟨a, 0, none⟩ = some (.int .i64 (room : Int)) ∧ W.cell? ⟨a, 1, none⟩ = some (.slice (some ⟨g1, 0, none⟩) 256 c1) ∧ W.cell? ⟨a, 2, none⟩ = some (.slice (some ⟨g2, 0, none⟩) 256 c2) ∧ W.cell? ⟨g1, i, none⟩ = some (.string st) ∧ W.cell? ⟨g2, i, none⟩ = some (.int .i64 (su : Int))) :=
    fun W hW => ⟨hW.x0, hW.x1, hW.x2, (HT.out W hW).1, (HT.out W hW).2⟩
  have HK3 : Hid (∀ W x y z, GA w W a room g1 g2 c1 c2 T S → (set3 W (a + 1) x y z).cell? ⟨a, 0, none⟩ = some (.int .i64 (room : Int)) ∧ (set3 W (a + 1) x y z).cell? ⟨a, 1, none⟩ = some (.slice (some ⟨g1, 0, none⟩) 256 c1) ∧ (set3 W (a + 1) x y z).cell? ⟨a, 2, none⟩ = some (.slice (some ⟨g2, 0, none⟩) 256 c2) ∧ (set3 W (a + 1) x y z).cell? ⟨g1, i, none⟩ = some (.string st) ∧ (set3 W (a + 1) x y z).cell? ⟨g2, i, none⟩ = some (.int .i64 (su : Int))) := by
    intro W x y z hW
    have q1 := Hgg.out.1
    have q2 := Hgg.out.2
    rw [set3_cell W x y z (by omega), set3_cell W x y z (by omega), set3_cell W x y z (by omega), set3_cell W x y z (by omega), set3_cell W x y z (by omega)]
    exact HK.out W hW
  have hi1 : (0 : Int) ≤ (i : Int) := by omega
  have hi2 : (i : Int) < 256 := by omega
  have hm0 : decide ((m : Int) < 0) = false := by simp
  obtain ⟨ct, cs⟩ := HT.out w2 hg
  have x1 := hg.x1
  have hgd := hg.drew
  clear h hff hT' hS' hst hsu hsx hmn hg hga1 hga2
  go_enter Try.func18, Try.ntmps18
  go_wp2_with fail
  rw [← hw2, ← ha]
  refine (HF.out _).mono ?_
  rintro e w1 ⟨rfl, hq⟩
  subst hq
  clear hw2 ha
  go_wp2
  clear x1 ct cs
  go_region_held (fun W => W.cell? ⟨a, 0, none⟩ = some (.int .i64 (room : Int)) ∧ W.cell? ⟨a, 1, none⟩ = some (.slice (some ⟨g1, 0, none⟩) 256 c1) ∧ W.cell? ⟨a, 2, none⟩ = some (.slice (some ⟨g2, 0, none⟩) 256 c2) ∧ W.cell? ⟨g1, i, none⟩ = some (.string st) ∧ W.cell? ⟨g2, i, none⟩ = some (.int .i64 (su : Int)))
    (first | exact HK.out _ (by assumption) | exact HK3.out _ _ _ _ (by assumption))
    (first | (go_at_call 29; refine (HW.out _ ?_).mono ?_; assumption; rintro e w6 ⟨r1, r2, q1, q2, rfl, HRf, Hrr, hg7⟩; have z0 := hg7.z0; have z1 := hg7.z1; have z2 := hg7.z2; have f0 := hg7.f 0 (by omega); have f1 := hg7.f 1 (by omega); have f2 := hg7.f 2 (by omega)))
  all_goals
    have HB6 : Hid _ := hg7.bel
    clear hg7
    go_wp2
    refine bodyPost_ret (v := .tuple #[.agg #[.int .i64 (room : Int), .slice (some ⟨r1, 0, none⟩) 256 q1, .slice (some ⟨r2, 0, none⟩) 256 q2], .int .i64 0]) ?qres rfl ?qpost
    case qres => simp [results, Try.results18, go_sem, z0, z1, z2]
    case qpost =>
      have e := Ha.out
      obtain ⟨k1, k2⟩ := Hrr.out
      refine ⟨_, r1, r2, q1, q2, rfl, HRf.out.set3 _ _ _ (by omega) (by omega), by omega, by omega, set3_below HB6.out (by omega) _ _ _⟩

end Go.Proofs.Ytncchapgoedncaa
