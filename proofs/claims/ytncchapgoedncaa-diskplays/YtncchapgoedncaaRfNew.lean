/-
  What the document's New answers.
-/
import Derived.Test.YtncchapgoedncaaRfCrash
namespace Go.Proofs.Ytncchapgoedncaa
open Go.RowKit

theorem infoStr : (Try.prog.info? 9).map (fun i => (i.zero, i.size, i.bytes)) = some (some (.string ⟨#[]⟩), 1, 16) := by kernel_rfl
theorem infoInt : (Try.prog.info? 3).map (fun i => (i.zero, i.size, i.bytes)) = some (some (.int .i64 0), 1, 8) := by kernel_rfl

/-- 256 texts of no byte; 256 noughts. -/
def noTexts : Array Value := madeCells (Value.string ⟨#[]⟩).cells (256 * 1)
def noNumbers : Array Value := madeCells (Value.int .i64 0).cells (256 * 1)
theorem noTexts_at (i : Nat) (h : i < 256) : noTexts[i]? = some (.string ⟨#[]⟩) := by
  have e : noTexts.toList = List.replicate 256 (Value.string ⟨#[]⟩) := by
    unfold noTexts
    rw [show (Value.string ⟨#[]⟩).cells = #[Value.string ⟨#[]⟩] from rfl, toList_madeCells_one]
  rw [← Array.getElem?_toList, e, List.getElem?_replicate, if_pos h]
theorem noNumbers_at (i : Nat) (h : i < 256) : noNumbers[i]? = some (.int .i64 0) := by
  have e : noNumbers.toList = List.replicate 256 (Value.int .i64 0) := by
    unfold noNumbers
    rw [show (Value.int .i64 0).cells = #[Value.int .i64 0] from rfl, toList_madeCells_one]
  rw [← Array.getElem?_toList, e, List.getElem?_replicate, if_pos h]

theorem run_makeT (W : World) : (Instr.makeSlice 27 (.int .i64 256) (.int .i64 256)).run Try.prog W = .ok (.slice (some ⟨W.heap.size, 0, none⟩) 256 256) (W.alloc (.cells noTexts 9)) := by
  obtain ⟨i0, hi, hz0, hz1, hz2⟩ := info_parts infoStr
  have h := run_make (P := Try.prog) W 27 9 i0 (.string ⟨#[]⟩) Try.underlying27 hi hz0 .i64 .i64 256 256 (by decide) (by decide) (by rw [hz2]; decide) (by decide)
  rw [hz1] at h
  exact h
theorem run_makeN (W : World) : (Instr.makeSlice 28 (.int .i64 256) (.int .i64 256)).run Try.prog W = .ok (.slice (some ⟨W.heap.size, 0, none⟩) 256 256) (W.alloc (.cells noNumbers 3)) := by
  obtain ⟨i0, hi, hz0, hz1, hz2⟩ := info_parts infoInt
  have h := run_make (P := Try.prog) W 28 3 i0 (.int .i64 0) Try.underlying28 hi hz0 .i64 .i64 256 256 (by decide) (by decide) (by rw [hz2]; decide) (by decide)
  rw [hz1] at h
  exact h

set_option maxHeartbeats 400000 in
theorem ref_New_out (w : World) (room : Int) (h : decide (room < 1) = true ∨ (decide (room < 1) = false ∧ decide (16777216 < room) = true)) :
    Calls Try.prog 5 #[.int .i64 room] w fun e w' => e = .returned (.tuple #[.agg #[.int .i64 0, .slice none 0 0, .slice none 0 0], .int .i64 1]) ∧ Below w.heap.size w w' := by
  obtain ⟨a, ha⟩ : ∃ a, a = w.heap.size := ⟨_, rfl⟩
  obtain ⟨w2, hw2⟩ : ∃ w2, w2 = w.alloc (.cells #[.int .i64 0, .slice none 0 0, .slice none 0 0] 30) := ⟨_, rfl⟩
  have hb : Below w.heap.size w w2 := by rw [hw2]; exact (Below.refl _ _).alloc (Nat.le_refl _) _
  have z0 : w2.cell? ⟨a, 0, none⟩ = some (.int .i64 0) := by rw [hw2, ha]; simp [go_sem]
  have z1 : w2.cell? ⟨a, 1, none⟩ = some (.slice none 0 0) := by rw [hw2, ha]; simp [go_sem]
  have z2 : w2.cell? ⟨a, 2, none⟩ = some (.slice none 0 0) := by rw [hw2, ha]; simp [go_sem]
  have f0 : w2.frozen? ⟨a, 0, none⟩ = false := by rw [hw2, ha]; simp [go_sem]
  have f1 : w2.frozen? ⟨a, 1, none⟩ = false := by rw [hw2, ha]; simp [go_sem]
  have f2 : w2.frozen? ⟨a, 2, none⟩ = false := by rw [hw2, ha]; simp [go_sem]
  have HB : Hid _ := hb
  have Ha : Hid (a = w.heap.size) := ha
  clear hb
  rcases h with h | ⟨h, h'⟩
  all_goals
    go_enter Try.func5, Try.ntmps5
    go_wp2
    refine bodyPost_ret (v := .tuple #[.agg #[.int .i64 0, .slice none 0 0, .slice none 0 0], .int .i64 1]) ?qres rfl ?qpost
    case qres => simp [results, Try.results5, go_sem]
    case qpost =>
      refine ⟨rfl, ?_⟩
      first | exact set3_below ((Below.refl _ w).alloc (Nat.le_refl _) _) (Nat.le_refl _) _ _ _ | exact (Below.refl _ w).alloc (Nat.le_refl _) _

/-- Two blocks, one made behind the other. -/
theorem two_made (w : World) (x y : Array Value) (t u : TypeId) (i : Nat) :
    ((w.alloc (.cells x t)).alloc (.cells y u)).drew.cell? ⟨w.heap.size, i, none⟩ = x[i]? ∧ ((w.alloc (.cells x t)).alloc (.cells y u)).drew.cell? ⟨w.heap.size + 1, i, none⟩ = y[i]? := by
  constructor
  · have hb : Below (w.alloc (.cells x t)).heap.size (w.alloc (.cells x t)) ((w.alloc (.cells x t)).alloc (.cells y u)).drew := ((Below.refl _ _).alloc (Nat.le_refl _) _).drew
    rw [hb.cell (p := ⟨w.heap.size, i, none⟩) (by simp), World.cell?_alloc_mark]
  · have e : w.heap.size + 1 = (w.alloc (.cells x t)).heap.size := by simp
    show ((w.alloc (.cells x t)).alloc (.cells y u)).cell? ⟨w.heap.size + 1, i, none⟩ = _
    rw [e, World.cell?_alloc_mark]

set_option maxHeartbeats 800000 in
set_option maxRecDepth 20000 in
theorem ref_New_yes (w : World) (room : Nat) (h1 : 1 ≤ room) (h2 : room ≤ 16777216) :
    Calls Try.prog 5 #[.int .i64 (room : Int)] w fun e w' => ∃ v g1 g2 c1 c2, e = .returned (.tuple #[v, .int .i64 0]) ∧ Rf w' v room (tx fun _ => []) (fun _ => 0) g1 g2 c1 c2 ∧ w.heap.size ≤ g1 ∧ w.heap.size ≤ g2 ∧ Below w.heap.size w w' := by
  have d1 : decide ((room : Int) < 1) = false := decide_eq_false (by omega)
  have d2 : decide ((16777216 : Int) < (room : Int)) = false := decide_eq_false (by omega)
  have m1 := run_makeT
  have m2 := run_makeN
  obtain ⟨nt, hnt⟩ : ∃ nt, nt = noTexts := ⟨_, rfl⟩
  obtain ⟨nn, hnn⟩ : ∃ nn, nn = noNumbers := ⟨_, rfl⟩
  rw [← hnt] at m1
  rw [← hnn] at m2
  have HT : Hid (∀ i, i < 256 → nt[i]? = some (.string ⟨#[]⟩)) := by rw [hnt]; exact noTexts_at
  have HN : Hid (∀ i, i < 256 → nn[i]? = some (.int .i64 0)) := by rw [hnn]; exact noNumbers_at
  clear hnt hnn h1 h2
  go_enter Try.func5, Try.ntmps5
  go_wp2
  go_region
  · obtain ⟨w1, hw1⟩ : ∃ w1, w1 = w.alloc (.cells #[.int .i64 (room : Int), .slice (some ⟨w.heap.size + 1, 0, none⟩) 256 256, .slice (some ⟨w.heap.size + 1 + 1, 0, none⟩) 256 256] 30) := ⟨_, rfl⟩
    have hs : w1.heap.size = w.heap.size + 1 := by rw [hw1]; simp
    have hb : Below w.heap.size w ((w1.alloc (.cells nt 9)).alloc (.cells nn 3)).drew := by
      rw [hw1]; exact ((((Below.refl _ w).alloc (Nat.le_refl _) _).alloc (by simp) _).alloc (by simp; omega) _).drew
    have hc := fun i => two_made w1 nt nn 9 3 i
    rw [hs] at hc
    have hz : ((w1.alloc (.cells nt 9)).alloc (.cells nn 3)).drew.heap.size = w.heap.size + 3 := by simp; omega
    go_wp2
    refine bodyPost_ret (v := .tuple #[.agg #[.int .i64 (room : Int), .slice (some ⟨w.heap.size + 1, 0, none⟩) 256 256, .slice (some ⟨w.heap.size + 1 + 1, 0, none⟩) 256 256], .int .i64 0]) ?qres rfl ?qpost
    case qres => simp [results, Try.results5, go_sem]
    case qpost =>
      rw [← hw1]
      exact ⟨_, w.heap.size + 1, w.heap.size + 1 + 1, 256, 256, rfl, ⟨rfl, Nat.le_refl _, Nat.le_refl _, by omega, by omega, fun i hi => by rw [(hc i).1]; exact HT.out i hi, fun i hi => by rw [(hc i).2]; exact HN.out i hi⟩, by omega, by omega, hb⟩
  · obtain ⟨w1, hw1⟩ : ∃ w1, w1 = w.alloc (.cells #[.int .i64 (room : Int), .slice (some ⟨w.heap.size + 1 + 1, 0, none⟩) 256 256, .slice (some ⟨w.heap.size + 1, 0, none⟩) 256 256] 30) := ⟨_, rfl⟩
    have hs : w1.heap.size = w.heap.size + 1 := by rw [hw1]; simp
    have hb : Below w.heap.size w ((w1.alloc (.cells nn 3)).alloc (.cells nt 9)).drew := by
      rw [hw1]; exact ((((Below.refl _ w).alloc (Nat.le_refl _) _).alloc (by simp) _).alloc (by simp; omega) _).drew
    have hc := fun i => two_made w1 nn nt 3 9 i
    rw [hs] at hc
    have hz : ((w1.alloc (.cells nn 3)).alloc (.cells nt 9)).drew.heap.size = w.heap.size + 3 := by simp; omega
    go_wp2
    refine bodyPost_ret (v := .tuple #[.agg #[.int .i64 (room : Int), .slice (some ⟨w.heap.size + 1 + 1, 0, none⟩) 256 256, .slice (some ⟨w.heap.size + 1, 0, none⟩) 256 256], .int .i64 0]) ?qres rfl ?qpost
    case qres => simp [results, Try.results5, go_sem]
    case qpost =>
      rw [← hw1]
      exact ⟨_, w.heap.size + 1 + 1, w.heap.size + 1, 256, 256, rfl, ⟨rfl, Nat.le_refl _, Nat.le_refl _, by omega, by omega, fun i hi => by rw [(hc i).2]; exact HT.out i hi, fun i hi => by rw [(hc i).1]; exact HN.out i hi⟩, by omega, by omega, hb⟩

end Go.Proofs.Ytncchapgoedncaa
