/-
  What the document's Add answers where there is room.
-/
import Derived.Test.YtncchapgoedncaaRfAdd
import Derived.Deep.RegionHeld
namespace Go.Proofs.Ytncchapgoedncaa
open Go.RowKit

/-- Three cells of a block are set: other blocks. -/
def set3 (W : World) (b : Nat) (x y z : Value) : World := ((W.setCell ⟨b, 0, none⟩ x).setCell ⟨b, 1, none⟩ y).setCell ⟨b, 2, none⟩ z
theorem set3_heap (W : World) {b g : Nat} (x y z : Value) (h : g ≠ b) : (set3 W b x y z).heap[g]? = W.heap[g]? := by
  unfold set3
  rw [Below.heap_setCell _ _ _ _ h, Below.heap_setCell _ _ _ _ h, Below.heap_setCell _ _ _ _ h]
theorem set3_cell (W : World) {b g o : Nat} (x y z : Value) (h : g ≠ b) : (set3 W b x y z).cell? ⟨g, o, none⟩ = W.cell? ⟨g, o, none⟩ := World.cell?_of_block (a := ⟨g, o, none⟩) (set3_heap W x y z h)
theorem set3_size (W : World) (b : Nat) (x y z : Value) : (set3 W b x y z).heap.size = W.heap.size := by simp [set3]
theorem set3_below {w W : World} {B b : Nat} (h : Below B w W) (hb : B ≤ b) (x y z : Value) : Below B w (set3 W b x y z) := ((h.setCell (p := ⟨b, 0, none⟩) hb _).setCell (p := ⟨b, 1, none⟩) hb _).setCell (p := ⟨b, 2, none⟩) hb _
theorem Rf.set3 {W : World} {v : Value} {room g1 g2 c1 c2 : Nat} {T : Nat → ByteArray} {S : Nat → Nat} (h : Rf W v room T S g1 g2 c1 c2) {b : Nat} (x y z : Value) (h1 : g1 ≠ b) (h2 : g2 ≠ b) : Rf (set3 W b x y z) v room T S g1 g2 c1 c2 :=
  h.carry (Nat.le_of_eq (set3_size W b x y z).symm) (set3_heap W x y z h1) (set3_heap W x y z h2)

set_option maxHeartbeats 800000 in
set_option maxRecDepth 20000 in
theorem ref_Add_yes {w : World} {v : Value} {room g1 g2 c1 c2 : Nat} {T : Nat → ByteArray} {S : Nat → Nat} (h : Rf w v room T S g1 g2 c1 c2) (i : Nat) (hi : i < 256) (s : ByteArray) (hr : room ≤ 16777216) (hl : (T i).size ≤ 16777216) (hfit : sumTo T 256 + s.size ≤ room) :
    Calls Try.prog 16 #[v, .int .i64 (i : Int), .string s] w fun e w' => ∃ v' g1' g2' c1' c2', e = .returned (.tuple #[v', .int .i64 0]) ∧ Rf w' v' room (upd T i (T i ++ s)) (upd S i (S i)) g1' g2' c1' c2' ∧ w.heap.size ≤ g1' ∧ w.heap.size ≤ g2' ∧ Below w.heap.size w w' := by
  have hform := h.form
  subst hform
  have hff := ref_file i
  rw [isFile_nat hi] at hff
  have HF : Hid (∀ W, Calls Try.prog 28 #[.int .i64 (i : Int)] W fun e w' => e = .returned (.bool true) ∧ w' = W) := hff
  obtain ⟨u, hu'⟩ : ∃ u, u = sumTo T 256 := ⟨_, rfl⟩
  obtain ⟨a, ha⟩ : ∃ a, a = w.heap.size := ⟨_, rfl⟩
  have HU : Hid (∀ W, GA w W a room g1 g2 c1 c2 T S → Calls Try.prog 23 #[.agg #[.int .i64 (room : Int), .slice (some ⟨g1, 0, none⟩) 256 c1, .slice (some ⟨g2, 0, none⟩) 256 c2]] W fun e w' => e = .returned (.int .i64 (u : Int)) ∧ GA w w' a room g1 g2 c1 c2 T S) := by
    intro W hW
    have := ref_Used hW.rf (by omega)
    rw [← hu'] at this
    refine this.mono ?_
    rintro e w' ⟨rfl, hb⟩
    exact ⟨rfl, hW.below hb⟩
  obtain ⟨T', hT'⟩ : ∃ T', T' = upd T i (T i ++ s) := ⟨_, rfl⟩
  obtain ⟨S', hS'⟩ : ∃ S', S' = upd S i (S i) := ⟨_, rfl⟩
  rw [← hT', ← hS']
  obtain ⟨st, hst⟩ : ∃ st, st = T i := ⟨_, rfl⟩
  obtain ⟨su, hsu⟩ : ∃ su, su = S i := ⟨_, rfl⟩
  have HW : Hid (∀ W, GA w W a room g1 g2 c1 c2 T S → Calls Try.prog 29 #[.agg #[.int .i64 (room : Int), .slice (some ⟨g1, 0, none⟩) 256 c1, .slice (some ⟨g2, 0, none⟩) 256 c2], .int .i64 (i : Int), .string (st ++ s), .int .i64 (su : Int)] W fun e w' =>
      ∃ r1 r2 q1 q2, e = .returned (.agg #[.int .i64 (room : Int), .slice (some ⟨r1, 0, none⟩) 256 q1, .slice (some ⟨r2, 0, none⟩) 256 q2]) ∧ Hid (Rf w' (.agg #[.int .i64 (room : Int), .slice (some ⟨r1, 0, none⟩) 256 q1, .slice (some ⟨r2, 0, none⟩) 256 q2]) room T' S' r1 r2 q1 q2) ∧ Hid (a + 1 < r1 ∧ a + 1 < r2) ∧ GA w w' a room g1 g2 c1 c2 T S) := by
    intro W hW
    have := ref_with hW.rf i hi (st ++ s) su
    rw [hst, hsu, ← hT', ← hS'] at this
    rw [hst, hsu]
    refine this.mono ?_
    rintro e w' ⟨v', r1, r2, q1, q2, rfl, h1, h2, h3, hb⟩
    have hf := h1.form
    have hl := hW.lt
    subst hf
    exact ⟨r1, r2, q1, q2, rfl, h1, ⟨by omega, by omega⟩, hW.below hb⟩
  have HG : Hid _ := ga_start h 30
  rw [← ha] at HG
  rw [← hu'] at hfit
  have t1 : decide ((room : Int) - (u : Int) < (s.size : Int)) = false := by simp; omega
  have hwr : IntKind.i64.wrap ((room : Int) - (u : Int)) = (room : Int) - (u : Int) := wraps_i64 _ (by omega) (by omega)
  have HT : Hid (∀ W, GA w W a room g1 g2 c1 c2 T S → W.cell? ⟨g1, i, none⟩ = some (.string st) ∧ W.cell? ⟨g2, i, none⟩ = some (.int .i64 (su : Int))) := fun W hW => by rw [hst, hsu]; exact ⟨hW.rf.t i hi, hW.rf.s i hi⟩
  rw [← hst] at hl
  have hs4 : s.size ≤ 16777216 := by omega
  have Ha : Hid (a = w.heap.size) := ha
  have Hgg : Hid (g1 < a ∧ g2 < a) := by unfold Hid; rw [ha]; exact ⟨h.l1, h.l2⟩
  clear h hff hu' hfit hT' hS' hst hsu hr
  go_enter Try.func16, Try.ntmps16
  go_wp2_with fail
  refine (HF.out _).mono ?_
  rintro e w1 ⟨rfl, rfl⟩
  obtain ⟨w2, hw2⟩ : ∃ w2, w2 = (w.alloc (.cells #[.int .i64 (room : Int), .slice (some ⟨g1, 0, none⟩) 256 c1, .slice (some ⟨g2, 0, none⟩) 256 c2] 30)).alloc (.cells #[.int .i64 0, .slice none 0 0, .slice none 0 0] 30) := ⟨_, rfl⟩
  rw [← hw2] at HG ⊢
  have hg := HG.out.drew
  have x0 := HG.out.x0
  have x1 := HG.out.x1
  have x2 := HG.out.x2
  rw [← ha]
  clear hw2 HG ha
  have HK : Hid (∀ W, GA w W a room g1 g2 c1 c2 T S → W.cell? ⟨a, 0, none⟩ = some (.int .i64 (room : Int)) ∧ W.cell? ⟨a, 1, none⟩ = some (.slice (some ⟨g1, 0, none⟩) 256 c1) ∧ W.cell? ⟨a, 2, none⟩ = some (.slice (some ⟨g2, 0, none⟩) 256 c2) ∧ W.cell? ⟨g1, i, none⟩ = some (.string st) ∧ W.cell? ⟨g2, i, none⟩ = some (.int .i64 (su : Int))) :=
    fun W hW => ⟨hW.x0, hW.x1, hW.x2, (HT.out W hW).1, (HT.out W hW).2⟩
  have HK3 : Hid (∀ W x y z, GA w W a room g1 g2 c1 c2 T S → (set3 W (a + 1) x y z).cell? ⟨a, 0, none⟩ = some (.int .i64 (room : Int)) ∧ (set3 W (a + 1) x y z).cell? ⟨a, 1, none⟩ = some (.slice (some ⟨g1, 0, none⟩) 256 c1) ∧ (set3 W (a + 1) x y z).cell? ⟨a, 2, none⟩ = some (.slice (some ⟨g2, 0, none⟩) 256 c2) ∧ (set3 W (a + 1) x y z).cell? ⟨g1, i, none⟩ = some (.string st) ∧ (set3 W (a + 1) x y z).cell? ⟨g2, i, none⟩ = some (.int .i64 (su : Int))) := by
    intro W x y z hW
    have q1 := Hgg.out.1
    have q2 := Hgg.out.2
    rw [set3_cell W x y z (by omega), set3_cell W x y z (by omega), set3_cell W x y z (by omega), set3_cell W x y z (by omega), set3_cell W x y z (by omega)]
    exact HK.out W hW
  have hadd : ∀ W, (Op.stringOp .add st s).run Try.prog W = .ok (.string (st ++ s)) W := fun W => run_string_add_sum (P := Try.prog) (w := W) st s (by omega)
  have hi1 : (0 : Int) ≤ (i : Int) := by omega
  have hi2 : (i : Int) < 256 := by omega
  clear x0 x1 x2
  go_wp2
  go_region_held (fun W => W.cell? ⟨a, 0, none⟩ = some (.int .i64 (room : Int)) ∧ W.cell? ⟨a, 1, none⟩ = some (.slice (some ⟨g1, 0, none⟩) 256 c1) ∧ W.cell? ⟨a, 2, none⟩ = some (.slice (some ⟨g2, 0, none⟩) 256 c2) ∧ W.cell? ⟨g1, i, none⟩ = some (.string st) ∧ W.cell? ⟨g2, i, none⟩ = some (.int .i64 (su : Int)))
    (exact HK.out _ (by assumption))
    (first | (go_at_call 23; refine (HU.out _ ?_).mono ?_; assumption; rintro e w5 ⟨rfl, hg5⟩))
  have hg6 := hg5.drew
  clear hg hg5
  go_wp2
  go_region_held (fun W => W.cell? ⟨a, 0, none⟩ = some (.int .i64 (room : Int)) ∧ W.cell? ⟨a, 1, none⟩ = some (.slice (some ⟨g1, 0, none⟩) 256 c1) ∧ W.cell? ⟨a, 2, none⟩ = some (.slice (some ⟨g2, 0, none⟩) 256 c2) ∧ W.cell? ⟨g1, i, none⟩ = some (.string st) ∧ W.cell? ⟨g2, i, none⟩ = some (.int .i64 (su : Int)))
    (first | exact HK.out _ (by assumption) | exact HK3.out _ _ _ _ (by assumption))
    (first | (go_at_call 29; refine (HW.out _ ?_).mono ?_; assumption; rintro e w6 ⟨r1, r2, q1, q2, rfl, HRf, Hrr, hg7⟩; have z0 := hg7.z0; have z1 := hg7.z1; have z2 := hg7.z2; have f0 := hg7.f 0 (by omega); have f1 := hg7.f 1 (by omega); have f2 := hg7.f 2 (by omega)))
  have HB6 : Hid _ := hg7.bel
  clear hg7
  go_wp2
  refine bodyPost_ret (v := .tuple #[.agg #[.int .i64 (room : Int), .slice (some ⟨r1, 0, none⟩) 256 q1, .slice (some ⟨r2, 0, none⟩) 256 q2], .int .i64 0]) ?qres rfl ?qpost
  case qres => simp [results, Try.results16, go_sem, z0, z1, z2]
  case qpost =>
    have e := Ha.out
    obtain ⟨k1, k2⟩ := Hrr.out
    refine ⟨_, r1, r2, q1, q2, rfl, HRf.out.set3 _ _ _ (by omega) (by omega), by omega, by omega, set3_below HB6.out (by omega) _ _ _⟩
end Go.Proofs.Ytncchapgoedncaa
