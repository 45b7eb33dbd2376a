/-
  The document's disk in memory: its room, a row of 256 texts, a row of 256 numbers; what Used and file answer.
-/
import Derived.Test.YtncchapgoedncaaDkSmall
import Derived.Test.YtncchapgoedncaaDkCells
namespace Go.Proofs.Ytncchapgoedncaa
open Go.RowKit

/-- The value v is the document's disk: its texts lie in block g1, its numbers in block g2. -/
structure Rf (w : World) (v : Value) (room : Nat) (T : Nat → ByteArray) (S : Nat → Nat) (g1 g2 c1 c2 : Nat) : Prop where
  form : v = .agg #[.int .i64 (room : Int), .slice (some ⟨g1, 0, none⟩) 256 c1, .slice (some ⟨g2, 0, none⟩) 256 c2]
  k1 : 256 ≤ c1
  k2 : 256 ≤ c2
  l1 : g1 < w.heap.size
  l2 : g2 < w.heap.size
  t : ∀ i, i < 256 → w.cell? ⟨g1, i, none⟩ = some (.string (T i))
  s : ∀ i, i < 256 → w.cell? ⟨g2, i, none⟩ = some (.int .i64 (S i : Int))
theorem Rf.carry {w w' : World} {v : Value} {room g1 g2 c1 c2 : Nat} {T : Nat → ByteArray} {S : Nat → Nat} (h : Rf w v room T S g1 g2 c1 c2) (hs : w.heap.size ≤ w'.heap.size) (h1 : w'.heap[g1]? = w.heap[g1]?) (h2 : w'.heap[g2]? = w.heap[g2]?) : Rf w' v room T S g1 g2 c1 c2 :=
  ⟨h.form, h.k1, h.k2, Nat.lt_of_lt_of_le h.l1 hs, Nat.lt_of_lt_of_le h.l2 hs, fun i hi => by rw [World.cell?_of_block (a := ⟨g1, i, none⟩) h1]; exact h.t i hi, fun i hi => by rw [World.cell?_of_block (a := ⟨g2, i, none⟩) h2]; exact h.s i hi⟩
theorem Rf.below {w w' : World} {v : Value} {room g1 g2 c1 c2 : Nat} {T : Nat → ByteArray} {S : Nat → Nat} (h : Rf w v room T S g1 g2 c1 c2) (hb : Below w.heap.size w w') : Rf w' v room T S g1 g2 c1 c2 :=
  h.carry hb.size (hb.block _ h.l1) (hb.block _ h.l2)

theorem ref_file (k : Int) (w : World) : Calls Try.prog 28 #[.int .i64 k] w fun e w' => e = .returned (.bool (isFile k)) ∧ w' = w := by
  go_enter Try.func28, Try.ntmps28
  go_wp2
  all_goals
    go_ret
    exact ⟨ret_bool (by unfold isFile; simp; try omega), rfl⟩

/-- How many bytes the first n texts have. -/
def sumTo (T : Nat → ByteArray) : Nat → Nat
  | 0 => 0
  | n + 1 => sumTo T n + (T n).size
theorem sumTo_mono (T : Nat → ByteArray) {m : Nat} : ∀ n, m ≤ n → sumTo T m ≤ sumTo T n
  | 0, h => by rw [show m = 0 by omega]; exact Nat.le_refl _
  | n + 1, h => by
    by_cases e : m = n + 1
    · rw [e]; exact Nat.le_refl _
    · have := sumTo_mono T (m := m) n (by omega); rw [sumTo]; omega

set_option maxHeartbeats 400000 in
set_option maxRecDepth 20000 in
theorem ref_Used {w : World} {v : Value} {room g1 g2 c1 c2 : Nat} {T : Nat → ByteArray} {S : Nat → Nat} (h : Rf w v room T S g1 g2 c1 c2) (hb : sumTo T 256 ≤ 16777216) :
    Calls Try.prog 23 #[v] w fun e w' => e = .returned (.int .i64 (sumTo T 256 : Int)) ∧ Below w.heap.size w w' := by
  have hform := h.form
  subst hform
  obtain ⟨p, hp⟩ : ∃ p, p = w.heap.size := ⟨_, rfl⟩
  obtain ⟨W, hW⟩ : ∃ W, W = w.alloc (.cells #[.int .i64 (room : Int), .slice (some ⟨g1, 0, none⟩) 256 c1, .slice (some ⟨g2, 0, none⟩) 256 c2] 30) := ⟨_, rfl⟩
  have x1 : W.cell? ⟨p, 1, none⟩ = some (.slice (some ⟨g1, 0, none⟩) 256 c1) := by rw [hW, hp, World.cell?_alloc_mark]; rfl
  have HB : Hid (Below w.heap.size w W) := by show Below _ _ _; rw [hW]; exact (Below.refl _ _).alloc (Nat.le_refl _) _
  have HT : Hid (∀ i, i < 256 → W.cell? ⟨g1, i, none⟩ = some (.string (T i))) := (h.below HB.out).t
  have Hb : Hid (sumTo T 256 ≤ 16777216) := hb
  obtain ⟨r, hr⟩ : ∃ r, r = sumTo T 256 := ⟨_, rfl⟩
  have HR : Hid (r = sumTo T 256) := hr
  rw [← hr]
  clear h hb hr
  go_enter Try.func23, Try.ntmps23
  go_wp2
  rw [← hW, ← hp]
  clear hW hp
  go_loop [3, 4] (fun n i => ∃ k m : Nat, k ≤ 256 ∧ i = .int .i64 (k : Int) ∧ n = .int .i64 (m : Int) ∧ Hid (m = sumTo T k)) (fun _ i => 256 - (intOf i).toNat)
  case atStart => exact ⟨0, 0, by omega, rfl, rfl, rfl⟩
  case round =>
    obtain ⟨k, m, hk, rfl, rfl, HM⟩ := hrel
    by_cases hlt : k < 256
    · have hc := HT.out k hlt
      have h4 : m + (T k).size ≤ 16777216 := by
        have h5 := sumTo_mono T (m := k + 1) 256 (by omega)
        have h6 := Hb.out
        rw [sumTo, ← HM.out] at h5
        omega
      go_wp2
      go_round
      case rel => exact ⟨k + 1, m + (T k).size, by omega, by go_num, by go_num, by rw [sumTo, ← HM.out]; rfl⟩
      case measure => simp [intOf]; omega
    · have e : k = 256 := by omega
      subst e
      go_wp2
      go_ret
      exact ⟨ret_int (by rw [HM.out, HR.out]), HB.out⟩

end Go.Proofs.Ytncchapgoedncaa
