/-
  Each call of a script on both sides; and that the two disks hold the same.
-/
import Derived.Test.YtncchapgoedncaaDpDoes
import Derived.Test.YtncchapgoedncaaDpDoes3
import Derived.Test.YtncchapgoedncaaDpDoes4
namespace Go.Proofs.Ytncchapgoedncaa
open Go.RowKit

theorem does_any {w W : World} {b room g1 g2 c1 c2 : Nat} {A : Nat → List UInt8} {S : Nat → Nat} {own : Nat → Prop} (h0 : Pr w W b room A S g1 g2 c1 c2 own) (kind file a2 b2 : Int) (text : ByteArray) (kv : Value) (hb2 : b2 ≤ 9223372036854775807) (g : Nat) (K : List Int) (hK : Ints W g kv K) (hg : K ≠ [] → g < w.heap.size) :
    Calls Try.prog 7 #[.pointer (some ⟨b, 0, none⟩), rv room g1 g2 c1 c2, .agg (opCells kind file a2 b2 text kv)] W fun e w' => ∃ v', e = .returned (.tuple #[v', .bool true]) ∧ PrE w W w' b room g1 g2 own v' := by
  by_cases k1 : kind = 1
  · subst k1; exact does_Add h0 file a2 b2 text kv
  by_cases k2 : kind = 2
  · subst k2; exact does_Bytes h0 file a2 b2 text kv hb2
  by_cases k3 : kind = 3
  · subst k3; exact does_Trim h0 file a2 b2 text kv
  by_cases k4 : kind = 4
  · subst k4; exact does_Sync h0 file a2 b2 text kv
  by_cases k5 : kind = 5
  · subst k5; exact does_Swap h0 file a2 b2 text kv
  by_cases k6 : kind = 6
  · subst k6
    by_cases hf : isFile file = false
    · exact does_Size_out h0 file a2 b2 text kv hf
    · obtain ⟨i, rfl, hi⟩ := file_nat hf
      exact does_Size_yes h0 i hi a2 b2 text kv
  by_cases k7 : kind = 7
  · subst k7; exact does_Crash h0 file a2 b2 text kv g K hK hg
  · exact does_none h0 kind file a2 b2 text kv (beq_eq_false_iff_ne.2 k1) (beq_eq_false_iff_ne.2 k2) (beq_eq_false_iff_ne.2 k3) (beq_eq_false_iff_ne.2 k4) (beq_eq_false_iff_ne.2 k5) (beq_eq_false_iff_ne.2 k6) (beq_eq_false_iff_ne.2 k7)

/-- While 'same' runs: both disks, the document's in a block of its own. -/
structure Sa (w X : World) (b room be : Nat) (A : Nat → List UInt8) (S : Nat → Nat) (g1 g2 c1 c2 : Nat) (own : Nat → Prop) : Prop where
  pr : Pr w X b room A S g1 g2 c1 c2 own
  lt : be < X.heap.size
  q : X.heap[be]? = some (.cells #[.int .i64 (room : Int), .slice (some ⟨g1, 0, none⟩) 256 c1, .slice (some ⟨g2, 0, none⟩) 256 c2] 30 (0, 0))
theorem Sa.below {w X X' : World} {b room be g1 g2 c1 c2 : Nat} {A : Nat → List UInt8} {S : Nat → Nat} {own : Nat → Prop} (h : Sa w X b room be A S g1 g2 c1 c2 own) (hb : Below X.heap.size X X') : Sa w X' b room be A S g1 g2 c1 c2 own :=
  ⟨h.pr.below hb, Nat.lt_of_lt_of_le h.lt hb.size, by rw [hb.block _ h.lt]; exact h.q⟩

set_option maxHeartbeats 1000000 in
set_option maxRecDepth 20000 in
theorem same_yes {w W : World} {b room g1 g2 c1 c2 : Nat} {A : Nat → List UInt8} {S : Nat → Nat} {own : Nat → Prop} (h0 : Pr w W b room A S g1 g2 c1 c2 own) :
    Calls Try.prog 8 #[.pointer (some ⟨b, 0, none⟩), rv room g1 g2 c1 c2] W fun e w' => e = .returned (.bool true) ∧ Below w.heap.size w w' := by
  obtain ⟨be, hbe⟩ : ∃ be, be = W.heap.size := ⟨_, rfl⟩
  obtain ⟨W1, hW1⟩ : ∃ W1, W1 = W.alloc (.cells #[.int .i64 (room : Int), .slice (some ⟨g1, 0, none⟩) 256 c1, .slice (some ⟨g2, 0, none⟩) 256 c2] 30) := ⟨_, rfl⟩
  have hs : Sa w W1 b room be A S g1 g2 c1 c2 own := by
    rw [hW1, hbe]
    exact ⟨h0.below ((Below.refl _ W).alloc (Nat.le_refl _) _), by simp, heap_alloc_new _ _⟩
  have HS : Hid _ := hs
  have HU : Hid (∀ X, Sa w X b room be A S g1 g2 c1 c2 own → Calls Try.prog 15 #[.pointer (some ⟨b, 0, none⟩)] X fun e w' => e = .returned (.int .i64 (tot A : Int)) ∧ w' = X) := fun X hX => Used_yes hX.pr.dk
  have HV : Hid (∀ X, Sa w X b room be A S g1 g2 c1 c2 own → Calls Try.prog 23 #[rv room g1 g2 c1 c2] X fun e w' => e = .returned (.int .i64 (tot A : Int)) ∧ Sa w w' b room be A S g1 g2 c1 c2 own) := by
    intro X hX
    have hok := hX.pr.dk.ok
    have h1 := hok.fits
    have h2 := hok.big
    have := ref_Used hX.pr.rf (by rw [sum_tot]; omega)
    rw [sum_tot] at this
    refine this.mono ?_
    rintro e w' ⟨he, hb⟩
    exact ⟨he, hX.below hb⟩
  have HZ : Hid (∀ (X : World) (i : Nat), i < 256 → Sa w X b room be A S g1 g2 c1 c2 own → Calls Try.prog 14 #[.pointer (some ⟨b, 0, none⟩), .int .i64 (i : Int)] X fun e w' => e = .returned (.tuple #[.int .i64 ((tx A i).size : Int), .int .i64 (S i : Int)]) ∧ Sa w w' b room be A S g1 g2 c1 c2 own) := by
    intro X i hi hX
    have := Size_yes hX.pr.dk i hi
    rw [← tx_size] at this
    refine this.mono ?_
    rintro e w' ⟨he, hw⟩
    subst hw
    exact ⟨he, hX.below (below_drew X)⟩
  have HY : Hid (∀ (X : World) (i : Nat), i < 256 → Sa w X b room be A S g1 g2 c1 c2 own → Calls Try.prog 13 #[.pointer (some ⟨b, 0, none⟩), .int .i64 (i : Int), .int .i64 0, .int .i64 ((tx A i).size : Int)] X fun e w' => e = .returned (.tuple #[.string (tx A i), .int .i64 0]) ∧ w' = X) := by
    intro X i hi hX
    have := Bytes_yes hX.pr.dk i hi 0 (A i).length (by omega)
    rw [List.drop_zero, List.take_length, ← tx_size] at this
    exact this
  have HC : Hid (∀ X, Sa w X b room be A S g1 g2 c1 c2 own → X.cell? ⟨be, 0, none⟩ = some (.int .i64 (room : Int)) ∧ X.cell? ⟨be, 1, none⟩ = some (.slice (some ⟨g1, 0, none⟩) 256 c1) ∧ X.cell? ⟨be, 2, none⟩ = some (.slice (some ⟨g2, 0, none⟩) 256 c2)) := by
    intro X hX
    obtain ⟨i0, i1, i2, _⟩ := cells3 hX.q
    exact ⟨i0, i1, i2⟩
  clear h0 hs
  go_enter Try.func8, Try.ntmps8
  go_wp2
  rw [← hW1, ← hbe]
  clear hW1 hbe
  go_loopw [5] (fun i wr => ∃ k : Nat, k ≤ 256 ∧ i = .int .i64 (k : Int) ∧ Hid (Sa w wr b room be A S g1 g2 c1 c2 own)) (fun i _ => 256 - (intOf i).toNat)
  case atStart => exact ⟨0, by omega, rfl, HS⟩
  case round =>
    obtain ⟨k, hk, rfl, hsa⟩ := hrel
    clear HS
    by_cases hlt : k < 256
    · have HZk : Hid _ := HZ.out wr k hlt hsa.out
      have hi1 : (0 : Int) ≤ (k : Int) := by omega
      have hi2 : (k : Int) < 256 := by omega
      have HYk : Hid _ := fun X => HY.out X k hlt
      obtain ⟨st, hst⟩ : ∃ st, st = tx A k := ⟨_, rfl⟩
      obtain ⟨su, hsu⟩ : ∃ su, su = S k := ⟨_, rfl⟩
      rw [← hst, ← hsu] at HZk
      rw [← hst] at HYk
      have HT : Hid (∀ X, Sa w X b room be A S g1 g2 c1 c2 own → X.cell? ⟨g1, k, none⟩ = some (.string st) ∧ X.cell? ⟨g2, k, none⟩ = some (.int .i64 (su : Int))) := fun X hX => ⟨by rw [hst]; exact hX.pr.rf.t k hlt, by rw [hsu]; exact hX.pr.rf.s k hlt⟩
      clear hst hsu
      go_wp2_with fail
      refine Calls.mono HZk.out ?_
      rintro e w4 ⟨rfl, hs4⟩
      obtain ⟨x0, x1, x2⟩ := HC.out w4 hs4
      obtain ⟨ct, cs⟩ := HT.out w4 hs4
      have HS4 : Hid _ := hs4
      clear hs4
      by_cases hn : st.size = 0
      · have t1 : ¬ (0 : Int) < (st.size : Int) := by omega
        clear hn
        go_wp2
        go_roundw
        case rel => exact ⟨k + 1, by omega, by go_num, HS4⟩
        case measure => simp [intOf]; omega
      · have t1 : (0 : Int) < (st.size : Int) := by omega
        clear hn
        go_wp2_with fail
        refine (HYk.out w4 HS4.out).mono ?_
        rintro e w5 ⟨rfl, hw⟩
        have hw := hw.symm
        subst hw
        go_wp2
        go_roundw
        case rel => exact ⟨k + 1, by omega, by go_num, HS4⟩
        case measure => simp [intOf]; omega
    · obtain rfl : k = 256 := by omega
      have hsd := hsa.out.below (below_drew wr)
      have HK : Hid _ := fun X => HC.out X
      obtain ⟨t, ht⟩ : ∃ t, t = tot A := ⟨_, rfl⟩
      rw [← ht] at HU HV
      clear ht
      go_wp2
      go_region_held (fun X => X.cell? ⟨be, 0, none⟩ = some (.int .i64 (room : Int)) ∧ X.cell? ⟨be, 1, none⟩ = some (.slice (some ⟨g1, 0, none⟩) 256 c1) ∧ X.cell? ⟨be, 2, none⟩ = some (.slice (some ⟨g2, 0, none⟩) 256 c2))
        (exact HC.out _ (by assumption))
        (first
          | (go_at_call 15; refine (HU.out _ ?_).mono ?_; assumption; rintro e w6 ⟨rfl, hw⟩; have hw := hw.symm; subst hw)
          | (go_at_call 23; refine (HV.out _ ?_).mono ?_; assumption; rintro e w7 ⟨rfl, hs7⟩))
      all_goals go_wp2
      all_goals go_ret
      all_goals exact ⟨rfl, hs7.pr.bel⟩

end Go.Proofs.Ytncchapgoedncaa
