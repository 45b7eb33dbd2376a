/-
  What 'does' does of Size and of Crash: the same on both sides.
-/
import Derived.Test.YtncchapgoedncaaDpDoes2
namespace Go.Proofs.Ytncchapgoedncaa
open Go.RowKit

set_option maxHeartbeats 1000000 in
set_option maxRecDepth 20000 in
theorem does_Size_out {w W : World} {b room g1 g2 c1 c2 : Nat} {A : Nat → List UInt8} {S : Nat → Nat} {own : Nat → Prop} (h0 : Pr w W b room A S g1 g2 c1 c2 own) (file a2 b2 : Int) (text : ByteArray) (kv : Value) (hf : isFile file = false) :
    Calls Try.prog 7 #[.pointer (some ⟨b, 0, none⟩), rv room g1 g2 c1 c2, .agg (opCells 6 file a2 b2 text kv)] W fun e w' => ∃ v', e = .returned (.tuple #[v', .bool true]) ∧ PrE w W w' b room g1 g2 own v' := by
  obtain ⟨own', be, W3, hbe, hW3, h, ho, ht, hz⟩ := does_begin h0 (opCells 6 file a2 b2 text kv)
  obtain ⟨x0, x1, x2, _, _, _⟩ := cells3 hz.q
  obtain ⟨z0, z1, z2, f0, f1, f2⟩ := cells3 hz.rs
  obtain ⟨o0, o1, _, _, _, _⟩ := cells6 hz.op
  have HDa : Hid _ := Size_out (h.dk.below hz.bel) file hf
  have hfile : file < 0 ∨ (¬ file < 0 ∧ 255 < file) := by
    unfold isFile at hf
    have := of_decide_eq_false hf
    omega
  have HP : Hid (Pr w W b room A S g1 g2 c1 c2 own') := h
  have HT : Hid (∀ k, own' k → k < W.heap.size) := ht
  have HO : Hid (∀ k, own' k → own k) := ho
  have HZ : Hid (Dz W W3 be room g1 g2 c1 c2 (opCells 6 file a2 b2 text kv)) := hz
  clear h0 h ho ht hz hf
  rcases hfile with hf1 | ⟨hf1, hf2⟩
  all_goals
    go_enter Try.func7, Try.ntmps7
    go_wp2_with fail
    rw [← hW3, ← hbe]
    refine Calls.mono HDa.out ?_
    rintro e w4 ⟨rfl, hw⟩
    have hw := hw.symm
    subst hw
    clear hW3 hbe
    go_wp2
    refine bodyPost_ret (v := .tuple #[rv room g1 g2 c1 c2, .bool true]) ?qres rfl ?qpost
    case qres => simp [results, Try.results7, go_sem, z0, z1, z2]
    case qpost => exact ⟨_, rfl, pre_same HP.out HO.out HT.out HZ.out _ _ _⟩

set_option maxHeartbeats 1000000 in
set_option maxRecDepth 20000 in
theorem does_Size_yes {w W : World} {b room g1 g2 c1 c2 : Nat} {A : Nat → List UInt8} {S : Nat → Nat} {own : Nat → Prop} (h0 : Pr w W b room A S g1 g2 c1 c2 own) (i : Nat) (hi : i < 256) (a2 b2 : Int) (text : ByteArray) (kv : Value) :
    Calls Try.prog 7 #[.pointer (some ⟨b, 0, none⟩), rv room g1 g2 c1 c2, .agg (opCells 6 (i : Int) a2 b2 text kv)] W fun e w' => ∃ v', e = .returned (.tuple #[v', .bool true]) ∧ PrE w W w' b room g1 g2 own v' := by
  obtain ⟨own', be, W3, hbe, hW3, h, ho, ht, hz⟩ := does_begin h0 (opCells 6 (i : Int) a2 b2 text kv)
  obtain ⟨o0, o1, _, _, _, _⟩ := cells6 hz.op
  obtain ⟨st, hst⟩ : ∃ st, st = tx A i := ⟨_, rfl⟩
  obtain ⟨su, hsu⟩ : ∃ su, su = S i := ⟨_, rfl⟩
  have hda := Size_yes (h.dk.below hz.bel) i hi
  rw [← tx_size, ← hst, ← hsu] at hda
  have HDa : Hid _ := hda
  have hzd : Dz W W3.drew.drew be room g1 g2 c1 c2 (opCells 6 (i : Int) a2 b2 text kv) := (hz.below (below_drew W3)).below (below_drew _)
  obtain ⟨x0, x1, x2, _, _, _⟩ := cells3 hzd.q
  obtain ⟨z0, z1, z2, f0, f1, f2⟩ := cells3 hz.rs
  obtain ⟨_, p1, _, _, _, _⟩ := cells6 hzd.op
  obtain ⟨_, p1', _, _, _, _⟩ := cells6 (hz.below (below_drew W3)).op
  have hrf := h.rf.below hzd.bel
  have ct := hrf.t i hi
  have cs := hrf.s i hi
  rw [← hst] at ct
  rw [← hsu] at cs
  have HK0 : Hid (W3.drew.drew.cell? ⟨be, 0, none⟩ = some (.int .i64 (room : Int)) ∧ W3.drew.drew.cell? ⟨be, 1, none⟩ = some (.slice (some ⟨g1, 0, none⟩) 256 c1) ∧ W3.drew.drew.cell? ⟨be, 2, none⟩ = some (.slice (some ⟨g2, 0, none⟩) 256 c2) ∧ W3.drew.drew.cell? ⟨be + 1, 1, none⟩ = some (.int .i64 (i : Int)) ∧ W3.drew.drew.cell? ⟨g1, i, none⟩ = some (.string st) ∧ W3.drew.drew.cell? ⟨g2, i, none⟩ = some (.int .i64 (su : Int))) := ⟨x0, x1, x2, p1, ct, cs⟩
  have hl1 := h.rf.l1
  have hl2 := h.rf.l2
  have HK3 : Hid (∀ x y z, (set3 W3.drew.drew (be + 2) x y z).cell? ⟨be, 0, none⟩ = some (.int .i64 (room : Int)) ∧ (set3 W3.drew.drew (be + 2) x y z).cell? ⟨be, 1, none⟩ = some (.slice (some ⟨g1, 0, none⟩) 256 c1) ∧ (set3 W3.drew.drew (be + 2) x y z).cell? ⟨be, 2, none⟩ = some (.slice (some ⟨g2, 0, none⟩) 256 c2) ∧ (set3 W3.drew.drew (be + 2) x y z).cell? ⟨be + 1, 1, none⟩ = some (.int .i64 (i : Int)) ∧ (set3 W3.drew.drew (be + 2) x y z).cell? ⟨g1, i, none⟩ = some (.string st) ∧ (set3 W3.drew.drew (be + 2) x y z).cell? ⟨g2, i, none⟩ = some (.int .i64 (su : Int))) := by
    intro x y z
    rw [set3_cell _ x y z (by omega), set3_cell _ x y z (by omega), set3_cell _ x y z (by omega), set3_cell _ x y z (by omega), set3_cell _ x y z (by omega), set3_cell _ x y z (by omega)]
    exact HK0.out
  have hi1 : (0 : Int) ≤ (i : Int) := by omega
  have hi2 : (i : Int) < 256 := by omega
  have HP : Hid (Pr w W b room A S g1 g2 c1 c2 own') := h
  have HT : Hid (∀ k, own' k → k < W.heap.size) := ht
  have HO : Hid (∀ k, own' k → own k) := ho
  have HZ : Hid (Dz W W3.drew.drew be room g1 g2 c1 c2 (opCells 6 (i : Int) a2 b2 text kv)) := hzd
  clear h0 h ho ht hz hzd hda hst hsu hrf hl1 hl2 x0 x1 x2 p1 ct cs
  go_enter Try.func7, Try.ntmps7
  go_wp2_with fail
  rw [← hW3, ← hbe]
  refine Calls.mono HDa.out ?_
  rintro e w4 ⟨rfl, hw⟩
  subst hw
  clear hW3 hbe
  go_wp2
  go_region_held (fun X => X.cell? ⟨be, 0, none⟩ = some (.int .i64 (room : Int)) ∧ X.cell? ⟨be, 1, none⟩ = some (.slice (some ⟨g1, 0, none⟩) 256 c1) ∧ X.cell? ⟨be, 2, none⟩ = some (.slice (some ⟨g2, 0, none⟩) 256 c2) ∧ X.cell? ⟨be + 1, 1, none⟩ = some (.int .i64 (i : Int)) ∧ X.cell? ⟨g1, i, none⟩ = some (.string st) ∧ X.cell? ⟨g2, i, none⟩ = some (.int .i64 (su : Int)))
    (first | exact HK0.out | exact HK3.out _ _ _) (fail)
  all_goals
    go_wp2
    refine bodyPost_ret (v := .tuple #[rv room g1 g2 c1 c2, .bool true]) ?qres rfl ?qpost
    case qres => simp [results, Try.results7, go_sem, z0, z1, z2]
    case qpost => exact ⟨_, rfl, pre_same HP.out HO.out HT.out HZ.out _ _ _⟩

end Go.Proofs.Ytncchapgoedncaa
