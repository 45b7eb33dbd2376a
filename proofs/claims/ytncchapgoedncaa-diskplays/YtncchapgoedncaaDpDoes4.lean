/-
  What 'does' does of Crash: the same on both sides.
-/
import Derived.Test.YtncchapgoedncaaDpDoes2
namespace Go.Proofs.Ytncchapgoedncaa
open Go.RowKit

set_option maxHeartbeats 1000000 in
set_option maxRecDepth 20000 in
theorem does_Crash {w W : World} {b room g1 g2 c1 c2 : Nat} {A : Nat → List UInt8} {S : Nat → Nat} {own : Nat → Prop} (h0 : Pr w W b room A S g1 g2 c1 c2 own) (file a2 b2 : Int) (text : ByteArray) (kv : Value) (g : Nat) (K : List Int) (hK : Ints W g kv K) (hg : K ≠ [] → g < w.heap.size) :
    Calls Try.prog 7 #[.pointer (some ⟨b, 0, none⟩), rv room g1 g2 c1 c2, .agg (opCells 7 file a2 b2 text kv)] W fun e w' => ∃ v', e = .returned (.tuple #[v', .bool true]) ∧ PrE w W w' b room g1 g2 own v' := by
  obtain ⟨own', be, W3, hbe, hW3, h, ho, ht, hz⟩ := does_begin h0 (opCells 7 file a2 b2 text kv)
  obtain ⟨A', S', hR, hD⟩ := crash_both (b := b) h.dk.ok K a2
  obtain ⟨o0, _, _, _, _, _⟩ := cells6 hz.op
  have hs0 := h.bel.size
  have hgW : K ≠ [] → g < W.heap.size := fun e => Nat.lt_of_lt_of_le (hg e) hs0
  have hI : ∀ X, Dz W X be room g1 g2 c1 c2 (opCells 7 file a2 b2 text kv) → Ints X g kv K := fun X hX => hK.carry (fun e => hX.bel.block g (hgW e))
  have hzd := hz.below (below_drew W3)
  have HR : Hid _ := hR W3.drew _ g1 g2 c1 c2 g kv (h.rf.below hzd.bel) (hI _ hzd) (fun e => Nat.lt_of_lt_of_le (hgW e) hzd.bel.size)
  have HDx : Hid (∀ X, Dz W X be room g1 g2 c1 c2 (opCells 7 file a2 b2 text kv) → Calls Try.prog 12 #[.pointer (some ⟨b, 0, none⟩), kv, .int .i64 a2] X (Dans X b room A' S' own' 0)) := by
    intro X hX
    refine hD X own' g kv (h.dk.below hX.bel) (hI X hX) (fun e => ⟨Nat.lt_of_lt_of_le (hgW e) hX.bel.size, ?_, ?_⟩)
    · have := hg e
      have := h.bge
      omega
    · intro o
      have := hg e
      have := h.old g o
      omega
  obtain ⟨ao, kc, hkv, _⟩ := hK
  have hkv0 := hkv
  subst hkv0
  have HP : Hid (Pr w W b room A S g1 g2 c1 c2 own') := h
  have HT : Hid (∀ k, own' k → k < W.heap.size) := ht
  have HO : Hid (∀ k, own' k → own k) := ho
  have HZ : Hid (Dz W W3.drew be room g1 g2 c1 c2 (opCells 7 file a2 b2 text (.slice ao K.length kc))) := hzd
  have Hbe : Hid (be = W.heap.size) := hbe
  have HKb : Hid (∀ X : World, Hid (X.heap[be]? = W3.drew.heap[be]? ∧ X.heap[be + 1]? = W3.drew.heap[be + 1]?) → X.cell? ⟨be, 0, none⟩ = some (.int .i64 (room : Int)) ∧ X.cell? ⟨be, 1, none⟩ = some (.slice (some ⟨g1, 0, none⟩) 256 c1) ∧ X.cell? ⟨be, 2, none⟩ = some (.slice (some ⟨g2, 0, none⟩) 256 c2) ∧ X.cell? ⟨be + 1, 2, none⟩ = some (.int .i64 a2) ∧ X.cell? ⟨be + 1, 5, none⟩ = some (.slice ao K.length kc)) := by
    intro X hX
    obtain ⟨i0, i1, i2, _⟩ := cells3 (hX.out.1.trans HZ.out.q)
    obtain ⟨j0, j1, j2, j3, j4, j5⟩ := cells6 (hX.out.2.trans HZ.out.op)
    exact ⟨i0, i1, i2, j2, j5⟩
  have HKc : Hid (∀ (X : World) (x y z : Value), Hid (X.heap[be]? = W3.drew.heap[be]? ∧ X.heap[be + 1]? = W3.drew.heap[be + 1]?) → (set3 X (be + 2) x y z).cell? ⟨be, 0, none⟩ = some (.int .i64 (room : Int)) ∧ (set3 X (be + 2) x y z).cell? ⟨be, 1, none⟩ = some (.slice (some ⟨g1, 0, none⟩) 256 c1) ∧ (set3 X (be + 2) x y z).cell? ⟨be, 2, none⟩ = some (.slice (some ⟨g2, 0, none⟩) 256 c2) ∧ (set3 X (be + 2) x y z).cell? ⟨be + 1, 2, none⟩ = some (.int .i64 a2) ∧ (set3 X (be + 2) x y z).cell? ⟨be + 1, 5, none⟩ = some (.slice ao K.length kc)) := by
    intro X x y z hX
    refine HKb.out _ ⟨?_, ?_⟩
    · rw [set3_heap X x y z (by omega)]; exact hX.out.1
    · rw [set3_heap X x y z (by omega)]; exact hX.out.2
  have HK0 : Hid _ := HKb.out W3.drew ⟨rfl, rfl⟩
  have HB4 : Hid (∀ w4, Below W3.drew.heap.size W3.drew w4 → Hid (w4.heap[be]? = W3.drew.heap[be]? ∧ w4.heap[be + 1]? = W3.drew.heap[be + 1]?)) := by
    intro w4 hb
    have := HZ.out.lt
    exact ⟨hb.block _ (by omega), hb.block _ (by omega)⟩
  have HX : Hid (∀ X w6, Dz W X be room g1 g2 c1 c2 (opCells 7 file a2 b2 text (.slice ao K.length kc)) → Kept b own' X w6 → Hid (w6.heap[be]? = W3.drew.heap[be]? ∧ w6.heap[be + 1]? = W3.drew.heap[be + 1]?) ∧ w6.heap[be + 2]? = some (.cells #[.int .i64 0, .slice none 0 0, .slice none 0 0] 30 (0, 0))) := by
    intro X w6 hX hk6
    have hlt := HP.out.dk.lt
    have e := Hbe.out
    obtain ⟨q1, q2, q3, q4⟩ := hX.kept hk6 (by omega) (fun k o => by have := HT.out k o; omega)
    exact ⟨⟨q1.trans (hX.q.trans HZ.out.q.symm), q2.trans (hX.op.trans HZ.out.op.symm)⟩, q3.trans hX.rs⟩
  clear h0 h ho ht hR hD hz hzd hI hgW hg hs0
  go_enter Try.func7, Try.ntmps7
  go_upto_region 1 with fail
  rw [← hW3, ← hbe]
  clear hW3 hbe
  go_wp2
  go_region_held (fun X => X.cell? ⟨be, 0, none⟩ = some (.int .i64 (room : Int)) ∧ X.cell? ⟨be, 1, none⟩ = some (.slice (some ⟨g1, 0, none⟩) 256 c1) ∧ X.cell? ⟨be, 2, none⟩ = some (.slice (some ⟨g2, 0, none⟩) 256 c2) ∧ X.cell? ⟨be + 1, 2, none⟩ = some (.int .i64 a2) ∧ X.cell? ⟨be + 1, 5, none⟩ = some (.slice ao K.length kc))
    (first | exact HK0.out | exact HKb.out _ (by assumption) | exact HKc.out _ _ _ _ (by assumption))
    (first
      | (go_at_call 22; refine Calls.mono HR.out ?_; rintro e w4 ⟨y1, y2, d1, d2, rfl, hrf, hy1, hy2, hb4⟩; have hz4 := HZ.out.below hb4; have hq4 := HB4.out w4 hb4; have HRf : Hid _ := hrf; have HY : Hid _ := And.intro hy1 hy2; clear hrf hy1 hy2 hb4)
      | (go_at_call 12; refine (HDx.out _ ?_).mono ?_; assumption; rintro e w6 ⟨rfl, hd6, hk6⟩; have hq := HX.out _ w6 (by assumption) hk6; have hq6 := hq.1; obtain ⟨z0, z1, z2, f0, f1, f2⟩ := cells3 hq.2; have HD6 : Hid _ := hd6; have HK6 : Hid _ := hk6; clear hd6 hk6 hq))
  all_goals
    go_wp2
    refine bodyPost_ret (v := .tuple #[rv room y1 y2 d1 d2, .bool true]) ?qres rfl ?qpost
    case qres => simp [results, Try.results7, go_sem, z0, z1, z2]
    case qpost =>
      have hbs := HZ.out.bel.size
      have hl3 := HZ.out.lt
      obtain ⟨hy1, hy2⟩ := HY.out
      have e := Hbe.out
      have l1 := HP.out.rf.l1
      have l2 := HP.out.rf.l2
      have hlt2 := hz4.lt
      exact ⟨_, rfl, pre_after HP.out HO.out HT.out hz4.bel HRf.out (newer hy1 hbs) (newer hy2 hbs) HD6.out HK6.out (by omega) hlt2 (by omega) (by omega) _ _ _⟩

end Go.Proofs.Ytncchapgoedncaa
