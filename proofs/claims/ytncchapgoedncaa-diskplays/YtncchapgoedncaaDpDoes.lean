/-
  What 'does' does of the calls that give another disk and an error: the same on both sides.
-/
import Derived.Test.YtncchapgoedncaaDpPair
namespace Go.Proofs.Ytncchapgoedncaa
open Go.RowKit

set_option maxHeartbeats 1000000 in
set_option maxRecDepth 20000 in
theorem does_Add {w W : World} {b room g1 g2 c1 c2 : Nat} {A : Nat → List UInt8} {S : Nat → Nat} {own : Nat → Prop} (h0 : Pr w W b room A S g1 g2 c1 c2 own) (file a2 b2 : Int) (text : ByteArray) (kv : Value) :
    Calls Try.prog 7 #[.pointer (some ⟨b, 0, none⟩), rv room g1 g2 c1 c2, .agg (opCells 1 file a2 b2 text kv)] W fun e w' => ∃ v', e = .returned (.tuple #[v', .bool true]) ∧ PrE w W w' b room g1 g2 own v' := by
  have h := h0.tight
  obtain ⟨own', hown⟩ : ∃ own' : Nat → Prop, own' = (fun k => own k ∧ k < W.heap.size) := ⟨_, rfl⟩
  rw [← hown] at h
  have ht : ∀ k, own' k → k < W.heap.size := by rw [hown]; exact fun k e => e.2
  have HO : Hid (∀ k, own' k → own k) := by rw [hown]; exact fun k e => e.1
  obtain ⟨A', S', f, hR, hD⟩ := add_both (b := b) h.dk.ok file text
  obtain ⟨be, hbe⟩ : ∃ be, be = W.heap.size := ⟨_, rfl⟩
  have hz := dz_start W room g1 g2 c1 c2 (opCells 1 file a2 b2 text kv)
  rw [← hbe] at hz
  obtain ⟨W3, hW3⟩ : ∃ W3, W3 = ((W.alloc (.cells #[.int .i64 (room : Int), .slice (some ⟨g1, 0, none⟩) 256 c1, .slice (some ⟨g2, 0, none⟩) 256 c2] 30)).alloc (.cells (opCells 1 file a2 b2 text kv) 35)).alloc (.cells #[.int .i64 0, .slice none 0 0, .slice none 0 0] 30) := ⟨_, rfl⟩
  rw [← hW3] at hz
  obtain ⟨x0, x1, x2, _, _, _⟩ := cells3 hz.q
  obtain ⟨o0, o1, o2, o3, o4, o5⟩ := cells6 hz.op
  have HR : Hid _ := hR W3 _ g1 g2 c1 c2 (h.rf.below hz.bel)
  have HP : Hid (Pr w W b room A S g1 g2 c1 c2 own') := h
  have HT : Hid (∀ k, own' k → k < W.heap.size) := ht
  have HD : Hid _ := hD
  have HZ : Hid (Dz W W3 be room g1 g2 c1 c2 (opCells 1 file a2 b2 text kv)) := hz
  have Hbe : Hid (be = W.heap.size) := hbe
  clear h0 h hown ht hR hD hz
  go_enter Try.func7, Try.ntmps7
  go_wp2_with fail
  rw [← hW3, ← hbe]
  refine Calls.mono HR.out ?_
  rintro e w4 ⟨y1, y2, d1, d2, rfl, hrf, hy1, hy2, hb4⟩
  have hn := dn_start (HZ.out.below hb4) y1 y2 d1 d2
  obtain ⟨et, het⟩ : ∃ et, et = w4.heap.size := ⟨_, rfl⟩
  obtain ⟨w5, hw5⟩ : ∃ w5, w5 = w4.alloc (.cells #[.int .i64 (room : Int), .slice (some ⟨y1, 0, none⟩) 256 d1, .slice (some ⟨y2, 0, none⟩) 256 d2] 30) := ⟨_, rfl⟩
  rw [← het, ← hw5] at hn
  have hb5 : Below w4.heap.size w4 w5 := by rw [hw5]; exact (Below.refl _ _).alloc (Nat.le_refl _) _
  have HRf : Hid _ := (hrf.below hb5).below (below_drew w5)
  have hnd := hn.below (below_drew w5)
  have HN : Hid (Dn W w5.drew be et room g1 g2 c1 c2 y1 y2 d1 d2 (opCells 1 file a2 b2 text kv)) := hnd
  have hb35 : Below W.heap.size W w5.drew := hnd.dz.bel
  have hbs := HZ.out.bel.size
  have HY : Hid ((y1 = g1 ∨ W.heap.size ≤ y1) ∧ (y2 = g2 ∨ W.heap.size ≤ y2)) := ⟨newer hy1 hbs, newer hy2 hbs⟩
  have HY2 : Hid (y1 ≠ be + 2 ∧ y2 ≠ be + 2) := by
    have e := Hbe.out
    have l1 := HP.out.rf.l1
    have l2 := HP.out.rf.l2
    have l3 := HZ.out.lt
    exact ⟨by omega, by omega⟩
  have HDa : Hid _ := HD.out w5.drew own' (HP.out.dk.below hb35)
  have HB35 : Hid _ := hb35
  have HKb : Hid (∀ X : World, Hid (X.heap[et]? = w5.drew.heap[et]? ∧ X.heap[be + 1]? = w5.drew.heap[be + 1]?) → X.cell? ⟨et, 0, none⟩ = some (.int .i64 (room : Int)) ∧ X.cell? ⟨et, 1, none⟩ = some (.slice (some ⟨y1, 0, none⟩) 256 d1) ∧ X.cell? ⟨et, 2, none⟩ = some (.slice (some ⟨y2, 0, none⟩) 256 d2) ∧ X.cell? ⟨be + 1, 1, none⟩ = some (.int .i64 file) ∧ X.cell? ⟨be + 1, 4, none⟩ = some (.string text)) := by
    intro X hX
    obtain ⟨i0, i1, i2, _⟩ := cells3 (hX.out.1.trans HN.out.nx)
    obtain ⟨j0, j1, j2, j3, j4, j5⟩ := cells6 (hX.out.2.trans HN.out.dz.op)
    exact ⟨i0, i1, i2, j1, j4⟩
  have HKc : Hid (∀ (X : World) (x y z : Value), Hid (X.heap[et]? = w5.drew.heap[et]? ∧ X.heap[be + 1]? = w5.drew.heap[be + 1]?) → (set3 X (be + 2) x y z).cell? ⟨et, 0, none⟩ = some (.int .i64 (room : Int)) ∧ (set3 X (be + 2) x y z).cell? ⟨et, 1, none⟩ = some (.slice (some ⟨y1, 0, none⟩) 256 d1) ∧ (set3 X (be + 2) x y z).cell? ⟨et, 2, none⟩ = some (.slice (some ⟨y2, 0, none⟩) 256 d2) ∧ (set3 X (be + 2) x y z).cell? ⟨be + 1, 1, none⟩ = some (.int .i64 file) ∧ (set3 X (be + 2) x y z).cell? ⟨be + 1, 4, none⟩ = some (.string text)) := by
    intro X x y z hX
    have hlo := HN.out.lo
    refine HKb.out _ ⟨?_, ?_⟩
    · rw [set3_heap X x y z (by omega)]; exact hX.out.1
    · rw [set3_heap X x y z (by omega)]; exact hX.out.2
  have HK0 : Hid _ := HKb.out w5.drew ⟨rfl, rfl⟩
  have HX : Hid (∀ w6, Kept b own' w5.drew w6 → Hid (w6.heap[et]? = w5.drew.heap[et]? ∧ w6.heap[be + 1]? = w5.drew.heap[be + 1]?) ∧ w6.heap[be + 2]? = some (.cells #[.int .i64 0, .slice none 0 0, .slice none 0 0] 30 (0, 0))) := by
    intro w6 hk6
    have hlt := HP.out.dk.lt
    have e := Hbe.out
    have hlo := HN.out.lo
    obtain ⟨q1, q2, q3, q4⟩ := HN.out.dz.kept hk6 (by omega) (fun k o => by have := HT.out k o; omega)
    exact ⟨⟨hk6.block et HN.out.hi (by omega) (fun o => by have := HT.out et o; omega), q2⟩, q3.trans HN.out.dz.rs⟩
  clear hn hnd hrf hb4 hb5 hb35 hy1 hy2 HZ HR hbs x0 x1 x2 o0 o1 o2 o3 o4 o5
  clear hW3 hbe
  go_wp2
  rw [← hw5, ← het]
  clear hw5 het
  go_wp2
  go_region_held (fun X => X.cell? ⟨et, 0, none⟩ = some (.int .i64 (room : Int)) ∧ X.cell? ⟨et, 1, none⟩ = some (.slice (some ⟨y1, 0, none⟩) 256 d1) ∧ X.cell? ⟨et, 2, none⟩ = some (.slice (some ⟨y2, 0, none⟩) 256 d2) ∧ X.cell? ⟨be + 1, 1, none⟩ = some (.int .i64 file) ∧ X.cell? ⟨be + 1, 4, none⟩ = some (.string text))
    (first | exact HK0.out | exact HKb.out _ (by assumption) | exact HKc.out _ _ _ _ (by assumption))
    (first | (go_at_call 9; refine Calls.mono HDa.out ?_; rintro e w6 ⟨rfl, hd6, hk6⟩; have hq := HX.out w6 hk6; have hq1 := hq.1; obtain ⟨z0, z1, z2, f0, f1, f2⟩ := cells3 hq.2; have HD6 : Hid _ := hd6; have HK6 : Hid _ := hk6; clear hd6 hk6 hq))
  all_goals
    go_wp2
    refine bodyPost_ret (v := .tuple #[rv room y1 y2 d1 d2, .bool true]) ?qres rfl ?qpost
    case qres => simp [results, Try.results7, go_sem, z0, z1, z2]
    case qpost =>
      have e := Hbe.out
      have hlt2 := HN.out.dz.lt
      exact ⟨_, rfl, pre_after HP.out HO.out HT.out HB35.out HRf.out HY.out.1 HY.out.2 HD6.out HK6.out (by omega) hlt2 HY2.out.1 HY2.out.2 _ _ _⟩

set_option maxHeartbeats 1000000 in
set_option maxRecDepth 20000 in
theorem does_Trim {w W : World} {b room g1 g2 c1 c2 : Nat} {A : Nat → List UInt8} {S : Nat → Nat} {own : Nat → Prop} (h0 : Pr w W b room A S g1 g2 c1 c2 own) (file a2 b2 : Int) (text : ByteArray) (kv : Value) :
    Calls Try.prog 7 #[.pointer (some ⟨b, 0, none⟩), rv room g1 g2 c1 c2, .agg (opCells 3 file a2 b2 text kv)] W fun e w' => ∃ v', e = .returned (.tuple #[v', .bool true]) ∧ PrE w W w' b room g1 g2 own v' := by
  have h := h0.tight
  obtain ⟨own', hown⟩ : ∃ own' : Nat → Prop, own' = (fun k => own k ∧ k < W.heap.size) := ⟨_, rfl⟩
  rw [← hown] at h
  have ht : ∀ k, own' k → k < W.heap.size := by rw [hown]; exact fun k e => e.2
  have HO : Hid (∀ k, own' k → own k) := by rw [hown]; exact fun k e => e.1
  obtain ⟨A', S', f, hR, hD⟩ := trim_both (room := room) (b := b) (A := A) (S := S) file a2
  obtain ⟨be, hbe⟩ : ∃ be, be = W.heap.size := ⟨_, rfl⟩
  have hz := dz_start W room g1 g2 c1 c2 (opCells 3 file a2 b2 text kv)
  rw [← hbe] at hz
  obtain ⟨W3, hW3⟩ : ∃ W3, W3 = ((W.alloc (.cells #[.int .i64 (room : Int), .slice (some ⟨g1, 0, none⟩) 256 c1, .slice (some ⟨g2, 0, none⟩) 256 c2] 30)).alloc (.cells (opCells 3 file a2 b2 text kv) 35)).alloc (.cells #[.int .i64 0, .slice none 0 0, .slice none 0 0] 30) := ⟨_, rfl⟩
  rw [← hW3] at hz
  obtain ⟨x0, x1, x2, _, _, _⟩ := cells3 hz.q
  obtain ⟨o0, o1, o2, o3, o4, o5⟩ := cells6 hz.op
  have HR : Hid _ := hR W3 _ g1 g2 c1 c2 (h.rf.below hz.bel)
  have HP : Hid (Pr w W b room A S g1 g2 c1 c2 own') := h
  have HT : Hid (∀ k, own' k → k < W.heap.size) := ht
  have HD : Hid _ := hD
  have HZ : Hid (Dz W W3 be room g1 g2 c1 c2 (opCells 3 file a2 b2 text kv)) := hz
  have Hbe : Hid (be = W.heap.size) := hbe
  clear h0 h hown ht hR hD hz
  go_enter Try.func7, Try.ntmps7
  go_wp2_with fail
  rw [← hW3, ← hbe]
  refine Calls.mono HR.out ?_
  rintro e w4 ⟨y1, y2, d1, d2, rfl, hrf, hy1, hy2, hb4⟩
  have hn := dn_start (HZ.out.below hb4) y1 y2 d1 d2
  obtain ⟨et, het⟩ : ∃ et, et = w4.heap.size := ⟨_, rfl⟩
  obtain ⟨w5, hw5⟩ : ∃ w5, w5 = w4.alloc (.cells #[.int .i64 (room : Int), .slice (some ⟨y1, 0, none⟩) 256 d1, .slice (some ⟨y2, 0, none⟩) 256 d2] 30) := ⟨_, rfl⟩
  rw [← het, ← hw5] at hn
  have hb5 : Below w4.heap.size w4 w5 := by rw [hw5]; exact (Below.refl _ _).alloc (Nat.le_refl _) _
  have HRf : Hid _ := (hrf.below hb5).below (below_drew w5)
  have hnd := hn.below (below_drew w5)
  have HN : Hid (Dn W w5.drew be et room g1 g2 c1 c2 y1 y2 d1 d2 (opCells 3 file a2 b2 text kv)) := hnd
  have hb35 : Below W.heap.size W w5.drew := hnd.dz.bel
  have hbs := HZ.out.bel.size
  have HY : Hid ((y1 = g1 ∨ W.heap.size ≤ y1) ∧ (y2 = g2 ∨ W.heap.size ≤ y2)) := ⟨newer hy1 hbs, newer hy2 hbs⟩
  have HY2 : Hid (y1 ≠ be + 2 ∧ y2 ≠ be + 2) := by
    have e := Hbe.out
    have l1 := HP.out.rf.l1
    have l2 := HP.out.rf.l2
    have l3 := HZ.out.lt
    exact ⟨by omega, by omega⟩
  have HDa : Hid _ := HD.out w5.drew own' (HP.out.dk.below hb35)
  have HB35 : Hid _ := hb35
  have HKb : Hid (∀ X : World, Hid (X.heap[et]? = w5.drew.heap[et]? ∧ X.heap[be + 1]? = w5.drew.heap[be + 1]?) → X.cell? ⟨et, 0, none⟩ = some (.int .i64 (room : Int)) ∧ X.cell? ⟨et, 1, none⟩ = some (.slice (some ⟨y1, 0, none⟩) 256 d1) ∧ X.cell? ⟨et, 2, none⟩ = some (.slice (some ⟨y2, 0, none⟩) 256 d2) ∧ X.cell? ⟨be + 1, 1, none⟩ = some (.int .i64 file) ∧ X.cell? ⟨be + 1, 2, none⟩ = some (.int .i64 a2)) := by
    intro X hX
    obtain ⟨i0, i1, i2, _⟩ := cells3 (hX.out.1.trans HN.out.nx)
    obtain ⟨j0, j1, j2, j3, j4, j5⟩ := cells6 (hX.out.2.trans HN.out.dz.op)
    exact ⟨i0, i1, i2, j1, j2⟩
  have HKc : Hid (∀ (X : World) (x y z : Value), Hid (X.heap[et]? = w5.drew.heap[et]? ∧ X.heap[be + 1]? = w5.drew.heap[be + 1]?) → (set3 X (be + 2) x y z).cell? ⟨et, 0, none⟩ = some (.int .i64 (room : Int)) ∧ (set3 X (be + 2) x y z).cell? ⟨et, 1, none⟩ = some (.slice (some ⟨y1, 0, none⟩) 256 d1) ∧ (set3 X (be + 2) x y z).cell? ⟨et, 2, none⟩ = some (.slice (some ⟨y2, 0, none⟩) 256 d2) ∧ (set3 X (be + 2) x y z).cell? ⟨be + 1, 1, none⟩ = some (.int .i64 file) ∧ (set3 X (be + 2) x y z).cell? ⟨be + 1, 2, none⟩ = some (.int .i64 a2)) := by
    intro X x y z hX
    have hlo := HN.out.lo
    refine HKb.out _ ⟨?_, ?_⟩
    · rw [set3_heap X x y z (by omega)]; exact hX.out.1
    · rw [set3_heap X x y z (by omega)]; exact hX.out.2
  have HK0 : Hid _ := HKb.out w5.drew ⟨rfl, rfl⟩
  have HX : Hid (∀ w6, Kept b own' w5.drew w6 → Hid (w6.heap[et]? = w5.drew.heap[et]? ∧ w6.heap[be + 1]? = w5.drew.heap[be + 1]?) ∧ w6.heap[be + 2]? = some (.cells #[.int .i64 0, .slice none 0 0, .slice none 0 0] 30 (0, 0))) := by
    intro w6 hk6
    have hlt := HP.out.dk.lt
    have e := Hbe.out
    have hlo := HN.out.lo
    obtain ⟨q1, q2, q3, q4⟩ := HN.out.dz.kept hk6 (by omega) (fun k o => by have := HT.out k o; omega)
    exact ⟨⟨hk6.block et HN.out.hi (by omega) (fun o => by have := HT.out et o; omega), q2⟩, q3.trans HN.out.dz.rs⟩
  clear hn hnd hrf hb4 hb5 hb35 hy1 hy2 HZ HR hbs x0 x1 x2 o0 o1 o2 o3 o4 o5
  clear hW3 hbe
  go_wp2
  rw [← hw5, ← het]
  clear hw5 het
  go_wp2
  go_region_held (fun X => X.cell? ⟨et, 0, none⟩ = some (.int .i64 (room : Int)) ∧ X.cell? ⟨et, 1, none⟩ = some (.slice (some ⟨y1, 0, none⟩) 256 d1) ∧ X.cell? ⟨et, 2, none⟩ = some (.slice (some ⟨y2, 0, none⟩) 256 d2) ∧ X.cell? ⟨be + 1, 1, none⟩ = some (.int .i64 file) ∧ X.cell? ⟨be + 1, 2, none⟩ = some (.int .i64 a2))
    (first | exact HK0.out | exact HKb.out _ (by assumption) | exact HKc.out _ _ _ _ (by assumption))
    (first | (go_at_call 19; refine Calls.mono HDa.out ?_; rintro e w6 ⟨rfl, hd6, hk6⟩; have hq := HX.out w6 hk6; have hq1 := hq.1; obtain ⟨z0, z1, z2, f0, f1, f2⟩ := cells3 hq.2; have HD6 : Hid _ := hd6; have HK6 : Hid _ := hk6; clear hd6 hk6 hq))
  all_goals
    go_wp2
    refine bodyPost_ret (v := .tuple #[rv room y1 y2 d1 d2, .bool true]) ?qres rfl ?qpost
    case qres => simp [results, Try.results7, go_sem, z0, z1, z2]
    case qpost =>
      have e := Hbe.out
      have hlt2 := HN.out.dz.lt
      exact ⟨_, rfl, pre_after HP.out HO.out HT.out HB35.out HRf.out HY.out.1 HY.out.2 HD6.out HK6.out (by omega) hlt2 HY2.out.1 HY2.out.2 _ _ _⟩

set_option maxHeartbeats 1000000 in
set_option maxRecDepth 20000 in
theorem does_Swap {w W : World} {b room g1 g2 c1 c2 : Nat} {A : Nat → List UInt8} {S : Nat → Nat} {own : Nat → Prop} (h0 : Pr w W b room A S g1 g2 c1 c2 own) (file a2 b2 : Int) (text : ByteArray) (kv : Value) :
    Calls Try.prog 7 #[.pointer (some ⟨b, 0, none⟩), rv room g1 g2 c1 c2, .agg (opCells 5 file a2 b2 text kv)] W fun e w' => ∃ v', e = .returned (.tuple #[v', .bool true]) ∧ PrE w W w' b room g1 g2 own v' := by
  have h := h0.tight
  obtain ⟨own', hown⟩ : ∃ own' : Nat → Prop, own' = (fun k => own k ∧ k < W.heap.size) := ⟨_, rfl⟩
  rw [← hown] at h
  have ht : ∀ k, own' k → k < W.heap.size := by rw [hown]; exact fun k e => e.2
  have HO : Hid (∀ k, own' k → own k) := by rw [hown]; exact fun k e => e.1
  obtain ⟨A', S', f, hR, hD⟩ := swap_both (b := b) h.dk.ok file a2
  obtain ⟨be, hbe⟩ : ∃ be, be = W.heap.size := ⟨_, rfl⟩
  have hz := dz_start W room g1 g2 c1 c2 (opCells 5 file a2 b2 text kv)
  rw [← hbe] at hz
  obtain ⟨W3, hW3⟩ : ∃ W3, W3 = ((W.alloc (.cells #[.int .i64 (room : Int), .slice (some ⟨g1, 0, none⟩) 256 c1, .slice (some ⟨g2, 0, none⟩) 256 c2] 30)).alloc (.cells (opCells 5 file a2 b2 text kv) 35)).alloc (.cells #[.int .i64 0, .slice none 0 0, .slice none 0 0] 30) := ⟨_, rfl⟩
  rw [← hW3] at hz
  obtain ⟨x0, x1, x2, _, _, _⟩ := cells3 hz.q
  obtain ⟨o0, o1, o2, o3, o4, o5⟩ := cells6 hz.op
  have HR : Hid _ := hR W3 _ g1 g2 c1 c2 (h.rf.below hz.bel)
  have HP : Hid (Pr w W b room A S g1 g2 c1 c2 own') := h
  have HT : Hid (∀ k, own' k → k < W.heap.size) := ht
  have HD : Hid _ := hD
  have HZ : Hid (Dz W W3 be room g1 g2 c1 c2 (opCells 5 file a2 b2 text kv)) := hz
  have Hbe : Hid (be = W.heap.size) := hbe
  clear h0 h hown ht hR hD hz
  go_enter Try.func7, Try.ntmps7
  go_wp2_with fail
  rw [← hW3, ← hbe]
  refine Calls.mono HR.out ?_
  rintro e w4 ⟨y1, y2, d1, d2, rfl, hrf, hy1, hy2, hb4⟩
  have hn := dn_start (HZ.out.below hb4) y1 y2 d1 d2
  obtain ⟨et, het⟩ : ∃ et, et = w4.heap.size := ⟨_, rfl⟩
  obtain ⟨w5, hw5⟩ : ∃ w5, w5 = w4.alloc (.cells #[.int .i64 (room : Int), .slice (some ⟨y1, 0, none⟩) 256 d1, .slice (some ⟨y2, 0, none⟩) 256 d2] 30) := ⟨_, rfl⟩
  rw [← het, ← hw5] at hn
  have hb5 : Below w4.heap.size w4 w5 := by rw [hw5]; exact (Below.refl _ _).alloc (Nat.le_refl _) _
  have HRf : Hid _ := (hrf.below hb5).below (below_drew w5)
  have hnd := hn.below (below_drew w5)
  have HN : Hid (Dn W w5.drew be et room g1 g2 c1 c2 y1 y2 d1 d2 (opCells 5 file a2 b2 text kv)) := hnd
  have hb35 : Below W.heap.size W w5.drew := hnd.dz.bel
  have hbs := HZ.out.bel.size
  have HY : Hid ((y1 = g1 ∨ W.heap.size ≤ y1) ∧ (y2 = g2 ∨ W.heap.size ≤ y2)) := ⟨newer hy1 hbs, newer hy2 hbs⟩
  have HY2 : Hid (y1 ≠ be + 2 ∧ y2 ≠ be + 2) := by
    have e := Hbe.out
    have l1 := HP.out.rf.l1
    have l2 := HP.out.rf.l2
    have l3 := HZ.out.lt
    exact ⟨by omega, by omega⟩
  have HDa : Hid _ := HD.out w5.drew own' (HP.out.dk.below hb35)
  have HB35 : Hid _ := hb35
  have HKb : Hid (∀ X : World, Hid (X.heap[et]? = w5.drew.heap[et]? ∧ X.heap[be + 1]? = w5.drew.heap[be + 1]?) → X.cell? ⟨et, 0, none⟩ = some (.int .i64 (room : Int)) ∧ X.cell? ⟨et, 1, none⟩ = some (.slice (some ⟨y1, 0, none⟩) 256 d1) ∧ X.cell? ⟨et, 2, none⟩ = some (.slice (some ⟨y2, 0, none⟩) 256 d2) ∧ X.cell? ⟨be + 1, 1, none⟩ = some (.int .i64 file) ∧ X.cell? ⟨be + 1, 2, none⟩ = some (.int .i64 a2)) := by
    intro X hX
    obtain ⟨i0, i1, i2, _⟩ := cells3 (hX.out.1.trans HN.out.nx)
    obtain ⟨j0, j1, j2, j3, j4, j5⟩ := cells6 (hX.out.2.trans HN.out.dz.op)
    exact ⟨i0, i1, i2, j1, j2⟩
  have HKc : Hid (∀ (X : World) (x y z : Value), Hid (X.heap[et]? = w5.drew.heap[et]? ∧ X.heap[be + 1]? = w5.drew.heap[be + 1]?) → (set3 X (be + 2) x y z).cell? ⟨et, 0, none⟩ = some (.int .i64 (room : Int)) ∧ (set3 X (be + 2) x y z).cell? ⟨et, 1, none⟩ = some (.slice (some ⟨y1, 0, none⟩) 256 d1) ∧ (set3 X (be + 2) x y z).cell? ⟨et, 2, none⟩ = some (.slice (some ⟨y2, 0, none⟩) 256 d2) ∧ (set3 X (be + 2) x y z).cell? ⟨be + 1, 1, none⟩ = some (.int .i64 file) ∧ (set3 X (be + 2) x y z).cell? ⟨be + 1, 2, none⟩ = some (.int .i64 a2)) := by
    intro X x y z hX
    have hlo := HN.out.lo
    refine HKb.out _ ⟨?_, ?_⟩
    · rw [set3_heap X x y z (by omega)]; exact hX.out.1
    · rw [set3_heap X x y z (by omega)]; exact hX.out.2
  have HK0 : Hid _ := HKb.out w5.drew ⟨rfl, rfl⟩
  have HX : Hid (∀ w6, Kept b own' w5.drew w6 → Hid (w6.heap[et]? = w5.drew.heap[et]? ∧ w6.heap[be + 1]? = w5.drew.heap[be + 1]?) ∧ w6.heap[be + 2]? = some (.cells #[.int .i64 0, .slice none 0 0, .slice none 0 0] 30 (0, 0))) := by
    intro w6 hk6
    have hlt := HP.out.dk.lt
    have e := Hbe.out
    have hlo := HN.out.lo
    obtain ⟨q1, q2, q3, q4⟩ := HN.out.dz.kept hk6 (by omega) (fun k o => by have := HT.out k o; omega)
    exact ⟨⟨hk6.block et HN.out.hi (by omega) (fun o => by have := HT.out et o; omega), q2⟩, q3.trans HN.out.dz.rs⟩
  clear hn hnd hrf hb4 hb5 hb35 hy1 hy2 HZ HR hbs x0 x1 x2 o0 o1 o2 o3 o4 o5
  clear hW3 hbe
  go_wp2
  rw [← hw5, ← het]
  clear hw5 het
  go_wp2
  go_region_held (fun X => X.cell? ⟨et, 0, none⟩ = some (.int .i64 (room : Int)) ∧ X.cell? ⟨et, 1, none⟩ = some (.slice (some ⟨y1, 0, none⟩) 256 d1) ∧ X.cell? ⟨et, 2, none⟩ = some (.slice (some ⟨y2, 0, none⟩) 256 d2) ∧ X.cell? ⟨be + 1, 1, none⟩ = some (.int .i64 file) ∧ X.cell? ⟨be + 1, 2, none⟩ = some (.int .i64 a2))
    (first | exact HK0.out | exact HKb.out _ (by assumption) | exact HKc.out _ _ _ _ (by assumption))
    (first | (go_at_call 11; refine Calls.mono HDa.out ?_; rintro e w6 ⟨rfl, hd6, hk6⟩; have hq := HX.out w6 hk6; have hq1 := hq.1; obtain ⟨z0, z1, z2, f0, f1, f2⟩ := cells3 hq.2; have HD6 : Hid _ := hd6; have HK6 : Hid _ := hk6; clear hd6 hk6 hq))
  all_goals
    go_wp2
    refine bodyPost_ret (v := .tuple #[rv room y1 y2 d1 d2, .bool true]) ?qres rfl ?qpost
    case qres => simp [results, Try.results7, go_sem, z0, z1, z2]
    case qpost =>
      have e := Hbe.out
      have hlt2 := HN.out.dz.lt
      exact ⟨_, rfl, pre_after HP.out HO.out HT.out HB35.out HRf.out HY.out.1 HY.out.2 HD6.out HK6.out (by omega) hlt2 HY2.out.1 HY2.out.2 _ _ _⟩

end Go.Proofs.Ytncchapgoedncaa
