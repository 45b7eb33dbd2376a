/-
  What 'does' does of Bytes and Sync, and of no call at all: the same on both sides.
-/
import Derived.Test.YtncchapgoedncaaDpPair
namespace Go.Proofs.Ytncchapgoedncaa
open Go.RowKit

/-- What a walk of 'does' begins with. -/
theorem does_begin {w W : World} {b room g1 g2 c1 c2 : Nat} {A : Nat → List UInt8} {S : Nat → Nat} {own : Nat → Prop} (h0 : Pr w W b room A S g1 g2 c1 c2 own) (ops : Array Value) :
    ∃ (own' : Nat → Prop) (be : Nat) (W3 : World), be = W.heap.size ∧ W3 = ((W.alloc (.cells #[.int .i64 (room : Int), .slice (some ⟨g1, 0, none⟩) 256 c1, .slice (some ⟨g2, 0, none⟩) 256 c2] 30)).alloc (.cells ops 35)).alloc (.cells #[.int .i64 0, .slice none 0 0, .slice none 0 0] 30) ∧
      Pr w W b room A S g1 g2 c1 c2 own' ∧ (∀ k, own' k → own k) ∧ (∀ k, own' k → k < W.heap.size) ∧ Dz W W3 be room g1 g2 c1 c2 ops := by
  refine ⟨fun k => own k ∧ k < W.heap.size, W.heap.size, _, rfl, rfl, h0.tight, fun k e => e.1, fun k e => e.2, dz_start W room g1 g2 c1 c2 ops⟩

set_option maxHeartbeats 1000000 in
set_option maxRecDepth 20000 in
theorem does_Bytes {w W : World} {b room g1 g2 c1 c2 : Nat} {A : Nat → List UInt8} {S : Nat → Nat} {own : Nat → Prop} (h0 : Pr w W b room A S g1 g2 c1 c2 own) (file a2 b2 : Int) (text : ByteArray) (kv : Value) (hb2 : b2 ≤ 9223372036854775807) :
    Calls Try.prog 7 #[.pointer (some ⟨b, 0, none⟩), rv room g1 g2 c1 c2, .agg (opCells 2 file a2 b2 text kv)] W fun e w' => ∃ v', e = .returned (.tuple #[v', .bool true]) ∧ PrE w W w' b room g1 g2 own v' := by
  obtain ⟨own', be, W3, hbe, hW3, h, ho, ht, hz⟩ := does_begin h0 (opCells 2 file a2 b2 text kv)
  obtain ⟨s, f, hR, hD⟩ := bytes_both (b := b) h.dk.ok file a2 b2 hb2
  obtain ⟨x0, x1, x2, _, _, _⟩ := cells3 hz.q
  obtain ⟨o0, o1, o2, o3, o4, o5⟩ := cells6 hz.op
  have HR : Hid _ := hR W3 _ g1 g2 c1 c2 (h.rf.below hz.bel)
  have HDa : Hid _ := hD W3 own' (h.dk.below hz.bel)
  have HP : Hid (Pr w W b room A S g1 g2 c1 c2 own') := h
  have HT : Hid (∀ k, own' k → k < W.heap.size) := ht
  have HO : Hid (∀ k, own' k → own k) := ho
  have HZ : Hid (Dz W W3 be room g1 g2 c1 c2 (opCells 2 file a2 b2 text kv)) := hz
  clear h0 h ho ht hR hD hz
  go_enter Try.func7, Try.ntmps7
  go_wp2_with fail
  rw [← hW3, ← hbe]
  refine Calls.mono HDa.out ?_
  rintro e w4 ⟨rfl, hw⟩
  have hw := hw.symm
  subst hw
  clear hW3 hbe
  go_wp2_with fail
  refine Calls.mono HR.out ?_
  rintro e w4 ⟨rfl, hb4⟩
  have hz4 := HZ.out.below hb4
  clear x0 x1 x2 o0 o1 o2 o3 o4 o5
  obtain ⟨x0, x1, x2, _, _, _⟩ := cells3 hz4.q
  obtain ⟨z0, z1, z2, f0, f1, f2⟩ := cells3 hz4.rs
  have HZ4 : Hid _ := hz4
  clear hz4 hb4
  go_wp2
  refine bodyPost_ret (v := .tuple #[rv room g1 g2 c1 c2, .bool true]) ?qres rfl ?qpost
  case qres => simp [results, Try.results7, go_sem, z0, z1, z2]
  case qpost => exact ⟨_, rfl, pre_same HP.out HO.out HT.out HZ4.out _ _ _⟩

set_option maxHeartbeats 1000000 in
set_option maxRecDepth 20000 in
theorem does_none {w W : World} {b room g1 g2 c1 c2 : Nat} {A : Nat → List UInt8} {S : Nat → Nat} {own : Nat → Prop} (h0 : Pr w W b room A S g1 g2 c1 c2 own) (kind file a2 b2 : Int) (text : ByteArray) (kv : Value)
    (k1 : (kind == 1) = false) (k2 : (kind == 2) = false) (k3 : (kind == 3) = false) (k4 : (kind == 4) = false) (k5 : (kind == 5) = false) (k6 : (kind == 6) = false) (k7 : (kind == 7) = false) :
    Calls Try.prog 7 #[.pointer (some ⟨b, 0, none⟩), rv room g1 g2 c1 c2, .agg (opCells kind file a2 b2 text kv)] W fun e w' => ∃ v', e = .returned (.tuple #[v', .bool true]) ∧ PrE w W w' b room g1 g2 own v' := by
  obtain ⟨own', be, W3, hbe, hW3, h, ho, ht, hz⟩ := does_begin h0 (opCells kind file a2 b2 text kv)
  obtain ⟨x0, x1, x2, _, _, _⟩ := cells3 hz.q
  obtain ⟨z0, z1, z2, f0, f1, f2⟩ := cells3 hz.rs
  obtain ⟨o0, _, _, _, _, _⟩ := cells6 hz.op
  have HP : Hid (Pr w W b room A S g1 g2 c1 c2 own') := h
  have HT : Hid (∀ k, own' k → k < W.heap.size) := ht
  have HO : Hid (∀ k, own' k → own k) := ho
  have HZ : Hid (Dz W W3 be room g1 g2 c1 c2 (opCells kind file a2 b2 text kv)) := hz
  clear h0 h ho ht hz
  go_enter Try.func7, Try.ntmps7
  go_upto_region 1 with fail
  rw [← hW3, ← hbe]
  clear hW3 hbe
  go_wp2
  refine bodyPost_ret (v := .tuple #[rv room g1 g2 c1 c2, .bool true]) ?qres rfl ?qpost
  case qres => simp [results, Try.results7, go_sem, z0, z1, z2]
  case qpost => exact ⟨_, rfl, pre_same HP.out HO.out HT.out HZ.out _ _ _⟩

set_option maxHeartbeats 1000000 in
set_option maxRecDepth 20000 in
theorem does_Sync {w W : World} {b room g1 g2 c1 c2 : Nat} {A : Nat → List UInt8} {S : Nat → Nat} {own : Nat → Prop} (h0 : Pr w W b room A S g1 g2 c1 c2 own) (file a2 b2 : Int) (text : ByteArray) (kv : Value) :
    Calls Try.prog 7 #[.pointer (some ⟨b, 0, none⟩), rv room g1 g2 c1 c2, .agg (opCells 4 file a2 b2 text kv)] W fun e w' => ∃ v', e = .returned (.tuple #[v', .bool true]) ∧ PrE w W w' b room g1 g2 own v' := by
  obtain ⟨own', be, W3, hbe, hW3, h, ho, ht, hz⟩ := does_begin h0 (opCells 4 file a2 b2 text kv)
  obtain ⟨S', hR, hD⟩ := sync_both (b := b) h.dk.ok
  obtain ⟨x0, x1, x2, _, _, _⟩ := cells3 hz.q
  obtain ⟨o0, _, _, _, _, _⟩ := cells6 hz.op
  have HR : Hid _ := hR W3 _ g1 g2 c1 c2 (h.rf.below hz.bel)
  have HD : Hid _ := hD
  have HP : Hid (Pr w W b room A S g1 g2 c1 c2 own') := h
  have HT : Hid (∀ k, own' k → k < W.heap.size) := ht
  have HO : Hid (∀ k, own' k → own k) := ho
  have HZ : Hid (Dz W W3 be room g1 g2 c1 c2 (opCells 4 file a2 b2 text kv)) := hz
  clear h0 h ho ht hR hD hz
  go_enter Try.func7, Try.ntmps7
  go_wp2_with fail
  rw [← hW3, ← hbe]
  refine Calls.mono HR.out ?_
  rintro e w4 ⟨y1, y2, d1, d2, rfl, hrf, hy1, hy2, hb4⟩
  have hz4 := HZ.out.below hb4
  have HDa : Hid _ := HD.out w4 own' (HP.out.dk.below hz4.bel)
  have HZ4 : Hid _ := hz4
  have HRf : Hid _ := hrf
  have hbs := HZ.out.bel.size
  have hl3 := HZ.out.lt
  have HY : Hid ((y1 = g1 ∨ W.heap.size ≤ y1) ∧ (y2 = g2 ∨ W.heap.size ≤ y2) ∧ y1 ≠ be + 2 ∧ y2 ≠ be + 2) := by
    have l1 := HP.out.rf.l1
    have l2 := HP.out.rf.l2
    exact ⟨newer hy1 hbs, newer hy2 hbs, by omega, by omega⟩
  have Hbe : Hid (be = W.heap.size) := hbe
  clear hW3 hbe hz4 hrf hy1 hy2 hb4 hbs hl3
  go_wp2_with fail
  refine Calls.mono HDa.out ?_
  rintro e w6 ⟨rfl, hd6, hk6⟩
  have hlt := HP.out.dk.lt
  obtain ⟨q1, q2, q3, q4⟩ := HZ4.out.kept hk6 (by have := Hbe.out; omega) (fun k o => by have := HT.out k o; have := Hbe.out; omega)
  obtain ⟨z0, z1, z2, f0, f1, f2⟩ := cells3 (q3.trans HZ4.out.rs)
  have HD6 : Hid _ := hd6
  have HK6 : Hid _ := hk6
  clear hd6 hk6 q1 q2 q3 q4 hlt x0 x1 x2 o0
  go_wp2
  refine bodyPost_ret (v := .tuple #[rv room y1 y2 d1 d2, .bool true]) ?qres rfl ?qpost
  case qres => simp [results, Try.results7, go_sem, z0, z1, z2]
  case qpost =>
    have e := Hbe.out
    have hlt2 := HZ4.out.lt
    exact ⟨_, rfl, pre_after HP.out HO.out HT.out HZ4.out.bel HRf.out HY.out.1 HY.out.2.1 HD6.out HK6.out (by omega) hlt2 HY.out.2.2.1 HY.out.2.2.2 _ _ _⟩

end Go.Proofs.Ytncchapgoedncaa
