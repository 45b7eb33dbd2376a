/-
  For every number and every list of pairs of numbers: NetWays answers true: of each from whom to whom there are as many letters as were put, at most the bound; the arguments read afterwards as before. No condition.
-/
import Derived.Test.YtfkhnbikobjpfaaNnTwice
import Derived.Test.YtfkhnbikobjpfaaNnArgs
import Derived.ProofKit
import Derived.OpenShut
import Derived.ShutString
import Derived.SizedLaws
import Derived.Deep.RegionHeld
namespace Go.Proofs.Ytfkhnbikobjpfaa.netWays
open Go.ChangeShapes Go.WideShapes Go.ChangeAt Go.RowKit
open Go.ChangeMaps (open_string shut_string)

theorem infoInt8 : (Try.prog.info? 3).map (fun i => (i.zero, i.size, i.bytes)) = some (some (.int .i64 0), 1, 8) := by kernel_rfl
def no64 : Array Value := madeCells (Value.int .i64 0).cells (64 * 1)
theorem no64_at (i : Nat) (h : i < 64) : no64[i]? = some (.int .i64 0) := by
  have e : no64.toList = List.replicate 64 (Value.int .i64 0) := by
    unfold no64
    rw [show (Value.int .i64 0).cells = #[Value.int .i64 0] from rfl, toList_madeCells_one]
  rw [← Array.getElem?_toList, e, List.getElem?_replicate, if_pos h]
theorem run_make64 (W : World) : (Instr.makeSlice 39 (.int .i64 64) (.int .i64 64)).run Try.prog W = .ok (.slice (some ⟨W.heap.size, 0, none⟩) 64 64) (W.alloc (.cells no64 3)) := by
  obtain ⟨i0, hi, hz0, hz1, hz2⟩ := info_parts infoInt8
  have h := run_make (P := Try.prog) W 39 3 i0 (.int .i64 0) Try.underlying39 hi hz0 .i64 .i64 64 64 (by decide) (by decide) (by rw [hz2]; decide) (by decide)
  rw [hz1] at h
  exact h

/-- The net, and how many of each way. -/
structure Wy (w : World) (B bh : Nat) (s : Q.St) (i : Nat) (X : World) : Prop where
  net : Nf w X B s i (fun k => k = bh)
  new : w.heap.size ≤ bh
  have_ : ∀ a b : Nat, a < 8 → b < 8 → X.cell? ⟨bh, 8 * a + b, none⟩ = some (.int .i64 (Q.cnt s.ls (a : Int) (b : Int) : Int))
  fz : ∀ j, X.frozen? ⟨bh, j, none⟩ = false

theorem Wy.carry {w X Y : World} {B bh : Nat} {s s' : Q.St} {i i' : Nat} (h : Wy w B bh s i X) (hn : Nf w Y B s' i' (fun k => k = bh)) (hb : Y.heap[bh]? = X.heap[bh]?) (hs : ∀ a b : Nat, Q.cnt s'.ls (a : Int) (b : Int) = Q.cnt s.ls (a : Int) (b : Int)) : Wy w B bh s' i' Y :=
  ⟨hn, h.new, fun a b ha hb' => by rw [World.cell?_of_block (a := ⟨bh, 8 * a + b, none⟩) hb, hs]; exact h.have_ a b ha hb', fun j => by rw [World.frozen?_of_block (a := ⟨bh, j, none⟩) hb]; exact h.fz j⟩

theorem Wy.start {w w1 : World} {B : Nat} {s : Q.St} (hs : s.ls = []) (h : Nf w w1 B s 0 (fun _ => False)) : Wy w B w1.heap.size s 0 (w1.alloc (.cells no64 3)) := by
  refine ⟨(h.grow (below_alloc w1 _)).less (fun k hk => .inr ⟨by omega, by rw [hk]; simp⟩), h.old.size, fun a b ha hb => ?_, fun j => ?_⟩
  · rw [World.cell?_alloc_mark, no64_at _ (by omega), hs]
    rfl
  · rw [World.frozen?_alloc_mark]
    simp

/-- A letter was put, and counted. -/
theorem Wy.counted {w X Y : World} {B bh : Nat} {s : Q.St} {i a b : Nat} (h : Wy w B bh s i X) (ha : a < 8) (hb : b < 8) (hn : Nf w Y B { s with ls := s.ls ++ [⟨(a : Int), (b : Int), ⟨#[]⟩⟩] } (i + 1) (fun k => k = bh)) (hbl : Y.heap[bh]? = X.heap[bh]?) :
    Wy w B bh { s with ls := s.ls ++ [⟨(a : Int), (b : Int), ⟨#[]⟩⟩] } (i + 1) (Y.setCell ⟨bh, 8 * a + b, none⟩ (.int .i64 ((Q.cnt s.ls (a : Int) (b : Int) : Int) + 1))) := by
  have hc := h.have_ a b ha hb
  have hY : Y.cell? ⟨bh, 8 * a + b, none⟩ = some (.int .i64 (Q.cnt s.ls (a : Int) (b : Int) : Int)) := (World.cell?_of_block (a := ⟨bh, 8 * a + b, none⟩) hbl).trans hc
  refine ⟨hn.set bh _ rfl h.new _, h.new, fun x y hx hy => ?_, fun j => ?_⟩
  · rw [cell_set6 _ hY, Q.cnt_snoc]
    by_cases e : x = a ∧ y = b
    · rw [if_pos (by rw [e.1, e.2]), if_pos (by rw [e.1, e.2]; exact ⟨rfl, rfl⟩), e.1, e.2]
      rfl
    · rw [if_neg (fun q => e (by omega)), if_neg (fun q => e (by have q1 : (a : Int) = (x : Int) := q.1; have q2 : (b : Int) = (y : Int) := q.2; constructor <;> omega)), World.cell?_of_block (a := ⟨bh, 8 * x + y, none⟩) hbl]
      exact h.have_ x y hx hy
  · rw [World.frozen?_setCell, World.frozen?_of_block (a := ⟨bh, j, none⟩) hbl]
    exact h.fz j

theorem bounds_c {s : Q.St} {n : Nat} {w X : World} {B bh : Nat} (h : Wy w B bh s n X) (a b : Int) : Q.cnt s.ls a b ≤ n := Nat.le_trans (Q.cnt_le _ _ _) h.net.len

theorem mod8 (x : Int) : ∃ a : Nat, bits .and .i64 x 7 = (a : Int) ∧ a < 8 := ⟨(x % 8).toNat, by rw [and_7]; omega, by omega⟩
theorem mod16 (x : Int) : ∃ a : Nat, bits .and .i64 x 15 = (a : Int) ∧ a < 16 := ⟨(x % 16).toNat, by rw [and_15]; omega, by omega⟩
theorem nums {a b : Nat} (ha : a < 8) (hb : b < 8) : IntKind.i64.wrap (8 * (a : Int)) = ((8 * a : Nat) : Int) ∧ wrap64 (8 * (a : Int)) = ((8 * a : Nat) : Int) ∧ IntKind.i64.wrap (((8 * a : Nat) : Int) + (b : Int)) = ((8 * a + b : Nat) : Int) ∧ wrap64 (((8 * a : Nat) : Int) + (b : Int)) = ((8 * a + b : Nat) : Int) ∧
    (0 : Int) ≤ ((8 * a + b : Nat) : Int) ∧ ((8 * a + b : Nat) : Int) < 64 ∧ In64 (a : Int) ∧ In64 (b : Int) :=
  ⟨by rw [IntKind.wrap_i64]; omega, by rw [IntWalk.wrap64_in _ ⟨by omega, by omega⟩]; omega, by rw [IntKind.wrap_i64]; omega, by rw [IntWalk.wrap64_in _ ⟨by omega, by omega⟩]; omega, by omega, by omega, ⟨by omega, by omega⟩, ⟨by omega, by omega⟩⟩
theorem kkn {mo : Nat} (h : mo < 16) : IntKind.i64.wrap (1 + (mo : Int)) = ((1 + mo : Nat) : Int) ∧ wrap64 (1 + (mo : Int)) = ((1 + mo : Nat) : Int) ∧ ((1 : Int) ≤ ((1 + mo : Nat) : Int) ∧ ((1 + mo : Nat) : Int) ≤ 4096) :=
  ⟨by rw [IntKind.wrap_i64]; omega, by rw [IntWalk.wrap64_in _ ⟨by omega, by omega⟩]; omega, by omega, by omega⟩
theorem inc {c : Nat} (h : c ≤ 200) : IntKind.i64.wrap ((c : Int) + 1) = (c : Int) + 1 := by rw [IntKind.wrap_i64]; omega
theorem natLt {a b : Nat} (h : a < b) : (a : Int) < (b : Int) := by omega
theorem natGe {a b : Nat} (h : ¬ a < b) : ¬ (a : Int) < (b : Int) := by omega
theorem put_yes {s : Q.St} {a b ct kk : Nat} (ha : a < 8) (hb : b < 8) (hct : ct = Q.cnt s.ls (a : Int) (b : Int)) (hm : s.most = (kk : Int)) (h : ct < kk) : Q.putE s ⟨(a : Int), (b : Int), ⟨#[]⟩⟩ = 0 := by
  unfold Q.putE
  rw [if_neg (by dsimp only; omega), if_neg (by show ¬ (0 : Nat) > 1048576; decide), if_neg (by dsimp only; rw [← hct, hm]; omega)]
theorem put_no {s : Q.St} {a b ct kk : Nat} (ha : a < 8) (hb : b < 8) (hct : ct = Q.cnt s.ls (a : Int) (b : Int)) (hm : s.most = (kk : Int)) (h : ¬ ct < kk) : Q.putE s ⟨(a : Int), (b : Int), ⟨#[]⟩⟩ = 2 := by
  unfold Q.putE
  rw [if_neg (by dsimp only; omega), if_neg (by show ¬ (0 : Nat) > 1048576; decide), if_pos (by dsimp only; rw [← hct, hm]; omega)]

set_option maxHeartbeats 3200000 in
set_option maxRecDepth 20000 in
theorem walk (a0 : Int) (v1 : Value) (a1 : List (Int × Int)) (w : World) (_b0 : -9223372036854775808 ≤ a0 ∧ a0 ≤ 9223372036854775807) (_b1 : Elems w 2 a2Cells A2In v1 a1) :
    Calls Try.prog 6 #[.int .i64 a0, v1] w fun e w' => e = .returned (.bool true) ∧ Below w.heap.size w w' := by
  have HA : Hid (∀ u : World, Calls Try.prog 9 #[] u fun e w' => e = .returned (.bool true) ∧ Below u.heap.size u w') := awake_c
  obtain ⟨p0, c0, hv0, hc1, hc2, hgood, hcells⟩ := _b1
  obtain ⟨n0, hn0⟩ : ∃ n0, n0 = a1.length := ⟨_, rfl⟩
  rw [← hn0] at hv0 hc1
  have HI : Hid (∀ k, k < n0 → ∃ x y g o, p0 = some ⟨g, o, none⟩ ∧ ∀ X, Below w.heap.size w X → X.cell? ⟨g, o + k * 2, none⟩ = some (.int .i64 x) ∧ X.cell? ⟨g, o + k * 2 + 1, none⟩ = some (.int .i64 y)) := by
    intro k hk
    obtain ⟨q, hq⟩ : ∃ q, a1[k]? = some q := ⟨_, List.getElem?_eq_getElem (by omega)⟩
    rcases hcells with h | ⟨g, o, hp, hg, hcs⟩
    · rw [h] at hq
      simp at hq
    · refine ⟨q.1, q.2, g, o, hp, fun X hX => ?_⟩
      have e : ∀ j, X.cell? ⟨g, j, none⟩ = w.cell? ⟨g, j, none⟩ := fun j => hX.cell (p := ⟨g, j, none⟩) hg
      rw [e, e]
      exact ⟨hcs k q hq 0 _ rfl, hcs k q hq 1 _ rfl⟩
  subst hv0
  have hmk := run_make64
  have hcm := hc2
  unfold maxLen at hcm
  obtain ⟨mo, hm15, hmo16⟩ := mod16 a0
  obtain ⟨hwk, hwk', hkb⟩ := kkn hmo16
  obtain ⟨kk, hkk⟩ : ∃ kk : Nat, kk = 1 + mo := ⟨_, rfl⟩
  rw [← hkk] at hwk hwk' hkb
  have HNew : Hid _ := New_fresh (kk : Int) hkb w (Below.refl _ w)
  obtain ⟨B, hB⟩ : ∃ B, B = w.heap.size + 1 := ⟨_, rfl⟩
  rw [← hB] at HNew
  clear hn0 hgood hcells _b0 hc2 hmo16 hkk hB hkb
  go_enter Try.func6, Try.ntmps6
  go_wp2_with fail
  refine Calls.mono HNew.out ?_
  rintro e w1 ⟨rfl, hl, _⟩
  have HV0 : Hid (Wy w B w1.heap.size ⟨(kk : Int), []⟩ 0 (w1.alloc (.cells no64 3))) := Wy.start rfl (hl.less (fun k hk => hk.elim))
  clear hl
  go_wp2
  obtain ⟨bh, hbh⟩ : ∃ bh, bh = w1.heap.size := ⟨_, rfl⟩
  rw [← hbh] at HV0 ⊢
  clear hbh hmk hm15 hwk hwk'
  go_loopw [9, 10] (fun av iv wr => ∃ (i : Nat) (s : Q.St), iv = .int .i64 (i : Int) ∧ i ≤ n0 ∧ i ≤ 200 ∧ av = .int .i64 (s.ls.length : Int) ∧ s.most = (kk : Int) ∧ Hid (Wy w B bh s i wr)) (fun _ iv _ => 200 - (intOf iv).toNat)
  case atStart => exact ⟨0, _, rfl, by omega, by omega, rfl, rfl, HV0⟩
  case round =>
    clear HV0
    obtain ⟨i, s, rfl, hin, hi200, rfl, hmost, HV⟩ := hrel
    by_cases hlt : i < n0
    · by_cases hlt2 : i < 200
      · obtain ⟨x, y, g, o, hp, hX⟩ := HI.out i hlt
        subst hp
        obtain ⟨y0, y1⟩ := hX wr HV.out.net.old
        obtain ⟨a, hm7x, ha8⟩ := mod8 x
        obtain ⟨b, hm7y, hb8⟩ := mod8 y
        have HR : Hid (a < 8 ∧ b < 8) := ⟨ha8, hb8⟩
        obtain ⟨hw1, hw1', hw2, hw2', hj0, hj1, h64⟩ := nums ha8 hb8
        obtain ⟨j, hj⟩ : ∃ j : Nat, j = 8 * a + b := ⟨_, rfl⟩
        obtain ⟨ja, hja⟩ : ∃ ja : Nat, ja = 8 * a := ⟨_, rfl⟩
        have HJ : Hid (j = 8 * a + b) := hj
        rw [← hj] at hw2 hw2' hj0 hj1
        rw [← hja] at hw1 hw1' hw2 hw2'
        have hk0 : (0 : Int) ≤ (i : Int) := Int.natCast_nonneg i
        have hk1 : (i : Int) < (n0 : Int) := natLt hlt
        have hi2 : (i : Int) < 200 := natLt hlt2
        have HPut : Hid _ := (HV.out.net.below (Y := wr.drew) (Below.refl _ _).drew).put (Nat.lt_of_lt_of_le hlt2 (by decide)) (a : Int) (b : Int) ⟨#[]⟩ h64 (by decide)
        obtain ⟨ct, hct⟩ : ∃ ct : Nat, ct = Q.cnt s.ls (a : Int) (b : Int) := ⟨_, rfl⟩
        have hct2 : ct ≤ 200 := by rw [hct]; exact Nat.le_trans (bounds_c HV.out (a : Int) (b : Int)) hi200
        have HBet : Hid (∀ X s', Nf w X B s' (i + 1) (fun k => k = bh) → Calls Try.prog 15 #[.pointer (some ⟨B, 0, none⟩), .int .i64 (a : Int), .int .i64 (b : Int)] X fun e Y => e = .returned (.int .i64 (Q.cnt s'.ls (a : Int) (b : Int) : Int)) ∧ Y = X) := fun X s' hX => hX.between _ _ h64.1 h64.2
        have HLen : Hid (∀ X s', Nf w X B s' (i + 1) (fun k => k = bh) → Calls Try.prog 11 #[.pointer (some ⟨B, 0, none⟩)] X fun e Y => e = .returned (.int .i64 (s'.ls.length : Int)) ∧ Y = X) := fun X s' hX => hX.lenC
        have HX : Hid _ := hX
        obtain ⟨ln, hln⟩ : ∃ ln, ln = s.ls.length := ⟨_, rfl⟩
        have hln2 : ln ≤ 200 := by rw [hln]; exact Nat.le_trans HV.out.net.len hi200
        by_cases tf : ct < kk
        · have hE : Q.putE s ⟨(a : Int), (b : Int), ⟨#[]⟩⟩ = 0 := put_yes ha8 hb8 hct hmost tf
          have hP : Q.put s ⟨(a : Int), (b : Int), ⟨#[]⟩⟩ = { s with ls := s.ls ++ [⟨(a : Int), (b : Int), ⟨#[]⟩⟩] } := by unfold Q.put; rw [if_pos hE]
          rw [hE, hP] at HPut
          have HCt : Hid (ct = Q.cnt s.ls (a : Int) (b : Int)) := hct
          have HLn : Hid (ln = s.ls.length) := hln
          have HM : Hid (s.most = (kk : Int)) := hmost
          have tf' : (ct : Int) < (kk : Int) := natLt tf
          have hwc := inc hct2
          have hwl := inc hln2
          rw [← hln]
          clear hX ha8 hb8 hja hj hct hE hP hmost h64 hln tf
          go_wp2
          go_region_held (fun X => X.cell? ⟨g, o + i * 2, none⟩ = some (.int .i64 x) ∧ X.cell? ⟨g, o + i * 2 + 1, none⟩ = some (.int .i64 y)) (exact ⟨y0, y1⟩) (fail)
          go_wp2_with fail
          refine Calls.mono HPut.out ?_
          rintro e X ⟨rfl, hnf, hbl, _⟩
          have hbl := hbl bh rfl
          have HW : Hid (Wy w B bh { s with ls := s.ls ++ [⟨(a : Int), (b : Int), ⟨#[]⟩⟩] } (i + 1) (X.setCell ⟨bh, j, none⟩ (.int .i64 ((ct : Int) + 1)))) := by
            have := HV.out.counted HR.out.1 HR.out.2 hnf hbl
            rw [HJ.out, HCt.out]
            exact this
          have q0 : X.cell? ⟨bh, j, none⟩ = some (.int .i64 (ct : Int)) := by
            rw [World.cell?_of_block (a := ⟨bh, j, none⟩) hbl, HJ.out, HCt.out]
            exact HV.out.have_ a b HR.out.1 HR.out.2
          have qf : X.frozen? ⟨bh, j, none⟩ = false := by
            rw [World.frozen?_of_block (a := ⟨bh, j, none⟩) hbl]
            exact HV.out.fz j
          clear hnf hbl HPut
          go_wp2
          obtain ⟨Y, hY⟩ : ∃ Y, Y = X.setCell ⟨bh, j, none⟩ (.int .i64 ((ct : Int) + 1)) := ⟨_, rfl⟩
          rw [← hY] at HW ⊢
          clear hY q0 qf
          have q1 : Y.cell? ⟨bh, j, none⟩ = some (.int .i64 ((ct : Int) + 1)) := by
            have := HW.out.have_ a b HR.out.1 HR.out.2
            rw [HJ.out, this, HCt.out, Q.cnt_snoc, if_pos ⟨rfl, rfl⟩]
            rfl
          have hnd : Nf w Y.drew B { s with ls := s.ls ++ [⟨(a : Int), (b : Int), ⟨#[]⟩⟩] } (i + 1) (fun k => k = bh) := HW.out.net.below (Below.refl _ _).drew
          have HB2 : Hid (Calls Try.prog 15 #[.pointer (some ⟨B, 0, none⟩), .int .i64 (a : Int), .int .i64 (b : Int)] Y.drew fun e Z => e = .returned (.int .i64 ((ct : Int) + 1)) ∧ Z = Y.drew) := by
            have := HBet.out _ _ hnd
            dsimp only at this
            rw [Q.cnt_snoc, if_pos ⟨rfl, rfl⟩, ← HCt.out] at this
            exact this
          have HL2 : Hid (Calls Try.prog 11 #[.pointer (some ⟨B, 0, none⟩)] Y.drew fun e Z => e = .returned (.int .i64 ((ln : Int) + 1)) ∧ Z = Y.drew) := by
            have := HLen.out _ _ hnd
            dsimp only at this
            rw [List.length_append, ← HLn.out] at this
            exact this
          have HNext : Hid (Wy w B bh { s with ls := s.ls ++ [⟨(a : Int), (b : Int), ⟨#[]⟩⟩] } (i + 1) Y.drew) := HW.out.carry hnd rfl (fun _ _ => rfl)
          clear hnd HBet HLen HW
          go_region_held (fun Z => Z.cell? ⟨bh, j, none⟩ = some (.int .i64 ((ct : Int) + 1)))
            (exact q1)
            (first
              | (go_at_call 15; refine (HB2.out).mono ?_; rintro e w6 ⟨rfl, hw6⟩; subst hw6)
              | (go_at_call 11; refine (HL2.out).mono ?_; rintro e w6 ⟨rfl, hw6⟩; subst hw6))
          go_wp2
          go_roundw
          case rel => exact ⟨i + 1, { s with ls := s.ls ++ [⟨(a : Int), (b : Int), ⟨#[]⟩⟩] }, by go_num, by omega, by omega, by rw [HLn.out]; simp, HM.out, HNext⟩
          case measure => simp [intOf]; omega
        · have hE : Q.putE s ⟨(a : Int), (b : Int), ⟨#[]⟩⟩ = 2 := put_no ha8 hb8 hct hmost tf
          have hP : Q.put s ⟨(a : Int), (b : Int), ⟨#[]⟩⟩ = s := by unfold Q.put; rw [hE]; rfl
          rw [hE, hP] at HPut
          have HCt : Hid (ct = Q.cnt s.ls (a : Int) (b : Int)) := hct
          have HLn : Hid (ln = s.ls.length) := hln
          have HM : Hid (s.most = (kk : Int)) := hmost
          have tf' : ¬ (ct : Int) < (kk : Int) := natGe tf
          rw [← hln]
          clear hX ha8 hb8 hja hj hct hE hP hmost h64 hln tf
          go_wp2
          go_region_held (fun X => X.cell? ⟨g, o + i * 2, none⟩ = some (.int .i64 x) ∧ X.cell? ⟨g, o + i * 2 + 1, none⟩ = some (.int .i64 y)) (exact ⟨y0, y1⟩) (fail)
          go_wp2_with fail
          refine Calls.mono HPut.out ?_
          rintro e X ⟨rfl, hnf, hbl, _⟩
          have hbl := hbl bh rfl
          have q1 : X.cell? ⟨bh, j, none⟩ = some (.int .i64 (ct : Int)) := by
            rw [World.cell?_of_block (a := ⟨bh, j, none⟩) hbl, HJ.out, HCt.out]
            exact HV.out.have_ a b HR.out.1 HR.out.2
          have hnd : Nf w X.drew B s (i + 1) (fun k => k = bh) := hnf.below (Below.refl _ _).drew
          have HB2 : Hid (Calls Try.prog 15 #[.pointer (some ⟨B, 0, none⟩), .int .i64 (a : Int), .int .i64 (b : Int)] X.drew fun e Z => e = .returned (.int .i64 (ct : Int)) ∧ Z = X.drew) := by
            have := HBet.out _ _ hnd
            rw [← HCt.out] at this
            exact this
          have HL2 : Hid (Calls Try.prog 11 #[.pointer (some ⟨B, 0, none⟩)] X.drew fun e Z => e = .returned (.int .i64 (ln : Int)) ∧ Z = X.drew) := by
            have := HLen.out _ _ hnd
            rw [← HLn.out] at this
            exact this
          have HNext : Hid (Wy w B bh s (i + 1) X.drew) := HV.out.carry hnd hbl (fun _ _ => rfl)
          clear hnd HBet HLen hnf hbl HPut
          go_wp2
          go_region_held (fun Z => Z.cell? ⟨bh, j, none⟩ = some (.int .i64 (ct : Int)))
            (exact q1)
            (first
              | (go_at_call 15; refine (HB2.out).mono ?_; rintro e w6 ⟨rfl, hw6⟩; subst hw6)
              | (go_at_call 11; refine (HL2.out).mono ?_; rintro e w6 ⟨rfl, hw6⟩; subst hw6))
          go_wp2
          go_roundw
          case rel => exact ⟨i + 1, s, by go_num, by omega, by omega, by rw [HLn.out], HM.out, HNext⟩
          case measure => simp [intOf]; omega
      · obtain rfl : i = 200 := by omega
        have hk1 : (200 : Int) < (n0 : Int) := by omega
        have HO : Hid _ := HV.out.net.old
        generalize s.ls.length = ln
        clear hlt hin hi200 hlt2 hmost
        go_wp2_with fail
        refine (HA.out _).mono ?_
        rintro e w3 ⟨rfl, hb3⟩
        have HB3 : Hid _ := hb3
        clear hb3
        go_wp2
        go_ret
        exact ⟨rfl, HO.out.trans (HB3.out.mono HO.out.size)⟩
    · have hk1 : ¬ (i : Int) < (n0 : Int) := by omega
      have HO : Hid _ := HV.out.net.old
      generalize s.ls.length = ln
      clear hlt hin hi200 hmost
      go_wp2_with fail
      refine (HA.out _).mono ?_
      rintro e w3 ⟨rfl, hb3⟩
      have HB3 : Hid _ := hb3
      clear hb3
      go_wp2
      go_ret
      exact ⟨rfl, HO.out.trans (HB3.out.mono HO.out.size)⟩

theorem laidOut : laidOutB Try.prog = true := by kernel_rfl

theorem own : ownKnob Try.prog.godebug = none := by kernel_rfl

set_option maxRecDepth 100000 in
theorem lifted (os : Os) (started : os.Started) (H : Type) (enc : TypeId × Value → H) :
    ReturnsInHanded {} Try.checked os 6 .any (Rows.netWaysSpec.pre6 enc Try.prog Try.f6 Rows.netWaysRow.domain false) (Rows.netWaysSpec.post enc Try.prog Try.f6 false true false false) := by
  refine returnsInHanded_of_change_sized (C := Try.checked) own started (by kernel_rfl) Try.func6
    (ChangeSpec.witness6 (enc := enc) (C := Try.checked) false ⟨#[], #[.int .i64 0, .slice none 0 0], []⟩ 8 (by kernel_rfl) (by kernel_rfl) (by kernel_rfl) (by kernel_rfl)) ?_
  intro W base args ds gs before hval0 hW _ hsz0 _
  have hsz : (DataW.weightsEach Try.prog (Try.f6.params.toList ++ Rows.netWaysSpec.plain.varTypes Try.prog) (ds ++ gs)).all (· ≤ reachBytes) = true := hsz0
  have hval : ∀ (j : Nat) t v, Try.f6.params[j]? = some t → args[j]? = some v → Value.okWide Try.prog W .any base t v := hval0
  have hW' := hW
  obtain ⟨p, q, hA0, hV, rfl, hfz, hnd⟩ := hW
  have hA : DataW.TrodAll enc Try.prog W 0 (fun _ => true) true Try.f6.params.toList args.toList ds p := hA0
  rw [Try.params6] at hA hval hsz
  obtain ⟨v0, vs0, d0, ds0, p0, q0, hargs, rfl, rfl, h0, r0⟩ := trodAll_cons hA
  obtain ⟨v1, vs1, d1, ds1, p1, q1, rfl, rfl, rfl, h1, r1⟩ := trodAll_cons r0
  obtain ⟨rfl, rfl, rfl⟩ := trodAll_nil r1
  obtain rfl : args = #[v0, v1] := by cases args; simp_all
  obtain ⟨rfl, rfl⟩ := trodVars_none hV
  obtain ⟨a0, rfl, rfl, rfl, w0⟩ := open_int Try.underlying3 (hval 0 3 v0 rfl rfl) h0
  have b0 : -9223372036854775808 ≤ a0 ∧ a0 ≤ 9223372036854775807 := by simpa [Lit.wf, IntKind.min, IntKind.max, IntKind.signed, IntKind.bits] using w0
  have k1 := h1
  have lt1 : ∀ x ∈ p1, x.block < W.heap.size := by obtain ⟨m, hm⟩ := k1; exact DataW.trod_lt m _ _ _ hm
  obtain ⟨a1, b1⟩ := open_a2s (hval 1 57 v1 rfl rfl) h1
  clear hA0 hval0 hsz0
  refine (walk a0 v1 a1 W b0 b1).mono fun e W' ⟨he, bel⟩ => ?_
  subst he
  exact ⟨_, rfl, _, _, _, [], _, [], hW', trodAll_mk1 (shut_bool Try.underlying4 _), (trodAll_cons_mk (shut_int Try.underlying3 w0) (trodAll_cons_mk (Below.trod laidOut (by kernel_rfl) (of_decide_eq_true (by kernel_rfl)) k1 bel lt1) trodAll_mk0)), rfl, bel.frame _, fun h => by cases h⟩

theorem over : Rows.netWaysRow.holds Try.pinned (OpenSpec.ofChange Rows.netWaysSpec) :=
  OpenClaim.holds_of_wide 6 Try.f6 rfl rfl rfl rfl rfl rfl rfl ⟨rfl, rfl, rfl, rfl, rfl⟩ rfl rfl rfl rfl rfl (by kernel_rfl) Try.func6 (by kernel_rfl)
    (of_decide_eq_true (by kernel_rfl)) (by unfold Func.isWrapper; first | (rw [if_pos (by decide +kernel)]; kernel_rfl) | (rw [if_neg (by decide +kernel)]; exact ⟨rfl, rfl⟩))
    (fun os started H enc _ => lifted os started H enc)


end Go.Proofs.Ytfkhnbikobjpfaa.netWays
namespace Go.Proofs.Ytfkhnbikobjpfaa
/-- The statement. -/
theorem netWays_holds : Rows.NetWaysSaid := netWays.over
end Go.Proofs.Ytfkhnbikobjpfaa
