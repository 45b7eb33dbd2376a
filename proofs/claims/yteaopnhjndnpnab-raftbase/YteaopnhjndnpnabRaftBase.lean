/-
  For every number many and every two numbers at: RaftBase answers true: what is compacted is the base, and changes nothing else; the arguments read afterwards as before. No condition.
-/
import Derived.Test.YteaopnhjndnpnabNdBaseM
import Derived.Test.YteaopnhjndnpnabArr
import Derived.Test.YteaopnhjndnpnabDkMask
import Derived.ProofKit
import Derived.OpenShut
import Derived.ShutString
import Derived.SizedLaws
namespace Go.Proofs.Yteaopnhjndnpnab.raftBase
open Go.ChangeShapes Go.WideShapes Go.ChangeAt Go.RowKit
open Go.ChangeMaps (open_string shut_string)

theorem and_15 (x : Int) : bits .and .i64 x 15 = x % 16 := by
  have h1 : (BitVec.ofInt 64 (15 : Int)).toNat = 2 ^ 4 - 1 := by decide
  have h2 : (BitVec.ofInt 64 x).toNat = (x % 18446744073709551616).toNat := by rw [BitVec.toNat_ofInt]; rfl
  show IntKind.i64.wrap ((BitVec.ofInt 64 x &&& BitVec.ofInt 64 15).toNat : Int) = _
  rw [BitVec.toNat_and, h1, h2, Nat.and_two_pow_sub_one_eq_mod, wraps_i64 _ (by omega) (by rw [pow63]; omega)]
  omega

theorem conv_ch {W : World} {g i : Nat} (hh : W.heap[g]? = some (.cells #[.int .u8 (97 + ((i % 16 : Nat) : Int))] 5 (0, 0))) :
    (convert 35 9 (.slice (some ⟨g, 0, none⟩) 1 1)).run Try.prog W = .ok (.string (ch i)) W := by
  have hi : i % 16 < 16 := Nat.mod_lt _ (by decide)
  refine run_convert_bytes_back W 35 9 5 ⟨g, 0, none⟩ 1 [(97 + i % 16).toUInt8] Try.underlying35 Try.underlying5 Try.underlying9 ?_
  intro j hj
  have hj0 : j = 0 := by simpa using hj
  subst hj0
  rw [addr_add0]
  unfold World.cell?
  rw [hh]
  show some (Value.int .u8 (97 + ((i % 16 : Nat) : Int))) = some (Value.int .u8 ((((97 + i % 16).toUInt8).toNat : Nat) : Int))
  rw [byte_toNat (by omega)]
  simp

theorem cut_c (w : World) (n : Int) (most : Nat) (h0 : 0 < most) (h1 : most ≤ 1000) :
    Calls Try.prog 8 #[.int .i64 n, .int .i64 (most : Int)] w fun e w' => ∃ q : Nat, q < most ∧ e = .returned (.int .i64 (q : Int)) ∧ w' = w := by
  obtain ⟨k, hk⟩ : ∃ k, k = Int.tmod n most := ⟨_, rfl⟩
  have hb : -(most : Int) < k ∧ k < most := by
    rw [hk]
    have a1 := Int.tmod_lt_of_pos n (show (0 : Int) < most by omega)
    have a2 := Int.lt_tmod_of_pos n (show (0 : Int) < most by omega)
    omega
  have hw : IntKind.i64.wrap k = k := by rw [IntKind.wrap_i64]; omega
  have hz : ¬ ((most : Int) = 0) := by omega
  have hk' : Int.tmod n most = k := hk.symm
  have HB : Hid (-(most : Int) < k ∧ k < most) := hb
  have hw2 : IntKind.i64.wrap (0 - k) = 0 - k := by rw [IntKind.wrap_i64]; omega
  have hw3 : IntKind.i64.wrap (-k) = -k := by rw [IntKind.wrap_i64]; omega
  clear hk
  by_cases c : k < 0
  · clear hb
    go_enter Try.func8, Try.ntmps8
    go_wp2
    go_ret
    have := HB.out
    exact ⟨(-k).toNat, by omega, ret_int (by omega), rfl⟩
  · clear hb
    go_enter Try.func8, Try.ntmps8
    go_wp2
    go_ret
    have := HB.out
    exact ⟨k.toNat, by omega, ret_int (by omega), rfl⟩

theorem SvW.below {X Y : World} {b m : Nat} {v : Value} (h : SvW X b m v) (hb : Below X.heap.size X Y) : SvW Y b m v := by
  obtain ⟨l, h1, h2, h3, h4⟩ := h
  exact ⟨l, h1.below hb, h2, h3, h4⟩

/-- The node, and what it saved in block bz. -/
structure Lw (u X : World) (B b m c bz : Nat) (v : Value) : Prop where
  bw : Bw u X B b m c
  lt : bz < X.heap.size
  c5 : X.cell? ⟨bz, 5, none⟩ = some v
  sv : SvW X b m v
theorem Lw.below {u X Y : World} {B b m c bz : Nat} {v : Value} (h : Lw u X B b m c bz v) (hb : Below X.heap.size X Y) : Lw u Y B b m c bz v :=
  ⟨h.bw.below hb, Nat.lt_of_lt_of_le h.lt hb.size, (hb.cell (p := ⟨bz, 5, none⟩) h.lt).trans h.c5, SvW.below h.sv hb⟩

set_option maxHeartbeats 8000000 in
set_option maxRecDepth 20000 in
theorem walk (a0 : Int) (a1 c1 : Int) (w : World) (_b0 : -9223372036854775808 ≤ a0 ∧ a0 ≤ 9223372036854775807) (_b1 : (-9223372036854775808 ≤ a1 ∧ a1 ≤ 9223372036854775807) ∧ (-9223372036854775808 ≤ c1 ∧ c1 ≤ 9223372036854775807)) :
    Calls Try.prog 3 #[.int .i64 a0, .agg #[.int .i64 a1, .int .i64 c1]] w fun e w' => e = .returned (.bool true) ∧ Below w.heap.size w w' := by
  have HA : Hid (∀ u : World, Calls Try.prog 13 #[] u fun e w' => e = .returned (.bool true) ∧ Below u.heap.size u w') := awake_c
  obtain ⟨u, hu⟩ : ∃ u, u = w.alloc (.cells #[.int .i64 a1, .int .i64 c1] 22) := ⟨_, rfl⟩
  obtain ⟨ba, hba⟩ : ∃ ba, ba = w.heap.size := ⟨_, rfl⟩
  have hbu : Below w.heap.size w u := by rw [hu]; exact below_alloc _ _
  have hsu : u.heap.size = ba + 1 := by rw [hu, hba]; simp
  have HU : Hid (Below w.heap.size w u ∧ u.heap.size = ba + 1 ∧ ba = w.heap.size ∧ u.cell? ⟨ba, 0, none⟩ = some (.int .i64 a1) ∧ u.cell? ⟨ba, 1, none⟩ = some (.int .i64 c1)) := by
    refine ⟨hbu, hsu, hba, ?_, ?_⟩
    · rw [hu, hba]; exact World.cell?_alloc_mark w _ _ _ 0
    · rw [hu, hba]; exact World.cell?_alloc_mark w _ _ _ 1
  have HN : Hid (∀ X, Below u.heap.size u X → Calls Try.prog 4 #[.int .i64 0, .int .i64 0, .int .i64 1, svV frSv (.slice none 0 0), .int .i64 0] X fun e w' => ∃ B, e = .returned (.tuple #[.pointer (some ⟨B, 0, none⟩), .int .i64 0]) ∧ Aw u w' B aw0) := fun X hX => by
    refine (New_fresh X 0 1 0 (by decide) (by decide) (by decide)).mono ?_
    rintro e w' ⟨B, rfl, own, h1, h2, h3, h4⟩
    have := hX.size
    exact ⟨B, rfl, own, h1, hX.trans (h2.mono hX.size), by omega, fun k hk => by have := h4 k hk; omega⟩
  have HT : Hid (∀ (k : Nat) X B, k < 10 → Aw u X B { aw0 with left := 10 - (k : Int) } → Calls Try.prog 6 #[.pointer (some ⟨B, 0, none⟩), .int .i64 0] X fun e w' => e = .returned (.slice none 0 0) ∧ Aw u w' B (if k = 9 then bs1 else { aw0 with left := 10 - ((k + 1 : Nat) : Int) })) := fun k X B hk h => bs_tick k hk h
  have hm31 := and_31 a0
  obtain ⟨kk, hkk⟩ : ∃ kk : Nat, a0 % 32 = (kk : Int) := ⟨(a0 % 32).toNat, by omega⟩
  have HKK : Hid (kk < 32) := by show kk < 32; omega
  rw [hkk] at hm31
  have hw31 : IntKind.i64.wrap (1 + (kk : Int)) = ((kk + 1 : Nat) : Int) := by rw [IntKind.wrap_i64]; omega
  clear _b0 _b1 hbu hsu hkk
  go_enter Try.func3, Try.ntmps3
  go_wp2_with fail
  rw [← hu]
  refine Calls.mono (fresh_c _) ?_
  rintro e w1 ⟨rfl, hb1⟩
  rw [← hba]
  have HBb : Hid _ := hb1
  clear hb1 hu hba
  go_wp2_with fail
  refine Calls.mono (HN.out _ HBb.out) ?_
  rintro e w2 ⟨B, rfl, h2⟩
  have HA2 : Hid _ := h2
  clear h2 HN
  go_wp2
  go_loopw [7] (fun x wr => ∃ k : Nat, x = .int .i64 (k : Int) ∧ k ≤ 10 ∧ Hid (Aw u wr B (if k = 10 then bs1 else { aw0 with left := 10 - (k : Int) }))) (fun x _ => 10 - (intOf x).toNat)
  case atStart => exact ⟨0, rfl, by omega, HA2.out⟩
  case round =>
    clear HA2
    obtain ⟨k, rfl, hk, HAk⟩ := hrel
    by_cases hlt : k < 10
    · have hAk := HAk.out
      rw [if_neg (by omega)] at hAk
      have HTk : Hid _ := HT.out k wr B hlt hAk
      clear hAk
      go_wp2_with fail
      refine Calls.mono HTk.out ?_
      rintro e w5 ⟨rfl, h5⟩
      have HA5 : Hid (Aw u w5 B (if k + 1 = 10 then bs1 else { aw0 with left := 10 - ((k + 1 : Nat) : Int) })) := by
        have e : (k + 1 = 10) = (k = 9) := by simp
        simp only [e]
        exact h5
      clear h5
      go_wp2
      go_roundw
      case rel => exact ⟨k + 1, by go_num, by omega, HA5⟩
      case measure => simp [intOf]; omega
    · obtain rfl : k = 10 := by omega
      have HB10 : Hid (Bw u wr B 0 1 2) := ⟨bs1, HAk.out, bs1_is⟩
      clear HAk HT
      go_wp2
      go_loopw [9] (fun x wr => ∃ i : Nat, x = .int .i64 (i : Int) ∧ i ≤ kk + 1 ∧ Hid (Bw u wr B 0 (i + 1) (i + 2))) (fun x _ => kk + 1 - (intOf x).toNat)
      case atStart => exact ⟨0, rfl, by omega, HB10⟩
      case round =>
        clear HB10
        obtain ⟨i, rfl, hi, HBi⟩ := hrel
        by_cases hlt2 : i < kk + 1
        · obtain ⟨q, hq⟩ : ∃ q, q = i % 16 := ⟨_, rfl⟩
          have hq16 : q < 16 := by rw [hq]; exact Nat.mod_lt _ (by decide)
          have h15 : bits .and .i64 (i : Int) 15 = (q : Int) := by rw [and_15, hq]; omega
          have hw97 : IntKind.i64.wrap (97 + (q : Int)) = 97 + (q : Int) := by rw [IntKind.wrap_i64]; omega
          have hw8 : IntKind.u8.wrap (97 + (q : Int)) = 97 + (q : Int) := by rw [IntKind.wrap_u8]; omega
          obtain ⟨X, hX⟩ : ∃ X, X = wr.alloc (.cells #[.int .u8 (97 + (q : Int))] 5) := ⟨_, rfl⟩
          have hcv : (convert 35 9 (.slice (some ⟨wr.heap.size, 0, none⟩) 1 1)).run Try.prog (wr.alloc (.cells #[.int .u8 (97 + (q : Int))] 5)) = .ok (.string (ch i)) (wr.alloc (.cells #[.int .u8 (97 + (q : Int))] 5)) := conv_ch (by rw [← hq]; exact heap_alloc_new wr _)
          have HPr : Hid (Calls Try.prog 7 #[.pointer (some ⟨B, 0, none⟩), .string (ch i)] (wr.alloc (.cells #[.int .u8 (97 + (q : Int))] 5)) fun e w' => e = .returned (.tuple #[.int .i64 ((i : Int) + 2), .int .i64 1, .slice none 0 0, .int .i64 0]) ∧ Bw u w' B 0 (i + 1 + 1) (i + 1 + 2)) := by
            have := HKK.out
            refine (Bw.propose (Bw.below HBi.out (below_alloc _ _)) (by omega) (by omega) (by omega)).mono ?_
            rintro e w' ⟨rfl, hb⟩
            exact ⟨by rw [show (((i + 1 + 1 : Nat) : Int)) = (i : Int) + 2 by omega], hb⟩
          have hw2 : IntKind.i64.wrap ((i : Int) + 2) = (i : Int) + 2 := by have := HKK.out; rw [IntKind.wrap_i64]; omega
          have hil : (i : Int) < ((kk + 1 : Nat) : Int) := by omega
          have hi32 : i < 32 := by have := HKK.out; omega
          generalize ch i = chi at hcv HPr
          clear hX HBi hq hq16
          go_wp2_with fail
          refine Calls.mono HPr.out ?_
          rintro e w5 ⟨rfl, h5⟩
          have HB5 : Hid _ := h5
          clear h5
          go_wp2
          go_roundw
          case rel =>
            (repeat apply Exists.intro)
            refine And.intro ?_ rfl
            exact ⟨i + 1, by go_num, by omega, HB5⟩
          case measure => simp [intOf]; omega
        · obtain rfl : i = kk + 1 := by omega
          obtain ⟨mm, hmm⟩ : ∃ mm, mm = kk + 2 := ⟨_, rfl⟩
          have HMM : Hid (mm = kk + 2) := hmm
          have HB2 : Hid (Bw u wr B 0 mm (kk + 3 + 0)) := by rw [hmm]; exact HBi.out
          have hwl : IntKind.i64.wrap ((kk : Int) + 1 + 1) = (mm : Int) := by have := HKK.out; rw [IntKind.wrap_i64]; omega
          have HCell : Hid (∀ (i : Nat) X, i < 2 → Below u.heap.size u X → ∃ z, X.cell? ⟨ba, i, none⟩ = some (.int .i64 z)) := fun i X hi hX => by
            obtain ⟨_, e2, _, e4, e5⟩ := HU.out
            match i, hi with
            | 0, _ => exact ⟨a1, (hX.cell (p := ⟨ba, 0, none⟩) (by show ba < _; omega)).trans e4⟩
            | 1, _ => exact ⟨c1, (hX.cell (p := ⟨ba, 1, none⟩) (by show ba < _; omega)).trans e5⟩
          have HmA : Hid (0 < mm + 2 ∧ mm + 2 ≤ 1000) := by have := HKK.out; exact ⟨by omega, by omega⟩
          clear HBi hmm hm31
          go_wp2
          go_loopw [15, 16] (fun y x wr => ∃ b i : Nat, x = .int .i64 (i : Int) ∧ i ≤ 2 ∧ y = .int .i64 (b : Int) ∧ Hid (b ≤ mm) ∧ Hid (Bw u wr B b mm (kk + 3 + i))) (fun _ x _ => 2 - (intOf x).toNat)
          case atStart => exact ⟨0, 0, rfl, by omega, rfl, Nat.zero_le _, HB2⟩
          case round =>
            clear HB2
            obtain ⟨b, i, rfl, hi2, rfl, HBm, HBi⟩ := hrel
            by_cases hlt3 : i < 2
            · obtain ⟨z, hz⟩ := HCell.out i wr hlt3 (Bw.old HBi.out)
              have hi0 : (0 : Int) ≤ (i : Int) := by omega
              have hi1 : (i : Int) < 2 := by omega
              have hwm : IntKind.i64.wrap ((mm : Int) + 2) = (mm : Int) + 2 := by have := HmA.out; rw [IntKind.wrap_i64]; omega
              obtain ⟨cq0, hcq0⟩ : ∃ cq0, cq0 = kk + 3 + i := ⟨_, rfl⟩
              have HCq : Hid (cq0 = kk + 3 + i ∧ cq0 ≤ 100) := ⟨hcq0, by have := HKK.out; omega⟩
              rw [← hcq0] at HBi
              clear hcq0
              have HCu : Hid (∀ X, Calls Try.prog 8 #[.int .i64 z, .int .i64 ((mm : Int) + 2)] X fun e w' => ∃ q : Nat, q < mm + 2 ∧ e = .returned (.int .i64 (q : Int)) ∧ w' = X) := fun X => by
                have := cut_c X z (mm + 2) HmA.out.1 HmA.out.2
                rw [show ((mm + 2 : Nat) : Int) = (mm : Int) + 2 by omega] at this
                exact this
              go_wp2_with fail
              refine Calls.mono (HCu.out _) ?_
              rintro e w5 ⟨q, hq, rfl, hw5⟩
              subst hw5
              have HCo : Hid _ := Bw.compact HBi.out q (by have := HCq.out.2; omega)
              clear hz HBi
              go_wp2_with fail
              refine Calls.mono HCo.out ?_
              clear HCo
              rintro e w6 ⟨rfl, h6⟩
              by_cases k1 : q ≤ b
              · rw [if_pos k1]
                have HBq : Hid (Bw u w6 B b mm (cq0 + 1)) := by
                  rw [if_neg (by omega)] at h6
                  exact h6
                obtain ⟨cq, hcq⟩ : ∃ cq, cq = cq0 + 1 := ⟨_, rfl⟩
                rw [← hcq] at HBq
                have k2 : ¬ mm < q := by have := HBm.out; omega
                have HBm2 : Hid (b ≤ mm) := by have := HBm.out; show b ≤ mm; omega
                have HCq2 : Hid (cq = cq0 + 1) := hcq
                clear h6 hcq HBm
                go_wp2_with fail
                by_cases hb0 : b = 0
                · skip
                  refine Calls.mono (Bw.saved HBq.out) ?_
                  rintro e w7 ⟨vv, bt, p, cc, rfl, h7, hs7⟩
                  rw [if_pos hb0]
                  have HB7 : Hid (Bw u w7 B b mm cq) := h7
                  have HS7 : Hid (SvW w7 b mm (.slice p (mm - b) cc)) := hs7
                  have hd0 : decide ((0 : Int) < (b : Int)) = false := decide_eq_false (by omega)
                  have hd1 : ¬ 0 < b := by omega
                  have hwd : IntKind.i64.wrap ((mm : Int) - (b : Int)) = ((mm - b : Nat) : Int) := by have := HBm2.out; have := HmA.out; rw [IntKind.wrap_i64]; omega
                  clear h7 hs7 HBq
                  obtain ⟨Z, hZ⟩ : ∃ Z, Z = w7.alloc (.cells #[.int .i64 1, .int .i64 vv, .int .i64 (b : Int), .int .i64 bt, .string ⟨#[]⟩, .slice p (mm - b) cc] 29) := ⟨_, rfl⟩
                  obtain ⟨bz, hbz⟩ : ∃ bz, bz = w7.heap.size := ⟨_, rfl⟩
                  have hbZ : Below w7.heap.size w7 Z := by rw [hZ]; exact below_alloc _ _
                  have HLZ : Hid (Lw u Z B b mm cq bz (.slice p (mm - b) cc)) := ⟨Bw.below HB7.out hbZ, by rw [hZ, hbz]; simp, by rw [hZ, hbz]; exact World.cell?_alloc_mark w7 _ _ _ 5, SvW.below HS7.out hbZ⟩
                  obtain ⟨r1, r2⟩ := Bw.asks (Bw.below HB7.out hbZ)
                  have HR1 : Hid _ := r1
                  have HR2 : Hid _ := r2
                  have z0 : Z.cell? ⟨bz, 0, none⟩ = some (.int .i64 1) := by rw [hZ, hbz]; exact World.cell?_alloc_mark w7 _ _ _ 0
                  have z4 : Z.cell? ⟨bz, 4, none⟩ = some (.string ⟨#[]⟩) := by rw [hZ, hbz]; exact World.cell?_alloc_mark w7 _ _ _ 4
                  clear r1 r2 hbZ HB7 HS7 hq k1 k2 hb0
                  go_wp2_with fail
                  rw [← hZ]
                  refine Calls.mono HR1.out ?_
                  rintro e w8 ⟨rfl, hw8⟩
                  subst hw8
                  rw [← hbz]
                  clear hZ hbz
                  go_wp2_with fail
                  refine Calls.mono HR2.out ?_
                  rintro e w9 ⟨rfl, hw9⟩
                  subst hw9
                  go_wp2
                  go_loopw [21] (fun x wr => ∃ j : Nat, x = .int .i64 (j : Int) ∧ j ≤ mm - b ∧ Hid (Lw u wr B b mm cq bz (.slice p (mm - b) cc))) (fun x _ => mm - b - (intOf x).toNat)
                  case atStart => exact ⟨0, rfl, Nat.zero_le _, HLZ⟩
                  case round =>
                    clear HLZ z0 z4 HR1 HR2
                    obtain ⟨j, rfl, hj, HLj⟩ := hrel
                    have y5 := HLj.out.c5
                    by_cases hlt4 : j < mm - b
                    · obtain ⟨l, hr, hl2, hl3, hl4⟩ := HLj.out.sv
                      obtain ⟨p', c', hv', hc1', hc2', hr'⟩ := hr
                      injection hv' with e1 e2 e3
                      obtain ⟨x, hx⟩ : ∃ x, l[j]? = some x := ⟨_, List.getElem?_eq_getElem (by omega)⟩
                      obtain ⟨g, off, hp, hgl, _, yd⟩ := hr' j x hx
                      have hlj := hl4 j x hx
                      have hsl : p = some ⟨g, off, none⟩ := by rw [e1]; exact hp
                      have hjn : (j : Int) < ((mm - b : Nat) : Int) := by omega
                      have hj0 : (0 : Int) ≤ (j : Int) := by omega
                      have hcc1 : mm - b ≤ cc := by omega
                      have hcc2 : cc ≤ maxLen := by omega
                      have hwb : IntKind.i64.wrap ((b : Int) + 1) = (b : Int) + 1 := by have := HBm2.out; have := HmA.out; rw [IntKind.wrap_i64]; omega
                      have hwq : IntKind.i64.wrap ((b : Int) + 1 + (j : Int)) = ((b + j : Nat) : Int) + 1 := by have := HBm2.out; have := HmA.out; rw [IntKind.wrap_i64]; omega
                      obtain ⟨sd, hsd⟩ : ∃ sd, sd = x.2 := ⟨_, rfl⟩
                      rw [← hsd] at yd hlj
                      obtain ⟨bj, hbj⟩ : ∃ bj, bj = b + j := ⟨_, rfl⟩
                      have HBj : Hid (bj ≤ 2000) := by have := HBm2.out; have := HmA.out; show bj ≤ 2000; omega
                      rw [← hbj] at hwq hlj
                      have HFs : Hid _ := HLj
                      subst hsl
                      clear hr' e1 e2 e3 hx hl2 hl3 hl4 hp hsd hbj hc1' hc2' HLj
                      unfold maxLen at hcc2
                      rcases hlj with h0 | ⟨h1, h2⟩
                      · subst h0
                        have HLn : Hid (Lw u wr.drew B b mm cq bz (.slice (some ⟨g, off, none⟩) (mm - b) cc)) := Lw.below HFs.out (Below.refl _ _).drew
                        have hjj : j < 1000 := by have := HmA.out; omega
                        go_wp2
                        go_region
                        go_wp2
                        go_roundw
                        case rel => exact ⟨j + 1, by go_num, by omega, HLn⟩
                        case measure => simp [intOf]; omega
                      · obtain ⟨i0, hi0⟩ : ∃ i0, i0 = bj - 1 := ⟨_, rfl⟩
                        obtain ⟨q0, hq0⟩ : ∃ q0, q0 = i0 % 16 := ⟨_, rfl⟩
                        have hjj : j < 1000 := by have := HmA.out; omega
                        have hg1 : (1 : Int) < (bj : Int) + 1 := by omega
                        have hws : IntKind.i64.wrap ((bj : Int) + 1 - 2) = (i0 : Int) := by have := HBj.out; rw [IntKind.wrap_i64]; omega
                        have h15 : bits .and .i64 (i0 : Int) 15 = (q0 : Int) := by rw [and_15, hq0]; omega
                        have hq16 : q0 < 16 := by rw [hq0]; exact Nat.mod_lt _ (by decide)
                        have hw97 : IntKind.i64.wrap (97 + (q0 : Int)) = 97 + (q0 : Int) := by rw [IntKind.wrap_i64]; omega
                        have hw8 : IntKind.u8.wrap (97 + (q0 : Int)) = 97 + (q0 : Int) := by rw [IntKind.wrap_u8]; omega
                        have hcv : (convert 35 9 (.slice (some ⟨wr.heap.size, 0, none⟩) 1 1)).run Try.prog (wr.alloc (.cells #[.int .u8 (97 + (q0 : Int))] 5)).drew = .ok (.string (ch i0)) (wr.alloc (.cells #[.int .u8 (97 + (q0 : Int))] 5)).drew := conv_ch (by rw [← hq0]; exact heap_alloc_new wr _)
                        have HLn : Hid (Lw u (wr.alloc (.cells #[.int .u8 (97 + (q0 : Int))] 5)).drew B b mm cq bz (.slice (some ⟨g, off, none⟩) (mm - b) cc)) := Lw.below HFs.out (below_alloc _ _).drew
                        have hlbz : bz < wr.heap.size := HFs.out.lt
                        rw [← hi0] at h2
                        subst h2
                        generalize ch i0 = chi at *
                        clear hi0 hq0 hq16 h1
                        go_wp2
                        go_region
                        go_wp2
                        go_roundw
                        case rel => exact ⟨j + 1, by go_num, by omega, HLn⟩
                        case measure => simp [intOf]; omega
                    · obtain rfl : j = mm - b := by omega
                      have HBn : Hid (Bw u wr B b mm (kk + 3 + (i + 1))) := by
                        have e1 := HCq.out.1
                        have e2 := HCq2.out
                        rw [show kk + 3 + (i + 1) = cq by omega]
                        exact HLj.out.bw
                      go_wp2
                      go_roundw
                      case rel => first | exact ⟨b, i + 1, by go_num, by omega, rfl, HBm2, HBn⟩ | ((repeat apply Exists.intro); refine And.intro ?_ rfl; exact ⟨b, i + 1, by go_num, by omega, rfl, HBm2, HBn⟩)
                      case measure => simp [intOf]; omega
                · skip
                  refine Calls.mono (Bw.saved HBq.out) ?_
                  rintro e w7 ⟨vv, bt, p, cc, rfl, h7, hs7⟩
                  rw [if_neg hb0]
                  have HB7 : Hid (Bw u w7 B b mm cq) := h7
                  have HS7 : Hid (SvW w7 b mm (.slice p (mm - b) cc)) := hs7
                  have hd0 : decide ((0 : Int) < (b : Int)) = true := decide_eq_true (by omega)
                  have hd1 : 0 < b := by omega
                  have hwd : IntKind.i64.wrap ((mm : Int) - (b : Int)) = ((mm - b : Nat) : Int) := by have := HBm2.out; have := HmA.out; rw [IntKind.wrap_i64]; omega
                  clear h7 hs7 HBq
                  obtain ⟨Z, hZ⟩ : ∃ Z, Z = w7.alloc (.cells #[.int .i64 1, .int .i64 vv, .int .i64 (b : Int), .int .i64 bt, .string ⟨#[100]⟩, .slice p (mm - b) cc] 29) := ⟨_, rfl⟩
                  obtain ⟨bz, hbz⟩ : ∃ bz, bz = w7.heap.size := ⟨_, rfl⟩
                  have hbZ : Below w7.heap.size w7 Z := by rw [hZ]; exact below_alloc _ _
                  have HLZ : Hid (Lw u Z B b mm cq bz (.slice p (mm - b) cc)) := ⟨Bw.below HB7.out hbZ, by rw [hZ, hbz]; simp, by rw [hZ, hbz]; exact World.cell?_alloc_mark w7 _ _ _ 5, SvW.below HS7.out hbZ⟩
                  obtain ⟨r1, r2⟩ := Bw.asks (Bw.below HB7.out hbZ)
                  have HR1 : Hid _ := r1
                  have HR2 : Hid _ := r2
                  have z0 : Z.cell? ⟨bz, 0, none⟩ = some (.int .i64 1) := by rw [hZ, hbz]; exact World.cell?_alloc_mark w7 _ _ _ 0
                  have z4 : Z.cell? ⟨bz, 4, none⟩ = some (.string ⟨#[100]⟩) := by rw [hZ, hbz]; exact World.cell?_alloc_mark w7 _ _ _ 4
                  clear r1 r2 hbZ HB7 HS7 hq k1 k2 hb0
                  go_wp2_with fail
                  rw [← hZ]
                  refine Calls.mono HR1.out ?_
                  rintro e w8 ⟨rfl, hw8⟩
                  subst hw8
                  rw [← hbz]
                  clear hZ hbz
                  go_wp2_with fail
                  refine Calls.mono HR2.out ?_
                  rintro e w9 ⟨rfl, hw9⟩
                  subst hw9
                  go_wp2
                  go_loopw [21] (fun x wr => ∃ j : Nat, x = .int .i64 (j : Int) ∧ j ≤ mm - b ∧ Hid (Lw u wr B b mm cq bz (.slice p (mm - b) cc))) (fun x _ => mm - b - (intOf x).toNat)
                  case atStart => exact ⟨0, rfl, Nat.zero_le _, HLZ⟩
                  case round =>
                    clear HLZ z0 z4 HR1 HR2
                    obtain ⟨j, rfl, hj, HLj⟩ := hrel
                    have y5 := HLj.out.c5
                    by_cases hlt4 : j < mm - b
                    · obtain ⟨l, hr, hl2, hl3, hl4⟩ := HLj.out.sv
                      obtain ⟨p', c', hv', hc1', hc2', hr'⟩ := hr
                      injection hv' with e1 e2 e3
                      obtain ⟨x, hx⟩ : ∃ x, l[j]? = some x := ⟨_, List.getElem?_eq_getElem (by omega)⟩
                      obtain ⟨g, off, hp, hgl, _, yd⟩ := hr' j x hx
                      have hlj := hl4 j x hx
                      have hsl : p = some ⟨g, off, none⟩ := by rw [e1]; exact hp
                      have hjn : (j : Int) < ((mm - b : Nat) : Int) := by omega
                      have hj0 : (0 : Int) ≤ (j : Int) := by omega
                      have hcc1 : mm - b ≤ cc := by omega
                      have hcc2 : cc ≤ maxLen := by omega
                      have hwb : IntKind.i64.wrap ((b : Int) + 1) = (b : Int) + 1 := by have := HBm2.out; have := HmA.out; rw [IntKind.wrap_i64]; omega
                      have hwq : IntKind.i64.wrap ((b : Int) + 1 + (j : Int)) = ((b + j : Nat) : Int) + 1 := by have := HBm2.out; have := HmA.out; rw [IntKind.wrap_i64]; omega
                      obtain ⟨sd, hsd⟩ : ∃ sd, sd = x.2 := ⟨_, rfl⟩
                      rw [← hsd] at yd hlj
                      obtain ⟨bj, hbj⟩ : ∃ bj, bj = b + j := ⟨_, rfl⟩
                      have HBj : Hid (bj ≤ 2000) := by have := HBm2.out; have := HmA.out; show bj ≤ 2000; omega
                      rw [← hbj] at hwq hlj
                      have HFs : Hid _ := HLj
                      subst hsl
                      clear hr' e1 e2 e3 hx hl2 hl3 hl4 hp hsd hbj hc1' hc2' HLj
                      unfold maxLen at hcc2
                      rcases hlj with h0 | ⟨h1, h2⟩
                      · subst h0
                        have HLn : Hid (Lw u wr.drew B b mm cq bz (.slice (some ⟨g, off, none⟩) (mm - b) cc)) := Lw.below HFs.out (Below.refl _ _).drew
                        have hjj : j < 1000 := by have := HmA.out; omega
                        go_wp2
                        go_region
                        go_wp2
                        go_roundw
                        case rel => exact ⟨j + 1, by go_num, by omega, HLn⟩
                        case measure => simp [intOf]; omega
                      · obtain ⟨i0, hi0⟩ : ∃ i0, i0 = bj - 1 := ⟨_, rfl⟩
                        obtain ⟨q0, hq0⟩ : ∃ q0, q0 = i0 % 16 := ⟨_, rfl⟩
                        have hjj : j < 1000 := by have := HmA.out; omega
                        have hg1 : (1 : Int) < (bj : Int) + 1 := by omega
                        have hws : IntKind.i64.wrap ((bj : Int) + 1 - 2) = (i0 : Int) := by have := HBj.out; rw [IntKind.wrap_i64]; omega
                        have h15 : bits .and .i64 (i0 : Int) 15 = (q0 : Int) := by rw [and_15, hq0]; omega
                        have hq16 : q0 < 16 := by rw [hq0]; exact Nat.mod_lt _ (by decide)
                        have hw97 : IntKind.i64.wrap (97 + (q0 : Int)) = 97 + (q0 : Int) := by rw [IntKind.wrap_i64]; omega
                        have hw8 : IntKind.u8.wrap (97 + (q0 : Int)) = 97 + (q0 : Int) := by rw [IntKind.wrap_u8]; omega
                        have hcv : (convert 35 9 (.slice (some ⟨wr.heap.size, 0, none⟩) 1 1)).run Try.prog (wr.alloc (.cells #[.int .u8 (97 + (q0 : Int))] 5)).drew = .ok (.string (ch i0)) (wr.alloc (.cells #[.int .u8 (97 + (q0 : Int))] 5)).drew := conv_ch (by rw [← hq0]; exact heap_alloc_new wr _)
                        have HLn : Hid (Lw u (wr.alloc (.cells #[.int .u8 (97 + (q0 : Int))] 5)).drew B b mm cq bz (.slice (some ⟨g, off, none⟩) (mm - b) cc)) := Lw.below HFs.out (below_alloc _ _).drew
                        have hlbz : bz < wr.heap.size := HFs.out.lt
                        rw [← hi0] at h2
                        subst h2
                        generalize ch i0 = chi at *
                        clear hi0 hq0 hq16 h1
                        go_wp2
                        go_region
                        go_wp2
                        go_roundw
                        case rel => exact ⟨j + 1, by go_num, by omega, HLn⟩
                        case measure => simp [intOf]; omega
                    · obtain rfl : j = mm - b := by omega
                      have HBn : Hid (Bw u wr B b mm (kk + 3 + (i + 1))) := by
                        have e1 := HCq.out.1
                        have e2 := HCq2.out
                        rw [show kk + 3 + (i + 1) = cq by omega]
                        exact HLj.out.bw
                      go_wp2
                      go_roundw
                      case rel => first | exact ⟨b, i + 1, by go_num, by omega, rfl, HBm2, HBn⟩ | ((repeat apply Exists.intro); refine And.intro ?_ rfl; exact ⟨b, i + 1, by go_num, by omega, rfl, HBm2, HBn⟩)
                      case measure => simp [intOf]; omega
              · rw [if_neg k1]
                by_cases k2 : mm < q
                · rw [if_pos k2]
                  have HBq : Hid (Bw u w6 B b mm (cq0 + 1)) := by
                    rw [if_neg (by omega)] at h6
                    exact h6
                  obtain ⟨cq, hcq⟩ : ∃ cq, cq = cq0 + 1 := ⟨_, rfl⟩
                  rw [← hcq] at HBq
                  have HBm2 : Hid (b ≤ mm) := by have := HBm.out; show b ≤ mm; omega
                  have HCq2 : Hid (cq = cq0 + 1) := hcq
                  clear h6 hcq HBm
                  go_wp2_with fail
                  by_cases hb0 : b = 0
                  · skip
                    refine Calls.mono (Bw.saved HBq.out) ?_
                    rintro e w7 ⟨vv, bt, p, cc, rfl, h7, hs7⟩
                    rw [if_pos hb0]
                    have HB7 : Hid (Bw u w7 B b mm cq) := h7
                    have HS7 : Hid (SvW w7 b mm (.slice p (mm - b) cc)) := hs7
                    have hd0 : decide ((0 : Int) < (b : Int)) = false := decide_eq_false (by omega)
                    have hd1 : ¬ 0 < b := by omega
                    have hwd : IntKind.i64.wrap ((mm : Int) - (b : Int)) = ((mm - b : Nat) : Int) := by have := HBm2.out; have := HmA.out; rw [IntKind.wrap_i64]; omega
                    clear h7 hs7 HBq
                    obtain ⟨Z, hZ⟩ : ∃ Z, Z = w7.alloc (.cells #[.int .i64 1, .int .i64 vv, .int .i64 (b : Int), .int .i64 bt, .string ⟨#[]⟩, .slice p (mm - b) cc] 29) := ⟨_, rfl⟩
                    obtain ⟨bz, hbz⟩ : ∃ bz, bz = w7.heap.size := ⟨_, rfl⟩
                    have hbZ : Below w7.heap.size w7 Z := by rw [hZ]; exact below_alloc _ _
                    have HLZ : Hid (Lw u Z B b mm cq bz (.slice p (mm - b) cc)) := ⟨Bw.below HB7.out hbZ, by rw [hZ, hbz]; simp, by rw [hZ, hbz]; exact World.cell?_alloc_mark w7 _ _ _ 5, SvW.below HS7.out hbZ⟩
                    obtain ⟨r1, r2⟩ := Bw.asks (Bw.below HB7.out hbZ)
                    have HR1 : Hid _ := r1
                    have HR2 : Hid _ := r2
                    have z0 : Z.cell? ⟨bz, 0, none⟩ = some (.int .i64 1) := by rw [hZ, hbz]; exact World.cell?_alloc_mark w7 _ _ _ 0
                    have z4 : Z.cell? ⟨bz, 4, none⟩ = some (.string ⟨#[]⟩) := by rw [hZ, hbz]; exact World.cell?_alloc_mark w7 _ _ _ 4
                    clear r1 r2 hbZ HB7 HS7 hq k1 k2 hb0
                    go_wp2_with fail
                    rw [← hZ]
                    refine Calls.mono HR1.out ?_
                    rintro e w8 ⟨rfl, hw8⟩
                    subst hw8
                    rw [← hbz]
                    clear hZ hbz
                    go_wp2_with fail
                    refine Calls.mono HR2.out ?_
                    rintro e w9 ⟨rfl, hw9⟩
                    subst hw9
                    go_wp2
                    go_loopw [21] (fun x wr => ∃ j : Nat, x = .int .i64 (j : Int) ∧ j ≤ mm - b ∧ Hid (Lw u wr B b mm cq bz (.slice p (mm - b) cc))) (fun x _ => mm - b - (intOf x).toNat)
                    case atStart => exact ⟨0, rfl, Nat.zero_le _, HLZ⟩
                    case round =>
                      clear HLZ z0 z4 HR1 HR2
                      obtain ⟨j, rfl, hj, HLj⟩ := hrel
                      have y5 := HLj.out.c5
                      by_cases hlt4 : j < mm - b
                      · obtain ⟨l, hr, hl2, hl3, hl4⟩ := HLj.out.sv
                        obtain ⟨p', c', hv', hc1', hc2', hr'⟩ := hr
                        injection hv' with e1 e2 e3
                        obtain ⟨x, hx⟩ : ∃ x, l[j]? = some x := ⟨_, List.getElem?_eq_getElem (by omega)⟩
                        obtain ⟨g, off, hp, hgl, _, yd⟩ := hr' j x hx
                        have hlj := hl4 j x hx
                        have hsl : p = some ⟨g, off, none⟩ := by rw [e1]; exact hp
                        have hjn : (j : Int) < ((mm - b : Nat) : Int) := by omega
                        have hj0 : (0 : Int) ≤ (j : Int) := by omega
                        have hcc1 : mm - b ≤ cc := by omega
                        have hcc2 : cc ≤ maxLen := by omega
                        have hwb : IntKind.i64.wrap ((b : Int) + 1) = (b : Int) + 1 := by have := HBm2.out; have := HmA.out; rw [IntKind.wrap_i64]; omega
                        have hwq : IntKind.i64.wrap ((b : Int) + 1 + (j : Int)) = ((b + j : Nat) : Int) + 1 := by have := HBm2.out; have := HmA.out; rw [IntKind.wrap_i64]; omega
                        obtain ⟨sd, hsd⟩ : ∃ sd, sd = x.2 := ⟨_, rfl⟩
                        rw [← hsd] at yd hlj
                        obtain ⟨bj, hbj⟩ : ∃ bj, bj = b + j := ⟨_, rfl⟩
                        have HBj : Hid (bj ≤ 2000) := by have := HBm2.out; have := HmA.out; show bj ≤ 2000; omega
                        rw [← hbj] at hwq hlj
                        have HFs : Hid _ := HLj
                        subst hsl
                        clear hr' e1 e2 e3 hx hl2 hl3 hl4 hp hsd hbj hc1' hc2' HLj
                        unfold maxLen at hcc2
                        rcases hlj with h0 | ⟨h1, h2⟩
                        · subst h0
                          have HLn : Hid (Lw u wr.drew B b mm cq bz (.slice (some ⟨g, off, none⟩) (mm - b) cc)) := Lw.below HFs.out (Below.refl _ _).drew
                          have hjj : j < 1000 := by have := HmA.out; omega
                          go_wp2
                          go_region
                          go_wp2
                          go_roundw
                          case rel => exact ⟨j + 1, by go_num, by omega, HLn⟩
                          case measure => simp [intOf]; omega
                        · obtain ⟨i0, hi0⟩ : ∃ i0, i0 = bj - 1 := ⟨_, rfl⟩
                          obtain ⟨q0, hq0⟩ : ∃ q0, q0 = i0 % 16 := ⟨_, rfl⟩
                          have hjj : j < 1000 := by have := HmA.out; omega
                          have hg1 : (1 : Int) < (bj : Int) + 1 := by omega
                          have hws : IntKind.i64.wrap ((bj : Int) + 1 - 2) = (i0 : Int) := by have := HBj.out; rw [IntKind.wrap_i64]; omega
                          have h15 : bits .and .i64 (i0 : Int) 15 = (q0 : Int) := by rw [and_15, hq0]; omega
                          have hq16 : q0 < 16 := by rw [hq0]; exact Nat.mod_lt _ (by decide)
                          have hw97 : IntKind.i64.wrap (97 + (q0 : Int)) = 97 + (q0 : Int) := by rw [IntKind.wrap_i64]; omega
                          have hw8 : IntKind.u8.wrap (97 + (q0 : Int)) = 97 + (q0 : Int) := by rw [IntKind.wrap_u8]; omega
                          have hcv : (convert 35 9 (.slice (some ⟨wr.heap.size, 0, none⟩) 1 1)).run Try.prog (wr.alloc (.cells #[.int .u8 (97 + (q0 : Int))] 5)).drew = .ok (.string (ch i0)) (wr.alloc (.cells #[.int .u8 (97 + (q0 : Int))] 5)).drew := conv_ch (by rw [← hq0]; exact heap_alloc_new wr _)
                          have HLn : Hid (Lw u (wr.alloc (.cells #[.int .u8 (97 + (q0 : Int))] 5)).drew B b mm cq bz (.slice (some ⟨g, off, none⟩) (mm - b) cc)) := Lw.below HFs.out (below_alloc _ _).drew
                          have hlbz : bz < wr.heap.size := HFs.out.lt
                          rw [← hi0] at h2
                          subst h2
                          generalize ch i0 = chi at *
                          clear hi0 hq0 hq16 h1
                          go_wp2
                          go_region
                          go_wp2
                          go_roundw
                          case rel => exact ⟨j + 1, by go_num, by omega, HLn⟩
                          case measure => simp [intOf]; omega
                      · obtain rfl : j = mm - b := by omega
                        have HBn : Hid (Bw u wr B b mm (kk + 3 + (i + 1))) := by
                          have e1 := HCq.out.1
                          have e2 := HCq2.out
                          rw [show kk + 3 + (i + 1) = cq by omega]
                          exact HLj.out.bw
                        go_wp2
                        go_roundw
                        case rel => first | exact ⟨b, i + 1, by go_num, by omega, rfl, HBm2, HBn⟩ | ((repeat apply Exists.intro); refine And.intro ?_ rfl; exact ⟨b, i + 1, by go_num, by omega, rfl, HBm2, HBn⟩)
                        case measure => simp [intOf]; omega
                  · skip
                    refine Calls.mono (Bw.saved HBq.out) ?_
                    rintro e w7 ⟨vv, bt, p, cc, rfl, h7, hs7⟩
                    rw [if_neg hb0]
                    have HB7 : Hid (Bw u w7 B b mm cq) := h7
                    have HS7 : Hid (SvW w7 b mm (.slice p (mm - b) cc)) := hs7
                    have hd0 : decide ((0 : Int) < (b : Int)) = true := decide_eq_true (by omega)
                    have hd1 : 0 < b := by omega
                    have hwd : IntKind.i64.wrap ((mm : Int) - (b : Int)) = ((mm - b : Nat) : Int) := by have := HBm2.out; have := HmA.out; rw [IntKind.wrap_i64]; omega
                    clear h7 hs7 HBq
                    obtain ⟨Z, hZ⟩ : ∃ Z, Z = w7.alloc (.cells #[.int .i64 1, .int .i64 vv, .int .i64 (b : Int), .int .i64 bt, .string ⟨#[100]⟩, .slice p (mm - b) cc] 29) := ⟨_, rfl⟩
                    obtain ⟨bz, hbz⟩ : ∃ bz, bz = w7.heap.size := ⟨_, rfl⟩
                    have hbZ : Below w7.heap.size w7 Z := by rw [hZ]; exact below_alloc _ _
                    have HLZ : Hid (Lw u Z B b mm cq bz (.slice p (mm - b) cc)) := ⟨Bw.below HB7.out hbZ, by rw [hZ, hbz]; simp, by rw [hZ, hbz]; exact World.cell?_alloc_mark w7 _ _ _ 5, SvW.below HS7.out hbZ⟩
                    obtain ⟨r1, r2⟩ := Bw.asks (Bw.below HB7.out hbZ)
                    have HR1 : Hid _ := r1
                    have HR2 : Hid _ := r2
                    have z0 : Z.cell? ⟨bz, 0, none⟩ = some (.int .i64 1) := by rw [hZ, hbz]; exact World.cell?_alloc_mark w7 _ _ _ 0
                    have z4 : Z.cell? ⟨bz, 4, none⟩ = some (.string ⟨#[100]⟩) := by rw [hZ, hbz]; exact World.cell?_alloc_mark w7 _ _ _ 4
                    clear r1 r2 hbZ HB7 HS7 hq k1 k2 hb0
                    go_wp2_with fail
                    rw [← hZ]
                    refine Calls.mono HR1.out ?_
                    rintro e w8 ⟨rfl, hw8⟩
                    subst hw8
                    rw [← hbz]
                    clear hZ hbz
                    go_wp2_with fail
                    refine Calls.mono HR2.out ?_
                    rintro e w9 ⟨rfl, hw9⟩
                    subst hw9
                    go_wp2
                    go_loopw [21] (fun x wr => ∃ j : Nat, x = .int .i64 (j : Int) ∧ j ≤ mm - b ∧ Hid (Lw u wr B b mm cq bz (.slice p (mm - b) cc))) (fun x _ => mm - b - (intOf x).toNat)
                    case atStart => exact ⟨0, rfl, Nat.zero_le _, HLZ⟩
                    case round =>
                      clear HLZ z0 z4 HR1 HR2
                      obtain ⟨j, rfl, hj, HLj⟩ := hrel
                      have y5 := HLj.out.c5
                      by_cases hlt4 : j < mm - b
                      · obtain ⟨l, hr, hl2, hl3, hl4⟩ := HLj.out.sv
                        obtain ⟨p', c', hv', hc1', hc2', hr'⟩ := hr
                        injection hv' with e1 e2 e3
                        obtain ⟨x, hx⟩ : ∃ x, l[j]? = some x := ⟨_, List.getElem?_eq_getElem (by omega)⟩
                        obtain ⟨g, off, hp, hgl, _, yd⟩ := hr' j x hx
                        have hlj := hl4 j x hx
                        have hsl : p = some ⟨g, off, none⟩ := by rw [e1]; exact hp
                        have hjn : (j : Int) < ((mm - b : Nat) : Int) := by omega
                        have hj0 : (0 : Int) ≤ (j : Int) := by omega
                        have hcc1 : mm - b ≤ cc := by omega
                        have hcc2 : cc ≤ maxLen := by omega
                        have hwb : IntKind.i64.wrap ((b : Int) + 1) = (b : Int) + 1 := by have := HBm2.out; have := HmA.out; rw [IntKind.wrap_i64]; omega
                        have hwq : IntKind.i64.wrap ((b : Int) + 1 + (j : Int)) = ((b + j : Nat) : Int) + 1 := by have := HBm2.out; have := HmA.out; rw [IntKind.wrap_i64]; omega
                        obtain ⟨sd, hsd⟩ : ∃ sd, sd = x.2 := ⟨_, rfl⟩
                        rw [← hsd] at yd hlj
                        obtain ⟨bj, hbj⟩ : ∃ bj, bj = b + j := ⟨_, rfl⟩
                        have HBj : Hid (bj ≤ 2000) := by have := HBm2.out; have := HmA.out; show bj ≤ 2000; omega
                        rw [← hbj] at hwq hlj
                        have HFs : Hid _ := HLj
                        subst hsl
                        clear hr' e1 e2 e3 hx hl2 hl3 hl4 hp hsd hbj hc1' hc2' HLj
                        unfold maxLen at hcc2
                        rcases hlj with h0 | ⟨h1, h2⟩
                        · subst h0
                          have HLn : Hid (Lw u wr.drew B b mm cq bz (.slice (some ⟨g, off, none⟩) (mm - b) cc)) := Lw.below HFs.out (Below.refl _ _).drew
                          have hjj : j < 1000 := by have := HmA.out; omega
                          go_wp2
                          go_region
                          go_wp2
                          go_roundw
                          case rel => exact ⟨j + 1, by go_num, by omega, HLn⟩
                          case measure => simp [intOf]; omega
                        · obtain ⟨i0, hi0⟩ : ∃ i0, i0 = bj - 1 := ⟨_, rfl⟩
                          obtain ⟨q0, hq0⟩ : ∃ q0, q0 = i0 % 16 := ⟨_, rfl⟩
                          have hjj : j < 1000 := by have := HmA.out; omega
                          have hg1 : (1 : Int) < (bj : Int) + 1 := by omega
                          have hws : IntKind.i64.wrap ((bj : Int) + 1 - 2) = (i0 : Int) := by have := HBj.out; rw [IntKind.wrap_i64]; omega
                          have h15 : bits .and .i64 (i0 : Int) 15 = (q0 : Int) := by rw [and_15, hq0]; omega
                          have hq16 : q0 < 16 := by rw [hq0]; exact Nat.mod_lt _ (by decide)
                          have hw97 : IntKind.i64.wrap (97 + (q0 : Int)) = 97 + (q0 : Int) := by rw [IntKind.wrap_i64]; omega
                          have hw8 : IntKind.u8.wrap (97 + (q0 : Int)) = 97 + (q0 : Int) := by rw [IntKind.wrap_u8]; omega
                          have hcv : (convert 35 9 (.slice (some ⟨wr.heap.size, 0, none⟩) 1 1)).run Try.prog (wr.alloc (.cells #[.int .u8 (97 + (q0 : Int))] 5)).drew = .ok (.string (ch i0)) (wr.alloc (.cells #[.int .u8 (97 + (q0 : Int))] 5)).drew := conv_ch (by rw [← hq0]; exact heap_alloc_new wr _)
                          have HLn : Hid (Lw u (wr.alloc (.cells #[.int .u8 (97 + (q0 : Int))] 5)).drew B b mm cq bz (.slice (some ⟨g, off, none⟩) (mm - b) cc)) := Lw.below HFs.out (below_alloc _ _).drew
                          have hlbz : bz < wr.heap.size := HFs.out.lt
                          rw [← hi0] at h2
                          subst h2
                          generalize ch i0 = chi at *
                          clear hi0 hq0 hq16 h1
                          go_wp2
                          go_region
                          go_wp2
                          go_roundw
                          case rel => exact ⟨j + 1, by go_num, by omega, HLn⟩
                          case measure => simp [intOf]; omega
                      · obtain rfl : j = mm - b := by omega
                        have HBn : Hid (Bw u wr B b mm (kk + 3 + (i + 1))) := by
                          have e1 := HCq.out.1
                          have e2 := HCq2.out
                          rw [show kk + 3 + (i + 1) = cq by omega]
                          exact HLj.out.bw
                        go_wp2
                        go_roundw
                        case rel => first | exact ⟨b, i + 1, by go_num, by omega, rfl, HBm2, HBn⟩ | ((repeat apply Exists.intro); refine And.intro ?_ rfl; exact ⟨b, i + 1, by go_num, by omega, rfl, HBm2, HBn⟩)
                        case measure => simp [intOf]; omega
                · rw [if_neg k2]
                  have HBq : Hid (Bw u w6 B q mm (cq0 + 1)) := by
                    rw [if_pos ⟨by omega, by omega⟩] at h6
                    exact h6
                  obtain ⟨cq, hcq⟩ : ∃ cq, cq = cq0 + 1 := ⟨_, rfl⟩
                  rw [← hcq] at HBq
                  have HBm2 : Hid (q ≤ mm) := by have := HBm.out; show q ≤ mm; omega
                  have HCq2 : Hid (cq = cq0 + 1) := hcq
                  clear h6 hcq HBm
                  go_wp2_with fail
                  have hb0 : ¬ q = 0 := by omega
                  refine Calls.mono (Bw.saved HBq.out) ?_
                  rintro e w7 ⟨vv, bt, p, cc, rfl, h7, hs7⟩
                  rw [if_neg hb0]
                  have HB7 : Hid (Bw u w7 B q mm cq) := h7
                  have HS7 : Hid (SvW w7 q mm (.slice p (mm - q) cc)) := hs7
                  have hd0 : decide ((0 : Int) < (q : Int)) = true := decide_eq_true (by omega)
                  have hd1 : 0 < q := by omega
                  have hwd : IntKind.i64.wrap ((mm : Int) - (q : Int)) = ((mm - q : Nat) : Int) := by have := HBm2.out; have := HmA.out; rw [IntKind.wrap_i64]; omega
                  clear h7 hs7 HBq
                  obtain ⟨Z, hZ⟩ : ∃ Z, Z = w7.alloc (.cells #[.int .i64 1, .int .i64 vv, .int .i64 (q : Int), .int .i64 bt, .string ⟨#[100]⟩, .slice p (mm - q) cc] 29) := ⟨_, rfl⟩
                  obtain ⟨bz, hbz⟩ : ∃ bz, bz = w7.heap.size := ⟨_, rfl⟩
                  have hbZ : Below w7.heap.size w7 Z := by rw [hZ]; exact below_alloc _ _
                  have HLZ : Hid (Lw u Z B q mm cq bz (.slice p (mm - q) cc)) := ⟨Bw.below HB7.out hbZ, by rw [hZ, hbz]; simp, by rw [hZ, hbz]; exact World.cell?_alloc_mark w7 _ _ _ 5, SvW.below HS7.out hbZ⟩
                  obtain ⟨r1, r2⟩ := Bw.asks (Bw.below HB7.out hbZ)
                  have HR1 : Hid _ := r1
                  have HR2 : Hid _ := r2
                  have z0 : Z.cell? ⟨bz, 0, none⟩ = some (.int .i64 1) := by rw [hZ, hbz]; exact World.cell?_alloc_mark w7 _ _ _ 0
                  have z4 : Z.cell? ⟨bz, 4, none⟩ = some (.string ⟨#[100]⟩) := by rw [hZ, hbz]; exact World.cell?_alloc_mark w7 _ _ _ 4
                  clear r1 r2 hbZ HB7 HS7 hq k1 k2 hb0
                  go_wp2_with fail
                  rw [← hZ]
                  refine Calls.mono HR1.out ?_
                  rintro e w8 ⟨rfl, hw8⟩
                  subst hw8
                  rw [← hbz]
                  clear hZ hbz
                  go_wp2_with fail
                  refine Calls.mono HR2.out ?_
                  rintro e w9 ⟨rfl, hw9⟩
                  subst hw9
                  go_wp2
                  go_loopw [21] (fun x wr => ∃ j : Nat, x = .int .i64 (j : Int) ∧ j ≤ mm - q ∧ Hid (Lw u wr B q mm cq bz (.slice p (mm - q) cc))) (fun x _ => mm - q - (intOf x).toNat)
                  case atStart => exact ⟨0, rfl, Nat.zero_le _, HLZ⟩
                  case round =>
                    clear HLZ z0 z4 HR1 HR2
                    obtain ⟨j, rfl, hj, HLj⟩ := hrel
                    have y5 := HLj.out.c5
                    by_cases hlt4 : j < mm - q
                    · obtain ⟨l, hr, hl2, hl3, hl4⟩ := HLj.out.sv
                      obtain ⟨p', c', hv', hc1', hc2', hr'⟩ := hr
                      injection hv' with e1 e2 e3
                      obtain ⟨x, hx⟩ : ∃ x, l[j]? = some x := ⟨_, List.getElem?_eq_getElem (by omega)⟩
                      obtain ⟨g, off, hp, hgl, _, yd⟩ := hr' j x hx
                      have hlj := hl4 j x hx
                      have hsl : p = some ⟨g, off, none⟩ := by rw [e1]; exact hp
                      have hjn : (j : Int) < ((mm - q : Nat) : Int) := by omega
                      have hj0 : (0 : Int) ≤ (j : Int) := by omega
                      have hcc1 : mm - q ≤ cc := by omega
                      have hcc2 : cc ≤ maxLen := by omega
                      have hwb : IntKind.i64.wrap ((q : Int) + 1) = (q : Int) + 1 := by have := HBm2.out; have := HmA.out; rw [IntKind.wrap_i64]; omega
                      have hwq : IntKind.i64.wrap ((q : Int) + 1 + (j : Int)) = ((q + j : Nat) : Int) + 1 := by have := HBm2.out; have := HmA.out; rw [IntKind.wrap_i64]; omega
                      obtain ⟨sd, hsd⟩ : ∃ sd, sd = x.2 := ⟨_, rfl⟩
                      rw [← hsd] at yd hlj
                      obtain ⟨bj, hbj⟩ : ∃ bj, bj = q + j := ⟨_, rfl⟩
                      have HBj : Hid (bj ≤ 2000) := by have := HBm2.out; have := HmA.out; show bj ≤ 2000; omega
                      rw [← hbj] at hwq hlj
                      have HFs : Hid _ := HLj
                      subst hsl
                      clear hr' e1 e2 e3 hx hl2 hl3 hl4 hp hsd hbj hc1' hc2' HLj
                      unfold maxLen at hcc2
                      rcases hlj with h0 | ⟨h1, h2⟩
                      · subst h0
                        have HLn : Hid (Lw u wr.drew B q mm cq bz (.slice (some ⟨g, off, none⟩) (mm - q) cc)) := Lw.below HFs.out (Below.refl _ _).drew
                        have hjj : j < 1000 := by have := HmA.out; omega
                        go_wp2
                        go_region
                        go_wp2
                        go_roundw
                        case rel => exact ⟨j + 1, by go_num, by omega, HLn⟩
                        case measure => simp [intOf]; omega
                      · obtain ⟨i0, hi0⟩ : ∃ i0, i0 = bj - 1 := ⟨_, rfl⟩
                        obtain ⟨q0, hq0⟩ : ∃ q0, q0 = i0 % 16 := ⟨_, rfl⟩
                        have hjj : j < 1000 := by have := HmA.out; omega
                        have hg1 : (1 : Int) < (bj : Int) + 1 := by omega
                        have hws : IntKind.i64.wrap ((bj : Int) + 1 - 2) = (i0 : Int) := by have := HBj.out; rw [IntKind.wrap_i64]; omega
                        have h15 : bits .and .i64 (i0 : Int) 15 = (q0 : Int) := by rw [and_15, hq0]; omega
                        have hq16 : q0 < 16 := by rw [hq0]; exact Nat.mod_lt _ (by decide)
                        have hw97 : IntKind.i64.wrap (97 + (q0 : Int)) = 97 + (q0 : Int) := by rw [IntKind.wrap_i64]; omega
                        have hw8 : IntKind.u8.wrap (97 + (q0 : Int)) = 97 + (q0 : Int) := by rw [IntKind.wrap_u8]; omega
                        have hcv : (convert 35 9 (.slice (some ⟨wr.heap.size, 0, none⟩) 1 1)).run Try.prog (wr.alloc (.cells #[.int .u8 (97 + (q0 : Int))] 5)).drew = .ok (.string (ch i0)) (wr.alloc (.cells #[.int .u8 (97 + (q0 : Int))] 5)).drew := conv_ch (by rw [← hq0]; exact heap_alloc_new wr _)
                        have HLn : Hid (Lw u (wr.alloc (.cells #[.int .u8 (97 + (q0 : Int))] 5)).drew B q mm cq bz (.slice (some ⟨g, off, none⟩) (mm - q) cc)) := Lw.below HFs.out (below_alloc _ _).drew
                        have hlbz : bz < wr.heap.size := HFs.out.lt
                        rw [← hi0] at h2
                        subst h2
                        generalize ch i0 = chi at *
                        clear hi0 hq0 hq16 h1
                        go_wp2
                        go_region
                        go_wp2
                        go_roundw
                        case rel => exact ⟨j + 1, by go_num, by omega, HLn⟩
                        case measure => simp [intOf]; omega
                    · obtain rfl : j = mm - q := by omega
                      have HBn : Hid (Bw u wr B q mm (kk + 3 + (i + 1))) := by
                        have e1 := HCq.out.1
                        have e2 := HCq2.out
                        rw [show kk + 3 + (i + 1) = cq by omega]
                        exact HLj.out.bw
                      go_wp2
                      go_roundw
                      case rel => first | exact ⟨q, i + 1, by go_num, by omega, rfl, HBm2, HBn⟩ | ((repeat apply Exists.intro); refine And.intro ?_ rfl; exact ⟨q, i + 1, by go_num, by omega, rfl, HBm2, HBn⟩)
                      case measure => simp [intOf]; omega
            · obtain rfl : i = 2 := by omega
              have hold : Below w.heap.size w wr := by
                have h1 := Bw.old HBi.out
                have h2 := HU.out.1
                exact h2.trans (h1.mono h2.size)
              have HOld : Hid _ := hold
              clear hold
              go_wp2_with fail
              refine (HA.out _).mono ?_
              rintro e w3 ⟨rfl, hb3⟩
              have HB3 : Hid _ := hb3
              clear hb3
              go_wp2
              go_ret
              exact ⟨rfl, HOld.out.trans (HB3.out.mono HOld.out.size)⟩

theorem laidOut : laidOutB Try.prog = true := by kernel_rfl

theorem own : ownKnob Try.prog.godebug = none := by kernel_rfl

set_option maxRecDepth 100000 in
theorem lifted (os : Os) (started : os.Started) (H : Type) (enc : TypeId × Value → H) :
    ReturnsInHanded {} Try.checked os 3 .any (Rows.raftBaseSpec.pre6 enc Try.prog Try.f3 Rows.raftBaseRow.domain false) (Rows.raftBaseSpec.post enc Try.prog Try.f3 false true false false) := by
  refine returnsInHanded_of_change_sized (C := Try.checked) own started (by kernel_rfl) Try.func3
    (ChangeSpec.witness6 (enc := enc) (C := Try.checked) false ⟨#[], #[.int .i64 0, .agg #[.int .i64 0, .int .i64 0]], []⟩ 8 (by kernel_rfl) (by kernel_rfl) (by kernel_rfl) (by kernel_rfl)) ?_
  intro W base args ds gs before hval0 hW _ hsz0 _
  have hsz : (DataW.weightsEach Try.prog (Try.f3.params.toList ++ Rows.raftBaseSpec.plain.varTypes Try.prog) (ds ++ gs)).all (· ≤ reachBytes) = true := hsz0
  have hval : ∀ (j : Nat) t v, Try.f3.params[j]? = some t → args[j]? = some v → Value.okWide Try.prog W .any base t v := hval0
  have hW' := hW
  obtain ⟨p, q, hA0, hV, rfl, hfz, hnd⟩ := hW
  have hA : DataW.TrodAll enc Try.prog W 0 (fun _ => true) true Try.f3.params.toList args.toList ds p := hA0
  rw [Try.params3] at hA hval hsz
  obtain ⟨v0, vs0, d0, ds0, p0, q0, hargs, rfl, rfl, h0, r0⟩ := trodAll_cons hA
  obtain ⟨v1, vs1, d1, ds1, p1, q1, rfl, rfl, rfl, h1, r1⟩ := trodAll_cons r0
  obtain ⟨rfl, rfl, rfl⟩ := trodAll_nil r1
  obtain rfl : args = #[v0, v1] := by cases args; simp_all
  obtain ⟨rfl, rfl⟩ := trodVars_none hV
  obtain ⟨a0, rfl, rfl, rfl, w0⟩ := open_int Try.underlying3 (hval 0 3 v0 rfl rfl) h0
  have b0 : -9223372036854775808 ≤ a0 ∧ a0 ≤ 9223372036854775807 := by simpa [Lit.wf, IntKind.min, IntKind.max, IntKind.signed, IntKind.bits] using w0
  have k1 := h1
  have lt1 : ∀ x ∈ p1, x.block < W.heap.size := by obtain ⟨m, hm⟩ := k1; exact DataW.trod_lt m _ _ _ hm
  obtain ⟨a1, c1, rfl, b1⟩ := open_arr2 Try.underlying22 Try.underlying3 (by kernel_rfl) (by kernel_rfl) (hval 1 22 v1 rfl rfl) h1
  clear hA0 hval0 hsz0
  refine (walk a0 a1 c1 W b0 b1).mono fun e W' ⟨he, bel⟩ => ?_
  subst he
  exact ⟨_, rfl, _, _, _, [], _, [], hW', trodAll_mk1 (shut_bool Try.underlying4 _), (trodAll_cons_mk (shut_int Try.underlying3 w0) (trodAll_cons_mk (Below.trod laidOut (by kernel_rfl) (of_decide_eq_true (by kernel_rfl)) k1 bel lt1) trodAll_mk0)), rfl, bel.frame _, fun h => by cases h⟩

theorem over : Rows.raftBaseRow.holds Try.pinned (OpenSpec.ofChange Rows.raftBaseSpec) :=
  OpenClaim.holds_of_wide 3 Try.f3 rfl rfl rfl rfl rfl rfl rfl ⟨rfl, rfl, rfl, rfl, rfl⟩ rfl rfl rfl rfl rfl (by kernel_rfl) Try.func3 (by kernel_rfl)
    (of_decide_eq_true (by kernel_rfl)) (by unfold Func.isWrapper; first | (rw [if_pos (by decide +kernel)]; kernel_rfl) | (rw [if_neg (by decide +kernel)]; exact ⟨rfl, rfl⟩))
    (fun os started H enc _ => lifted os started H enc)


end Go.Proofs.Yteaopnhjndnpnab.raftBase
namespace Go.Proofs.Yteaopnhjndnpnab
/-- The statement. -/
theorem raftBase_holds : Rows.RaftBaseSaid := raftBase.over
end Go.Proofs.Yteaopnhjndnpnab
