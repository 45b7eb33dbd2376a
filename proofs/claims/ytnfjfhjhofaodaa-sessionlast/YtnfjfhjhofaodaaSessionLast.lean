/-
  For all numbers: SessionLast answers true: a session that asks one thing behind the other finds each answer till it asks the next; the arguments read afterwards as before. No condition.
-/
import Derived.Test.YtnfjfhjhofaodaaSeTs
import Derived.Test.YtnfjfhjhofaodaaSeLaw
import Derived.Test.YtnfjfhjhofaodaaDkMask
import Derived.ProofKit
import Derived.OpenShut
import Derived.ShutString
import Derived.SizedLaws
namespace Go.Proofs.Ytnfjfhjhofaodaa.sessionLast
open Go.ChangeShapes Go.WideShapes Go.ChangeAt Go.RowKit
open Go.ChangeMaps (open_string shut_string)

theorem and_15 (x : Int) : bits .and .i64 x 15 = x % 16 := by
  have h1 : (BitVec.ofInt 64 (15 : Int)).toNat = 2 ^ 4 - 1 := by decide
  have h2 : (BitVec.ofInt 64 x).toNat = (x % 18446744073709551616).toNat := by rw [BitVec.toNat_ofInt]; rfl
  show IntKind.i64.wrap ((BitVec.ofInt 64 x &&& BitVec.ofInt 64 15).toNat : Int) = _
  rw [BitVec.toNat_and, h1, h2, Nat.and_two_pow_sub_one_eq_mod, wraps_i64 _ (by omega) (by rw [pow63]; omega)]
  omega

/-- A table, and an id in a box of the caller's. -/
structure Ib (w X : World) (B mb : Nat) (s : Se.St) (bi : Nat) (a b : Int) : Prop where
  ts : Ts w X B mb s
  i0 : X.cell? ⟨bi, 0, none⟩ = some (.int .i64 a)
  i1 : X.cell? ⟨bi, 1, none⟩ = some (.int .i64 b)

theorem Ib.below {w X Y : World} {B mb : Nat} {s : Se.St} {bi : Nat} {a b : Int} (h : Ib w X B mb s bi a b) (hb : Below X.heap.size X Y) : Ib w Y B mb s bi a b :=
  ⟨h.ts.below hb, (hb.cell (p := ⟨bi, 0, none⟩) (World.block_lt_of_cell? _ _ h.i0)).trans h.i0, (hb.cell (p := ⟨bi, 1, none⟩) (World.block_lt_of_cell? _ _ h.i1)).trans h.i1⟩

set_option maxHeartbeats 3200000 in
set_option maxRecDepth 20000 in
theorem walk (a0 a1 : Int) (w : World) (_b0 : -9223372036854775808 ≤ a0 ∧ a0 ≤ 9223372036854775807) (_b1 : -9223372036854775808 ≤ a1 ∧ a1 ≤ 9223372036854775807) :
    Calls Try.prog 5 #[.int .i64 a0, .int .i64 a1] w fun e w' => e = .returned (.bool true) ∧ Below w.heap.size w w' := by
  have HNew : Hid _ := NewT_fresh w (Below.refl _ w)
  obtain ⟨B, hB⟩ : ∃ B, B = w.heap.size + 1 := ⟨_, rfl⟩
  obtain ⟨mb, hmb⟩ : ∃ mb, mb = w.heap.size := ⟨_, rfl⟩
  rw [← hB, ← hmb] at HNew
  have HA : Hid (∀ u : World, Calls Try.prog 12 #[] u fun e w' => e = .returned (.bool true) ∧ Below u.heap.size u w') := awake_c
  have HF0 : Hid (∀ (X : World) (s k i bi : Nat) (a b : Int), a = 7 * (s : Int) → b = (i : Int) + 1 → s < 32 → i < 16 → Ib w X B mb (Se.lastT s k i) bi a b → Calls Try.prog 10 #[.pointer (some ⟨B, 0, none⟩), .agg #[.int .i64 a, .int .i64 b]] X fun e Y => ∃ p cc, e = .returned (.tuple #[.agg #[.int .i64 0, .int .i64 0, .slice p 0 cc], .int .i64 3]) ∧ Ib w Y B mb (Se.lastT s k i) bi a b) := fun X s k i bi a b ha hb hs hi h => by
    subst ha hb
    refine (h.ts.find _ _ (re := Se.zero) (c := 3) (Se.last_find0 hs hi)).mono ?_
    rintro e Y ⟨p, cc, rfl, _, _, h1, _⟩
    exact ⟨p, cc, rfl, h.below h1⟩
  have HP : Hid (∀ (X : World) (s k i bi : Nat) (a b c : Int), a = 7 * (s : Int) → b = (i : Int) + 1 → c = 100 * (s : Int) + ((i : Int) + 1) → s < 32 → i < 16 → Ib w X B mb (Se.lastT s k i) bi a b → Calls Try.prog 11 #[.pointer (some ⟨B, 0, none⟩), .agg #[.int .i64 a, .int .i64 b], .agg #[.int .i64 0, .int .i64 c, .slice none 0 0]] X fun e Y => e = .returned (.int .i64 0) ∧ Ib w Y B mb (Se.lastT s k (i + 1)) bi a b) := fun X s k i bi a b c ha hb hc hs hi h => by
    subst ha hb hc
    refine (h.ts.put0 _ _ 0 _).mono ?_
    rintro e Y ⟨rfl, h1, h2⟩
    rw [(Se.last_put hs hi).2] at h1
    rw [(Se.last_put hs hi).1]
    exact ⟨rfl, h1, h.ts.cell h2 h.i0, h.ts.cell h2 h.i1⟩
  have HP2 : Hid (∀ (X : World) (s k i bi : Nat) (a b : Int), a = 7 * (s : Int) → b = (i : Int) + 1 → s < 32 → i < 16 → Ib w X B mb (Se.lastT s k (i + 1)) bi a b → Calls Try.prog 11 #[.pointer (some ⟨B, 0, none⟩), .agg #[.int .i64 a, .int .i64 b], .agg #[.int .i64 0, .int .i64 0, .slice none 0 0]] X fun e Y => e = .returned (.int .i64 110) ∧ Ib w Y B mb (Se.lastT s k (i + 1)) bi a b) := fun X s k i bi a b ha hb hs hi h => by
    subst ha hb
    refine (h.ts.put0 _ _ 0 _).mono ?_
    rintro e Y ⟨rfl, h1, h2⟩
    rw [(Se.last_again hs hi).2] at h1
    rw [(Se.last_again hs hi).1]
    exact ⟨rfl, h1, h.ts.cell h2 h.i0, h.ts.cell h2 h.i1⟩
  have HF1 : Hid (∀ (X : World) (s k i bi : Nat) (a b c : Int), a = 7 * (s : Int) → b = (i : Int) + 1 → c = 100 * (s : Int) + ((i : Int) + 1) → s < 32 → i < 16 → Ib w X B mb (Se.lastT s k (i + 1)) bi a b → Calls Try.prog 10 #[.pointer (some ⟨B, 0, none⟩), .agg #[.int .i64 a, .int .i64 b]] X fun e Y => ∃ p cc, e = .returned (.tuple #[.agg #[.int .i64 0, .int .i64 c, .slice p 0 cc], .int .i64 0]) ∧ Ib w Y B mb (Se.lastT s k (i + 1)) bi a b) := fun X s k i bi a b c ha hb hc hs hi h => by
    subst ha hb hc
    refine (h.ts.find _ _ (re := ⟨0, 100 * (s : Int) + ((i : Int) + 1), []⟩) (c := 0) (Se.last_find1 hs hi)).mono ?_
    rintro e Y ⟨p, cc, rfl, _, _, h1, _⟩
    exact ⟨p, cc, rfl, h.below h1⟩
  have HF2 : Hid (∀ (X : World) (s k i : Nat) (a b c : Int), a = 7 * (s : Int) → b = (i : Int) → c = (if i = 0 then 1 else 110) → s < 32 → i < 16 → Ts w X B mb (Se.lastT s k (i + 1)) → Calls Try.prog 10 #[.pointer (some ⟨B, 0, none⟩), .agg #[.int .i64 a, .int .i64 b]] X fun e Y => ∃ p cc, e = .returned (.tuple #[.agg #[.int .i64 0, .int .i64 0, .slice p 0 cc], .int .i64 c]) ∧ Ts w Y B mb (Se.lastT s k (i + 1))) := fun X s k i a b c ha hb hc hs hi h => by
    subst ha hb
    refine (h.find _ _ (re := Se.zero) (c := c) (by rw [hc]; exact Se.last_find2 hs hi)).mono ?_
    rintro e Y ⟨p, cc, rfl, _, _, _, h1⟩
    exact ⟨p, cc, rfl, h1⟩
  have HF3 : Hid (∀ (X : World) (n k j : Nat) (a b c : Int), a = 7 * (j : Int) → b = (k : Int) → c = 100 * (j : Int) + (k : Int) → j < n → n ≤ 32 → 1 ≤ k → k ≤ 16 → Ts w X B mb (Se.lastS n k) → Calls Try.prog 10 #[.pointer (some ⟨B, 0, none⟩), .agg #[.int .i64 a, .int .i64 b]] X fun e Y => ∃ p cc, e = .returned (.tuple #[.agg #[.int .i64 0, .int .i64 c, .slice p 0 cc], .int .i64 0]) ∧ Ts w Y B mb (Se.lastS n k)) := fun X n k j a b c ha hb hc h1 h2 h3 h4 h => by
    subst ha hb hc
    refine (h.find _ _ (re := ⟨0, 100 * (j : Int) + (k : Int), []⟩) (c := 0) (Se.last_found h1 h2 h3 h4)).mono ?_
    rintro e Y ⟨p, cc, rfl, _, _, _, h1⟩
    exact ⟨p, cc, rfl, h1⟩
  obtain ⟨m0, hm0⟩ : ∃ m : Nat, m = (a0 % 32).toNat := ⟨_, rfl⟩
  obtain ⟨m1, hm1⟩ : ∃ m : Nat, m = (a1 % 16).toNat := ⟨_, rfl⟩
  have hmask0 : bits .and .i64 a0 31 = (m0 : Int) := by rw [and_31, hm0]; omega
  have hmask1 : bits .and .i64 a1 15 = (m1 : Int) := by rw [and_15, hm1]; omega
  obtain ⟨n, hn⟩ : ∃ n : Nat, n = 1 + m0 := ⟨_, rfl⟩
  obtain ⟨k, hk⟩ : ∃ k : Nat, k = 1 + m1 := ⟨_, rfl⟩
  have hwr0 : IntKind.i64.wrap (1 + (m0 : Int)) = (n : Int) := by rw [hn]; rw [wraps_i64 _ (by omega) (by omega)]; omega
  have hwr1 : IntKind.i64.wrap (1 + (m1 : Int)) = (k : Int) := by rw [hk]; rw [wraps_i64 _ (by omega) (by omega)]; omega
  have HT : Hid (1 ≤ n ∧ n ≤ 32 ∧ 1 ≤ k ∧ k ≤ 16) := by show _ ∧ _; omega
  clear hm0 hm1 hn hk _b0 _b1 hB hmb
  go_enter Try.func5, Try.ntmps5
  go_wp2_with fail
  refine Calls.mono HNew.out ?_
  rintro e w0 ⟨rfl, hM, _⟩
  have H0 : Hid (Ts w w0 B mb (Se.lastS 0 k)) := hM
  clear hM
  go_wp2
  go_loopw [8] (fun iv wr => ∃ s : Nat, iv = .int .i64 (s : Int) ∧ s ≤ n ∧ Hid (Ts w wr B mb (Se.lastS s k))) (fun iv _ => n - (intOf iv).toNat)
  case atStart => exact ⟨0, rfl, Nat.zero_le _, H0⟩
  case round =>
    obtain ⟨s, rfl, hsn, HS⟩ := hrel
    by_cases hlt : s < n
    · have hs32 : (s : Int) < 32 := by have := HT.out; omega
      have hs0 : (0 : Int) ≤ (s : Int) := by omega
      have HSN : Hid (s < n) := hlt
      have HI0 : Hid (Ts w wr B mb (Se.lastT s k 0)) := HS.out
      obtain ⟨a, ha⟩ : ∃ a : Int, a = 7 * (s : Int) := ⟨_, rfl⟩
      have hwa : IntKind.i64.wrap (7 * (s : Int)) = a := by rw [ha]; exact wraps_i64 _ (by omega) (by omega)
      obtain ⟨c1, hc1⟩ : ∃ c : Int, c = 100 * (s : Int) := ⟨_, rfl⟩
      have hwc1 : IntKind.i64.wrap (100 * (s : Int)) = c1 := by rw [hc1]; exact wraps_i64 _ (by omega) (by omega)
      have HE : Hid (a = 7 * (s : Int) ∧ c1 = 100 * (s : Int) ∧ s < 32) := ⟨ha, hc1, by omega⟩
      clear ha hc1
      go_wp2
      go_loopw [9] (fun iv wr => ∃ j : Nat, iv = .int .i64 (j : Int) ∧ 1 ≤ j ∧ j ≤ k + 1 ∧ Hid (Ts w wr B mb (Se.lastT s k (j - 1)))) (fun iv _ => k + 1 - (intOf iv).toNat)
      case atStart => exact ⟨1, rfl, by omega, by omega, HI0⟩
      case round =>
        rename_i wr0 _ _
        obtain ⟨j, rfl, hj1, hjk, HJ⟩ := hrel
        by_cases hlj : j ≤ k
        · obtain ⟨i, hi⟩ : ∃ i, i = j - 1 := ⟨_, rfl⟩
          obtain ⟨c, hc⟩ : ∃ c : Int, c = c1 + (j : Int) := ⟨_, rfl⟩
          have hwc : IntKind.i64.wrap (c1 + (j : Int)) = c := by rw [hc]; have := HE.out; have := HT.out; exact wraps_i64 _ (by omega) (by omega)
          obtain ⟨im, him⟩ : ∃ c : Int, c = (j : Int) - 1 := ⟨_, rfl⟩
          have hwi : IntKind.i64.wrap ((j : Int) - 1) = im := by rw [him]; exact wraps_i64 _ (by omega) (by have := HT.out; omega)
          have HI : Hid ((j : Int) = (i : Int) + 1 ∧ c = 100 * (s : Int) + ((i : Int) + 1) ∧ im = (i : Int) ∧ i < 16 ∧ i + 1 = j) := by have := HE.out; have := HT.out; exact ⟨by omega, by omega, by omega, by omega, by omega⟩
          have hj17 : (j : Int) ≤ 16 := by have := HT.out; omega
          rw [← hi] at HJ
          obtain ⟨w1, hw1⟩ : ∃ w1, w1 = wr.alloc (.cells #[.int .i64 a, .int .i64 (j : Int)] 27) := ⟨_, rfl⟩
          obtain ⟨bi, hbi⟩ : ∃ bi, bi = wr.heap.size := ⟨_, rfl⟩
          have hcb : ∀ q, w1.cell? ⟨bi, q, none⟩ = (#[.int .i64 a, .int .i64 (j : Int)] : Array Value)[q]? := fun q => by rw [hw1, hbi]; exact World.cell?_alloc_mark wr _ _ _ q
          have hib : Ib w w1 B mb (Se.lastT s k i) bi a (j : Int) := ⟨by rw [hw1]; exact HJ.out.below (below_alloc _ _), hcb 0, hcb 1⟩
          have HIB : Hid (Ib w w1 B mb (Se.lastT s k i) bi a (j : Int)) := hib
          clear hcb hib hi hc him
          go_wp2_with fail
          rw [← hw1, ← hbi]
          clear hw1 hbi
          refine (HF0.out _ s k i bi a _ HE.out.1 HI.out.1 HE.out.2.2 HI.out.2.2.2.1 HIB.out).mono ?_
          rintro e w2 ⟨p2, cc2, rfl, h2⟩
          obtain ⟨w3, hw3⟩ : ∃ w3, w3 = w2.alloc (.cells #[.int .i64 0, .int .i64 0, .slice p2 0 cc2] 31) := ⟨_, rfl⟩
          have h3 : Ib w w3 B mb (Se.lastT s k i) bi a (j : Int) := by rw [hw3]; exact h2.below (below_alloc _ _)
          have H3 : Hid (Ib w w3 B mb (Se.lastT s k i) bi a (j : Int)) := h3
          have i0 := h3.i0
          have i1 := h3.i1
          rw [hw3] at i0 i1
          clear h2 h3
          go_wp2_with fail
          rw [← hw3]
          clear hw3 i0 i1
          refine (HP.out _ s k i bi a _ c HE.out.1 HI.out.1 HI.out.2.1 HE.out.2.2 HI.out.2.2.2.1 H3.out).mono ?_
          rintro e w4 ⟨rfl, h4⟩
          have H4 : Hid (Ib w w4 B mb (Se.lastT s k (i + 1)) bi a (j : Int)) := h4
          have i0 := h4.i0
          have i1 := h4.i1
          clear h4
          go_wp2_with fail
          refine (HP2.out _ s k i bi a _ HE.out.1 HI.out.1 HE.out.2.2 HI.out.2.2.2.1 H4.out).mono ?_
          clear i0 i1
          rintro e w5 ⟨rfl, h5⟩
          have H5 : Hid (Ib w w5 B mb (Se.lastT s k (i + 1)) bi a (j : Int)) := h5
          have i0 := h5.i0
          have i1 := h5.i1
          clear h5
          go_wp2_with fail
          refine (HF1.out _ s k i bi a _ c HE.out.1 HI.out.1 HI.out.2.1 HE.out.2.2 HI.out.2.2.2.1 H5.out).mono ?_
          clear i0 i1
          rintro e w6 ⟨p6, cc6, rfl, h6⟩
          obtain ⟨w7, hw7⟩ : ∃ w7, w7 = w6.alloc (.cells #[.int .i64 0, .int .i64 c, .slice p6 0 cc6] 31) := ⟨_, rfl⟩
          have H7 : Hid (Ts w w7 B mb (Se.lastT s k (i + 1))) := by rw [hw7]; exact h6.ts.below (below_alloc _ _)
          clear h6
          go_wp2_with fail
          rw [← hw7]
          clear hw7
          obtain ⟨g, hg⟩ : ∃ g : Int, g = (if i = 0 then 1 else 110) := ⟨_, rfl⟩
          refine (HF2.out _ s k i a _ g HE.out.1 HI.out.2.2.1 hg HE.out.2.2 HI.out.2.2.2.1 H7.out).mono ?_
          rintro e w8 ⟨p8, cc8, rfl, h8⟩
          have H9 : Hid (∀ o, Ts w (w8.alloc o) B mb (Se.lastT s k (j + 1 - 1))) := fun o => by
            have e : j + 1 - 1 = i + 1 := by have := HI.out.2.2.2.2; omega
            rw [e]
            exact h8.below (below_alloc _ _)
          clear h8
          by_cases hj2 : j = 1
          · subst hj2
            clear hg
            go_wp2
            go_roundw
            case rel => exact ⟨1 + 1, by go_num, by omega, by omega, H9.out _⟩
            case measure => simp [intOf]; omega
          · have hjg : decide ((j : Int) > 1) = true := by simp; omega
            have hg1 : g = 110 := by rw [hg, if_neg (by have := HI.out.2.2.2.2; omega)]
            subst hg1
            clear hg
            go_wp2
            go_roundw
            case rel => exact ⟨j + 1, by go_num, by omega, by omega, H9.out _⟩
            case measure => simp [intOf]; omega
        · obtain rfl : j = k + 1 := by omega
          have HN : Hid (Ts w wr B mb (Se.lastS (s + 1) k)) := by
            have := HJ.out
            rw [Nat.add_sub_cancel, Se.lastS_succ s k (by have := HT.out; omega)] at this
            exact this
          go_wp2
          go_roundw
          case rel => exact ⟨s + 1, by go_num, by have := HSN.out; omega, HN⟩
          case measure => simp [intOf]; have := HSN.out; omega
    · obtain rfl : s = n := by omega
      go_wp2
      go_loopw [17] (fun iv wr => ∃ j : Nat, iv = .int .i64 (j : Int) ∧ j ≤ s ∧ Hid (Ts w wr B mb (Se.lastS s k))) (fun iv _ => s - (intOf iv).toNat)
      case atStart => exact ⟨0, rfl, Nat.zero_le _, HS⟩
      case round =>
        obtain ⟨j, rfl, hjs, HJ⟩ := hrel
        by_cases hlj : j < s
        · obtain ⟨a, ha⟩ : ∃ a : Int, a = 7 * (j : Int) := ⟨_, rfl⟩
          have hj32 : j < 32 := by have := HT.out; omega
          have hwa : IntKind.i64.wrap (7 * (j : Int)) = a := by rw [ha]; exact wraps_i64 _ (by omega) (by omega)
          obtain ⟨c1, hc1⟩ : ∃ c : Int, c = 100 * (j : Int) := ⟨_, rfl⟩
          have hwc1 : IntKind.i64.wrap (100 * (j : Int)) = c1 := by rw [hc1]; exact wraps_i64 _ (by omega) (by omega)
          obtain ⟨c, hc⟩ : ∃ c : Int, c = c1 + (k : Int) := ⟨_, rfl⟩
          have hwc : IntKind.i64.wrap (c1 + (k : Int)) = c := by rw [hc]; have := HT.out; exact wraps_i64 _ (by omega) (by omega)
          have HE : Hid (a = 7 * (j : Int) ∧ c = 100 * (j : Int) + (k : Int) ∧ j < s) := ⟨ha, by omega, hlj⟩
          clear ha hc1 hc
          go_wp2_with fail
          refine (HF3.out _ s k j a _ c HE.out.1 rfl HE.out.2.1 HE.out.2.2 HT.out.2.1 HT.out.2.2.1 HT.out.2.2.2 HJ.out).mono ?_
          rintro e w8 ⟨p8, cc8, rfl, h8⟩
          have H9 : Hid (∀ o, Ts w (w8.alloc o) B mb (Se.lastS s k)) := fun o => h8.below (below_alloc _ _)
          clear h8
          go_wp2
          go_roundw
          case rel => exact ⟨j + 1, by go_num, by omega, H9.out _⟩
          case measure => simp [intOf]; omega
        · have HL : Hid _ := HJ.out.lenC
          rw [Se.lastS_len] at HL
          go_wp2_with fail
          refine Calls.mono HL.out ?_
          rintro e w5 ⟨rfl, hw⟩
          subst hw
          go_wp2_with fail
          refine (HA.out _).mono ?_
          rintro e w6 ⟨rfl, hb6⟩
          have HB6 : Hid _ := hb6
          clear hb6
          go_wp2
          go_ret
          exact ⟨rfl, HJ.out.old.trans (HB6.out.mono HJ.out.old.size)⟩

theorem own : ownKnob Try.prog.godebug = none := by kernel_rfl

set_option maxRecDepth 100000 in
theorem lifted (os : Os) (started : os.Started) (H : Type) (enc : TypeId × Value → H) :
    ReturnsInHanded {} Try.checked os 5 .any (Rows.sessionLastSpec.pre6 enc Try.prog Try.f5 Rows.sessionLastRow.domain false) (Rows.sessionLastSpec.post enc Try.prog Try.f5 false true false false) := by
  refine returnsInHanded_of_change_sized (C := Try.checked) own started (by kernel_rfl) Try.func5
    (ChangeSpec.witness6 (enc := enc) (C := Try.checked) false ⟨#[], #[.int .i64 0, .int .i64 0], []⟩ 8 (by kernel_rfl) (by kernel_rfl) (by kernel_rfl) (by kernel_rfl)) ?_
  intro W base args ds gs before hval0 hW _ hsz0 _
  have hsz : (DataW.weightsEach Try.prog (Try.f5.params.toList ++ Rows.sessionLastSpec.plain.varTypes Try.prog) (ds ++ gs)).all (· ≤ reachBytes) = true := hsz0
  have hval : ∀ (j : Nat) t v, Try.f5.params[j]? = some t → args[j]? = some v → Value.okWide Try.prog W .any base t v := hval0
  have hW' := hW
  obtain ⟨p, q, hA0, hV, rfl, hfz, hnd⟩ := hW
  have hA : DataW.TrodAll enc Try.prog W 0 (fun _ => true) true Try.f5.params.toList args.toList ds p := hA0
  rw [Try.params5] at hA hval hsz
  obtain ⟨v0, vs0, d0, ds0, p0, q0, hargs, rfl, rfl, h0, r0⟩ := trodAll_cons hA
  obtain ⟨v1, vs1, d1, ds1, p1, q1, rfl, rfl, rfl, h1, r1⟩ := trodAll_cons r0
  obtain ⟨rfl, rfl, rfl⟩ := trodAll_nil r1
  obtain rfl : args = #[v0, v1] := by cases args; simp_all
  obtain ⟨rfl, rfl⟩ := trodVars_none hV
  obtain ⟨a0, rfl, rfl, rfl, w0⟩ := open_int Try.underlying3 (hval 0 3 v0 rfl rfl) h0
  have b0 : -9223372036854775808 ≤ a0 ∧ a0 ≤ 9223372036854775807 := by simpa [Lit.wf, IntKind.min, IntKind.max, IntKind.signed, IntKind.bits] using w0
  obtain ⟨a1, rfl, rfl, rfl, w1⟩ := open_int Try.underlying3 (hval 1 3 v1 rfl rfl) h1
  have b1 : -9223372036854775808 ≤ a1 ∧ a1 ≤ 9223372036854775807 := by simpa [Lit.wf, IntKind.min, IntKind.max, IntKind.signed, IntKind.bits] using w1
  clear hA0 hval0 hsz0
  refine (walk a0 a1 W b0 b1).mono fun e W' ⟨he, bel⟩ => ?_
  subst he
  exact ⟨_, rfl, _, _, _, [], _, [], hW', trodAll_mk1 (shut_bool Try.underlying4 _), (trodAll_cons_mk (shut_int Try.underlying3 w0) (trodAll_cons_mk (shut_int Try.underlying3 w1) trodAll_mk0)), rfl, bel.frame _, fun h => by cases h⟩

theorem over : Rows.sessionLastRow.holds Try.pinned (OpenSpec.ofChange Rows.sessionLastSpec) :=
  OpenClaim.holds_of_wide 5 Try.f5 rfl rfl rfl rfl rfl rfl rfl ⟨rfl, rfl, rfl, rfl, rfl⟩ rfl rfl rfl rfl rfl (by kernel_rfl) Try.func5 (by kernel_rfl)
    (of_decide_eq_true (by kernel_rfl)) (by unfold Func.isWrapper; first | (rw [if_pos (by decide +kernel)]; kernel_rfl) | (rw [if_neg (by decide +kernel)]; exact ⟨rfl, rfl⟩))
    (fun os started H enc _ => lifted os started H enc)


end Go.Proofs.Ytnfjfhjhofaodaa.sessionLast
namespace Go.Proofs.Ytnfjfhjhofaodaa
/-- The statement. -/
theorem sessionLast_holds : Rows.SessionLastSaid := sessionLast.over
end Go.Proofs.Ytnfjfhjhofaodaa
