/-
  For every number: MetaFull answers true: there are so many that wait, and sessions, and no more; the argument reads afterwards as before. No condition.
-/
import Derived.Test.YtepbmfjimppgcaaMeAwake
import Derived.Test.YtepbmfjimppgcaaMeBegR
import Derived.Test.YtepbmfjimppgcaaDkMask
import Derived.ProofKit
import Derived.OpenShut
import Derived.ShutString
import Derived.SizedLaws
namespace Go.Proofs.Ytepbmfjimppgcaa.metaFull
open Go.ChangeShapes Go.WideShapes Go.ChangeAt Go.RowKit
open Go.ChangeMaps (open_string shut_string)

def wl (k : Nat) : List Me.Tx := (List.range k).map fun (j : Nat) => Me.fresh (j : Int) 3 (offOp annB)
def qw (k : Nat) : Me.St := ⟨1, Sl.new 1, [], 0, wl k, Me.noPl⟩
theorem wl_len (k : Nat) : (wl k).length = k := by simp [wl]
theorem wl_at {k i : Nat} {x : Me.Tx} (h : (wl k)[i]? = some x) : x = Me.fresh (i : Int) 3 (offOp annB) ∧ i < k := by
  obtain ⟨hl, he⟩ := List.getElem?_eq_some_iff.1 h
  rw [wl_len] at hl
  refine ⟨?_, hl⟩
  rw [← he]
  simp [wl]
theorem wl_succ (k : Nat) : wl (k + 1) = wl k ++ [Me.fresh (k : Int) 3 (offOp annB)] := by simp [wl, List.range_succ]
theorem count_nil : ∀ l : List Me.Tx, Me.count [] l = l.length
  | [] => rfl
  | t :: r => by
    rw [Me.count, count_nil r, List.length_cons]
    have e : (if Se.get [] t.a = none then 1 else 0) = 1 := if_pos rfl
    omega
theorem may_k (a b : Int) (h : 0 ≤ a ∧ a ≤ 1000) (h2 : 1 ≤ b ∧ b ≤ 1000) : Se.may a b = true := by
  unfold Se.may
  simp
  omega
theorem find_nil {a b : Int} (h : Se.may a b = true) : (Se.find [] a b).2 = 3 := by
  unfold Se.find
  rw [if_neg (by rw [h]; simp)]
  rfl
theorem refuses_new (m k : Nat) (hm : m ≤ k) : Me.refuses (qw m) (k : Int) 3 = if 64 ≤ m then 2 else 0 := by
  unfold Me.refuses
  have e : Me.same (k : Int) (qw m).wait = none := same_none fun i x hx => by
    obtain ⟨h1, h2⟩ := wl_at hx
    rw [h1]
    show (i : Int) ≠ (k : Int)
    omega
  rw [e]
  show (if 64 ≤ 0 + Me.count [] (wl m) then (2 : Int) else 0) = _
  rw [count_nil, wl_len, Nat.zero_add]
theorem refuses_old (m : Nat) (hm : 0 < m) (b : Int) : Me.refuses (qw m) 0 b = if 3 > b then 110 else 120 := by
  unfold Me.refuses
  have e : Me.same 0 (qw m).wait = some (Me.fresh 0 3 (offOp annB)) := by
    refine same_at (k := 0) (t := Me.fresh 0 3 (offOp annB)) ?_ rfl (fun i x hi => by omega)
    show (wl m)[0]? = _
    obtain ⟨x, hx⟩ : ∃ x, (wl m)[0]? = some x := ⟨_, List.getElem?_eq_getElem (by rw [wl_len]; exact hm)⟩
    rw [hx, (wl_at hx).1]
    rfl
  rw [e]
  rfl
def bobB : ByteArray := ⟨#[98, 111, 98]⟩
theorem bob_ok : OpOk (offOp bobB) := by
  refine ⟨?_, ?_, ?_, ?_, ?_, ?_⟩ <;> (show _ ≤ maxLen; unfold maxLen; decide)
theorem bob_size : ∀ x : ByteArray, x = (offOp bobB).space ∨ x = (offOp bobB).channel ∨ x = (offOp bobB).user ∨ x = (offOp bobB).toSpace ∨ x = (offOp bobB).to → x.size ≤ 140737488351232 := by
  intro x hx
  rcases hx with rfl | rfl | rfl | rfl | rfl <;> decide
theorem ann_may : Mo.may (offOp annB) = true ∧ Me.many (offOp annB) = true := ⟨by kernel_rfl, by kernel_rfl⟩
theorem bob_may : Mo.may (offOp bobB) = true ∧ Me.many (offOp bobB) = true := ⟨by kernel_rfl, by kernel_rfl⟩
section
variable {X : World} {B n k : Nat} {who : Nat → Nat}
theorem ap_yes (h : Mt X B (qw k) who n) (hn : n ≤ 1000000) (hk : k < 64) : Calls Try.prog 8 #[.pointer (some ⟨B, 0, none⟩), .agg (cmdL (begCd (k : Int) 3 (offOp annB))).toArray] X (AnsT who X B (qw (k + 1)) (n + 1) 120 ((0 + (wl k).length + 1 : Nat) : Int)) := by
  have hb : Me.begins (qw k) (k : Int) 3 (offOp annB) := ⟨ann_may.1, ann_may.2, find_nil (may_k _ _ (by omega) (by omega)), by rw [refuses_new k k (Nat.le_refl _), if_neg (by omega)]⟩
  have e : qw (k + 1) = Me.begin (qw k) (k : Int) 3 (offOp annB) := by unfold qw Me.begin; rw [wl_succ]
  rw [e]
  exact Apply_begin h (begCd (k : Int) 3 (offOp annB)) rfl fun Y hY => beginQ_yes hY hn _ ann_ok ann_size hb
theorem ap_full (h : Mt X B (qw 64) who n) (hn : n ≤ 1000000) (hk : 64 ≤ k) (hk2 : k ≤ 1000) : Calls Try.prog 8 #[.pointer (some ⟨B, 0, none⟩), .agg (cmdL (begCd (k : Int) 3 (offOp annB))).toArray] X (AnsT who X B (qw 64) (n + 1) 2 0) :=
  Apply_begin h (begCd (k : Int) 3 (offOp annB)) rfl fun Y hY => beginQ_ref hY hn _ ann_ok ann_size 2 ⟨ann_may, find_nil (may_k (k : Int) 3 (by omega) (by omega)), by show Me.refuses (qw 64) (k : Int) 3 = 2; rw [refuses_new 64 k hk]; rfl⟩ (by decide)
theorem ap_busy (h : Mt X B (qw k) who n) (hn : n ≤ 1000000) (hk : 0 < k) : Calls Try.prog 8 #[.pointer (some ⟨B, 0, none⟩), .agg (cmdL (begCd 0 4 (offOp bobB))).toArray] X (AnsT who X B (qw k) (n + 1) 120 0) :=
  Apply_begin h (begCd 0 4 (offOp bobB)) rfl fun Y hY => beginQ_ref hY hn _ bob_ok bob_size 120 ⟨bob_may, find_nil (may_k 0 4 (by decide) (by decide)), refuses_old k hk 4⟩ (by decide)
theorem ap_old (h : Mt X B (qw k) who n) (hn : n ≤ 1000000) (hk : 0 < k) : Calls Try.prog 8 #[.pointer (some ⟨B, 0, none⟩), .agg (cmdL (begCd 0 2 (offOp bobB))).toArray] X (AnsT who X B (qw k) (n + 1) 110 0) :=
  Apply_begin h (begCd 0 2 (offOp bobB)) rfl fun Y hY => beginQ_ref hY hn _ bob_ok bob_size 110 ⟨bob_may, find_nil (may_k 0 2 (by decide) (by decide)), refuses_old k hk 2⟩ (by decide)
end
/-- The law's state. -/
def Lf (w : World) (B k : Nat) (X : World) : Prop := ∃ who, Mt X B (qw (min k 64)) who k ∧ (∀ j, j < w.heap.size → who j = 0) ∧ Below w.heap.size w X

set_option maxHeartbeats 12800000 in
set_option maxRecDepth 40000 in
theorem walk (a0 : Int) (w : World) (_b0 : -9223372036854775808 ≤ a0 ∧ a0 ≤ 9223372036854775807) :
    Calls Try.prog 4 #[.int .i64 a0] w fun e w' => e = .returned (.bool true) ∧ Below w.heap.size w w' := by
  have HA : Hid (∀ u : World, Calls Try.prog 10 #[] u fun e w' => e = .returned (.bool true) ∧ Below u.heap.size u w') := awakeQ_c
  obtain ⟨n0, hn0, hn1, hn2⟩ : ∃ n0 : Nat, 60 + a0 % 8 = (n0 : Int) ∧ 60 ≤ n0 ∧ n0 ≤ 67 := ⟨(60 + a0 % 8).toNat, by omega, by omega, by omega⟩
  have hand : bits BinOp.and IntKind.i64 a0 7 = (n0 : Int) - 60 := by rw [and_7]; omega
  have hnw : (60 : Int) + ((n0 : Int) - 60) = (n0 : Int) := by omega
  have HN : Hid (Calls Try.prog 6 #[.int .i64 1] w fun e w' => ∃ B who, e = .returned (.tuple #[.pointer (some ⟨B, 0, none⟩), .int .i64 0]) ∧ Mt w' B (qw 0) who 0 ∧ (∀ i, who i ≠ 0 → w.heap.size ≤ i) ∧ Below w.heap.size w w') := NewQ_c w 1 (by decide)
  have HOf : Hid (∀ X, Calls Try.prog 12 #[.string ⟨#[97, 110, 110]⟩] X fun e w' => e = .returned (.agg #[.int .i64 7, .string ⟨#[]⟩, .string ⟨#[]⟩, .string ⟨#[97, 110, 110]⟩, .string ⟨#[]⟩, .string ⟨#[]⟩, .string ⟨#[]⟩, .int .i64 0, .int .i64 0]) ∧ Below X.heap.size X w') := fun X => off_c _ X
  have HOb : Hid (∀ X, Calls Try.prog 12 #[.string ⟨#[98, 111, 98]⟩] X fun e w' => e = .returned (.agg #[.int .i64 7, .string ⟨#[]⟩, .string ⟨#[]⟩, .string ⟨#[98, 111, 98]⟩, .string ⟨#[]⟩, .string ⟨#[]⟩, .string ⟨#[]⟩, .int .i64 0, .int .i64 0]) ∧ Below X.heap.size X w') := fun X => off_c _ X
  have HBg : Hid (∀ X (k : Nat), Calls Try.prog 11 #[.int .i64 (k : Int), .int .i64 3, .agg #[.int .i64 7, .string ⟨#[]⟩, .string ⟨#[]⟩, .string ⟨#[97, 110, 110]⟩, .string ⟨#[]⟩, .string ⟨#[]⟩, .string ⟨#[]⟩, .int .i64 0, .int .i64 0]] X fun e w' => e = .returned (.agg (cmdL (begCd (k : Int) 3 (offOp annB))).toArray) ∧ Below X.heap.size X w') := fun X k => begin_c (k : Int) 3 7 0 0 _ _ _ _ _ _ X
  have HB4 : Hid (∀ X, Calls Try.prog 11 #[.int .i64 0, .int .i64 4, .agg #[.int .i64 7, .string ⟨#[]⟩, .string ⟨#[]⟩, .string ⟨#[98, 111, 98]⟩, .string ⟨#[]⟩, .string ⟨#[]⟩, .string ⟨#[]⟩, .int .i64 0, .int .i64 0]] X fun e w' => e = .returned (.agg (cmdL (begCd 0 4 (offOp bobB))).toArray) ∧ Below X.heap.size X w') := fun X => begin_c 0 4 7 0 0 _ _ _ _ _ _ X
  have HB2 : Hid (∀ X, Calls Try.prog 11 #[.int .i64 0, .int .i64 2, .agg #[.int .i64 7, .string ⟨#[]⟩, .string ⟨#[]⟩, .string ⟨#[98, 111, 98]⟩, .string ⟨#[]⟩, .string ⟨#[]⟩, .string ⟨#[]⟩, .int .i64 0, .int .i64 0]] X fun e w' => e = .returned (.agg (cmdL (begCd 0 2 (offOp bobB))).toArray) ∧ Below X.heap.size X w') := fun X => begin_c 0 2 7 0 0 _ _ _ _ _ _ X
  clear _b0 hn0
  go_enter Try.func4, Try.ntmps4
  go_wp2_with fail
  refine Calls.mono HN.out ?_
  rintro e w1 ⟨B, who, rfl, hm, hlo, hb⟩
  have HS : Hid (Lf w B 0 w1) := ⟨who, hm, fun k hk => Classical.byContradiction fun h => by have := hlo k h; omega, hb⟩
  clear hm hlo hb HN
  go_wp2
  go_loopw [5] (fun x wr => ∃ k : Nat, x = .int .i64 (k : Int) ∧ k ≤ n0 ∧ Hid (Lf w B k wr)) (fun x _ => 67 - (intOf x).toNat)
  case atStart => exact ⟨0, rfl, Nat.zero_le _, HS⟩
  case round =>
    clear HS
    obtain ⟨k, rfl, hk1, HL⟩ := hrel
    have hk0 : (0 : Int) ≤ (k : Int) := Int.natCast_nonneg k
    by_cases hin : k < n0
    · obtain ⟨who, hm, hz, hb⟩ := HL.out
      have hin2 : (k : Int) < (n0 : Int) := by omega
      have HM1 : Hid (Mt wr B (qw (min k 64)) who k) := hm
      have HZ : Hid (∀ j, j < w.heap.size → who j = 0) := hz
      have HBw : Hid (Below w.heap.size w wr) := hb
      have HAp : Hid (∀ X, Below wr.heap.size wr X → Calls Try.prog 8 #[.pointer (some ⟨B, 0, none⟩), .agg (cmdL (begCd (k : Int) 3 (offOp annB))).toArray] X fun e w' => ∃ a0, e = .returned (.agg #[.int .i64 (if k < 64 then 120 else 2), .int .i64 a0, .slice none 0 0]) ∧ Lf w B (k + 1) w') := fun X hX => by
        have hMX : Mt X B (qw (min k 64)) who k := Mt.below HM1.out hX
        have hbX : Below w.heap.size w X := HBw.out.trans (hX.mono HBw.out.size)
        by_cases h64 : k < 64
        · rw [if_pos h64]
          rw [Nat.min_eq_left (by omega)] at hMX
          refine (ap_yes hMX (by omega) h64).mono ?_
          rintro e w' ⟨who', rfl, ha⟩
          exact ⟨_, rfl, who', by rw [Nat.min_eq_left (by omega)]; exact ha.1, fun j hj => ha.2.1 j (Nat.lt_of_lt_of_le hj hbX.size) (HZ.out j hj), ha.2.2.below hbX HZ.out⟩
        · rw [if_neg h64]
          rw [Nat.min_eq_right (by omega)] at hMX
          refine (ap_full hMX (by omega) (by omega) (by omega)).mono ?_
          rintro e w' ⟨who', rfl, ha⟩
          exact ⟨_, rfl, who', by rw [Nat.min_eq_right (by omega)]; exact ha.1, fun j hj => ha.2.1 j (Nat.lt_of_lt_of_le hj hbX.size) (HZ.out j hj), ha.2.2.below hbX HZ.out⟩
      clear hm hz hb
      have HBk : Hid (∀ X, Calls Try.prog 11 #[.int .i64 (k : Int), .int .i64 3, .agg #[.int .i64 7, .string ⟨#[]⟩, .string ⟨#[]⟩, .string ⟨#[97, 110, 110]⟩, .string ⟨#[]⟩, .string ⟨#[]⟩, .string ⟨#[]⟩, .int .i64 0, .int .i64 0]] X fun e w' => e = .returned (.agg (cmdL (begCd (k : Int) 3 (offOp annB))).toArray) ∧ Below X.heap.size X w') := fun X => HBg.out X k
      obtain ⟨cs, hcs⟩ : ∃ cs, cs = (cmdL (begCd (k : Int) 3 (offOp annB))).toArray := ⟨_, rfl⟩
      rw [← hcs] at HBk HAp
      clear hcs
      by_cases h64 : k < 64
      all_goals
        first | rw [if_pos h64] at HAp | rw [if_neg h64] at HAp
        have hi64 : ((k : Int) < 64) = (k < 64) := by simp; omega
        have hc64 : ((k : Int) ≥ 64) = ¬ (k < 64) := by simp; omega
        go_wp2_with fail
        refine Calls.mono (HOf.out wr) ?_
        rintro e w2 ⟨rfl, hb2⟩
        have HX2 : Hid (Below wr.heap.size wr w2) := hb2
        clear hb2
        go_wp2_with fail
        refine Calls.mono (HBk.out w2) ?_
        rintro e w3 ⟨rfl, hb3⟩
        have HX3 : Hid (Below wr.heap.size wr w3) := HX2.out.trans (hb3.mono HX2.out.size)
        clear hb3
        go_wp2_with fail
        refine Calls.mono (HAp.out w3 HX3.out) ?_
        rintro e w4 ⟨at0, rfl, hL⟩
        have HEnd : Hid (∀ o, Lf w B (k + 1) (w4.alloc o)) := fun o => by
          obtain ⟨who', h1, h2, h3⟩ := hL
          exact ⟨who', Mt.below h1 (below_alloc w4 o), h2, h3.trans ((below_alloc w4 o).mono h3.size)⟩
        clear hL
        go_wp2
        go_roundw
        case rel => exact ⟨k + 1, by go_num, by omega, HEnd.out _⟩
        case measure => simp [intOf]; omega
    · obtain rfl : k = n0 := by omega
      obtain ⟨who, hm, hz, hb⟩ := HL.out
      have HM1 : Hid (Mt wr B (qw (min k 64)) who k) := hm
      have HZ : Hid (∀ j, j < w.heap.size → who j = 0) := hz
      have HBw : Hid (Below w.heap.size w wr) := hb
      obtain ⟨m, hmd⟩ : ∃ m, m = min k 64 := ⟨_, rfl⟩
      rw [← hmd] at HM1
      have hmp : 0 < m := by omega
      have hmm : ((m : Nat) : Int) = min 64 (k : Int) := by omega
      clear hm hz hb
      have HB4c := HB4
      have HB2c := HB2
      have HA4 : Hid (∀ X, Mt X B (qw m) who k → Calls Try.prog 8 #[.pointer (some ⟨B, 0, none⟩), .agg (cmdL (begCd 0 4 (offOp bobB))).toArray] X (AnsT who X B (qw m) (k + 1) 120 0)) := fun X h => ap_busy h (by omega) hmp
      have HA2 : Hid (∀ X who, Mt X B (qw m) who (k + 1) → Calls Try.prog 8 #[.pointer (some ⟨B, 0, none⟩), .agg (cmdL (begCd 0 2 (offOp bobB))).toArray] X (AnsT who X B (qw m) (k + 1 + 1) 110 0)) := fun X who h => ap_old h (by omega) hmp
      obtain ⟨c4, hc4⟩ : ∃ cs, cs = (cmdL (begCd 0 4 (offOp bobB))).toArray := ⟨_, rfl⟩
      obtain ⟨c2, hc2⟩ : ∃ cs, cs = (cmdL (begCd 0 2 (offOp bobB))).toArray := ⟨_, rfl⟩
      rw [← hc4] at HB4 HA4
      rw [← hc2] at HB2 HA2
      clear hc4 hc2 HB4c HB2c hmd
      have hf1 : ∀ W : World, (Instr.field 32 (.agg #[.int .i64 120, .int .i64 0, .slice none 0 0]) 0).run Try.prog W = .ok (.int .i64 120) W := fun W => by kernel_rfl
      have hf2 : ∀ W : World, (Instr.field 32 (.agg #[.int .i64 110, .int .i64 0, .slice none 0 0]) 0).run Try.prog W = .ok (.int .i64 110) W := fun W => by kernel_rfl
      go_wp2_with fail
      refine Calls.mono (HOb.out wr) ?_
      rintro e w2 ⟨rfl, hb2⟩
      have HX2 : Hid (Below wr.heap.size wr w2) := hb2
      clear hb2
      go_wp2_with fail
      refine Calls.mono (HB4.out w2) ?_
      rintro e w3 ⟨rfl, hb3⟩
      have HX3 : Hid (Below wr.heap.size wr w3) := HX2.out.trans (hb3.mono HX2.out.size)
      clear hb3
      go_wp2_with fail
      refine Calls.mono (HA4.out w3 (Mt.below HM1.out HX3.out)) ?_
      rintro e w4 ⟨who4, rfl, ha⟩
      have HM4 : Hid (Mt w4 B (qw m) who4 (k + 1)) := ha.1
      have HB4w : Hid (Below w.heap.size w w4) := ha.2.2.below (HBw.out.trans (HX3.out.mono HBw.out.size)) HZ.out
      have HZ4 : Hid (∀ j, j < w.heap.size → who4 j = 0) := fun j hj => ha.2.1 j (by have := HBw.out.size; have := HX3.out.size; omega) (HZ.out j hj)
      clear ha
      go_wp2_with fail
      refine Calls.mono (HOb.out w4) ?_
      rintro e w5 ⟨rfl, hb5⟩
      have HX5 : Hid (Below w4.heap.size w4 w5) := hb5
      clear hb5
      go_wp2_with fail
      refine Calls.mono (HB2.out w5) ?_
      rintro e w6 ⟨rfl, hb6⟩
      have HX6 : Hid (Below w4.heap.size w4 w6) := HX5.out.trans (hb6.mono HX5.out.size)
      clear hb6
      go_wp2_with fail
      refine Calls.mono (HA2.out w6 who4 (Mt.below HM4.out HX6.out)) ?_
      rintro e w7 ⟨who7, rfl, ha⟩
      have HM7 : Hid (Mt w7 B (qw m) who7 (k + 1 + 1)) := ha.1
      have HB7w : Hid (Below w.heap.size w w7) := ha.2.2.below (HB4w.out.trans (HX6.out.mono HB4w.out.size)) HZ4.out
      have HWt : Hid (Calls Try.prog 13 #[.pointer (some ⟨B, 0, none⟩)] w7 fun e w' => e = .returned (.int .i64 (m : Int)) ∧ w' = w7) := by
        have := WaitingQ_c ha.1
        rw [show (qw m).wait.length = m from wl_len m] at this
        exact this
      clear ha
      go_wp2_with fail
      refine Calls.mono HWt.out ?_
      rintro e w8 ⟨rfl, hw8⟩
      have hw8 := hw8.symm
      subst hw8
      go_wp2_with fail
      all_goals
        refine Calls.mono (HA.out _) ?_
        rintro e w9 ⟨rfl, hb9⟩
        have HB9 : Hid _ := hb9
        clear hb9
        go_wp2
        go_ret
        exact ⟨rfl, HB7w.out.trans (HB9.out.mono HB7w.out.size)⟩

theorem own : ownKnob Try.prog.godebug = none := by kernel_rfl

set_option maxRecDepth 100000 in
theorem lifted (os : Os) (started : os.Started) (H : Type) (enc : TypeId × Value → H) :
    ReturnsInHanded {} Try.checked os 4 .any (Rows.metaFullSpec.pre6 enc Try.prog Try.f4 Rows.metaFullRow.domain false) (Rows.metaFullSpec.post enc Try.prog Try.f4 false true false false) := by
  refine returnsInHanded_of_change_sized (C := Try.checked) own started (by kernel_rfl) Try.func4
    (ChangeSpec.witness6 (enc := enc) (C := Try.checked) false ⟨#[], #[.int .i64 0], []⟩ 8 (by kernel_rfl) (by kernel_rfl) (by kernel_rfl) (by kernel_rfl)) ?_
  intro W base args ds gs before hval0 hW _ hsz0 _
  have hsz : (DataW.weightsEach Try.prog (Try.f4.params.toList ++ Rows.metaFullSpec.plain.varTypes Try.prog) (ds ++ gs)).all (· ≤ reachBytes) = true := hsz0
  have hval : ∀ (j : Nat) t v, Try.f4.params[j]? = some t → args[j]? = some v → Value.okWide Try.prog W .any base t v := hval0
  have hW' := hW
  obtain ⟨p, q, hA0, hV, rfl, hfz, hnd⟩ := hW
  have hA : DataW.TrodAll enc Try.prog W 0 (fun _ => true) true Try.f4.params.toList args.toList ds p := hA0
  rw [Try.params4] at hA hval hsz
  obtain ⟨v0, vs0, d0, ds0, p0, q0, hargs, rfl, rfl, h0, r0⟩ := trodAll_cons hA
  obtain ⟨rfl, rfl, rfl⟩ := trodAll_nil r0
  obtain rfl : args = #[v0] := by cases args; simp_all
  obtain ⟨rfl, rfl⟩ := trodVars_none hV
  obtain ⟨a0, rfl, rfl, rfl, w0⟩ := open_int Try.underlying3 (hval 0 3 v0 rfl rfl) h0
  have b0 : -9223372036854775808 ≤ a0 ∧ a0 ≤ 9223372036854775807 := by simpa [Lit.wf, IntKind.min, IntKind.max, IntKind.signed, IntKind.bits] using w0
  clear hA0 hval0 hsz0
  refine (walk a0 W b0).mono fun e W' ⟨he, bel⟩ => ?_
  subst he
  exact ⟨_, rfl, _, _, _, [], _, [], hW', trodAll_mk1 (shut_bool Try.underlying4 _), (trodAll_cons_mk (shut_int Try.underlying3 w0) trodAll_mk0), rfl, bel.frame _, fun h => by cases h⟩

theorem over : Rows.metaFullRow.holds Try.pinned (OpenSpec.ofChange Rows.metaFullSpec) :=
  OpenClaim.holds_of_wide 4 Try.f4 rfl rfl rfl rfl rfl rfl rfl ⟨rfl, rfl, rfl, rfl, rfl⟩ rfl rfl rfl rfl rfl (by kernel_rfl) Try.func4 (by kernel_rfl)
    (of_decide_eq_true (by kernel_rfl)) (by unfold Func.isWrapper; first | (rw [if_pos (by decide +kernel)]; kernel_rfl) | (rw [if_neg (by decide +kernel)]; exact ⟨rfl, rfl⟩))
    (fun os started H enc _ => lifted os started H enc)


end Go.Proofs.Ytepbmfjimppgcaa.metaFull
namespace Go.Proofs.Ytepbmfjimppgcaa
/-- The statement. -/
theorem metaFull_holds : Rows.MetaFullSaid := metaFull.over
end Go.Proofs.Ytepbmfjimppgcaa
