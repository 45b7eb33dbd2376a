/-
  For every list of pairs of numbers: MetaMoves answers true: each plan, frozen and taken, gives the slot to its group, with the next epoch; the argument reads afterwards as before. No condition.
-/
import Derived.Test.YtepbmfjimppgcaaMeAwake
import Derived.Test.YtepbmfjimppgcaaSlArgs
import Derived.Test.YtepbmfjimppgcaaDkMask
import Derived.ProofKit
import Derived.OpenShut
import Derived.ShutString
import Derived.SizedLaws
namespace Go.Proofs.Ytepbmfjimppgcaa.metaMoves
open Go.ChangeShapes Go.WideShapes Go.ChangeAt Go.RowKit
open Go.ChangeMaps (open_string shut_string)

theorem and_15 (x : Int) : bits .and .i64 x 15 = x % 16 := by
  have h1 : (BitVec.ofInt 64 (15 : Int)).toNat = 2 ^ 4 - 1 := by decide
  have h2 : (BitVec.ofInt 64 x).toNat = (x % 18446744073709551616).toNat := by rw [BitVec.toNat_ofInt]; rfl
  show IntKind.i64.wrap ((BitVec.ofInt 64 x &&& BitVec.ofInt 64 15).toNat : Int) = _
  rw [BitVec.toNat_and, h1, h2, Nat.and_two_pow_sub_one_eq_mod, wraps_i64 _ (by omega) (by rw [pow63]; omega)]
  omega

/-- A box of the law's own. -/
structure Fb (who : Nat → Nat) (X : World) (b : Nat) (cs : Array Value) : Prop where
  lt : b < X.heap.size
  no : who b = 0
  c : ∀ j, X.cell? ⟨b, j, none⟩ = cs[j]?
theorem Fb.below {who : Nat → Nat} {X Y : World} {b : Nat} {cs : Array Value} (h : Fb who X b cs) (hb : Below X.heap.size X Y) : Fb who Y b cs := ⟨Nat.lt_of_lt_of_le h.lt hb.size, h.no, fun j => (hb.cell (p := ⟨b, j, none⟩) h.lt).trans (h.c j)⟩
theorem Fb.aft {who who' : Nat → Nat} {X Y : World} {b B n : Nat} {cs : Array Value} {q : Me.St} (h : Fb who X b cs) (ha : AftT who X Y B q n who') : Fb who' Y b cs := ⟨Nat.lt_of_lt_of_le h.lt ha.2.2.size, ha.2.1 b h.lt h.no, fun j => (World.cell?_of_block (a := ⟨b, j, none⟩) (ha.2.2.block b h.lt h.no)).trans (h.c j)⟩
theorem Fb.new {who : Nat → Nat} {X : World} {B n : Nat} {q : Me.St} (h : Mt X B q who n) (cs : Array Value) (T : TypeId) : Fb who (X.alloc (.cells cs T)) X.heap.size cs :=
  ⟨by simp, Classical.byContradiction fun g => by have := h.here _ g; omega, fun j => World.cell?_alloc_mark X _ _ _ j⟩

def qs (s : Sl.St) : Me.St := ⟨8, s, [], 0, [], Me.noPl⟩
def pq (s : Sl.St) (i : Nat) (g : Int) : Me.St := { qs s with pl := ⟨Me.takenTo s.E 16 + 1, (i : Int), (s.O i : Int), g, (s.E i : Int), false, Me.e0⟩ }
def fq (s : Sl.St) (i : Nat) (g : Int) : Me.St := { qs s with pl := ⟨Me.takenTo s.E 16 + 1, (i : Int), (s.O i : Int), g, (s.E i : Int), true, ⟨#[100]⟩⟩ }
def takCd (k p : Int) (d : ByteArray) : Me.Cd := ⟨k, 0, 0, ⟨0, ⟨#[]⟩, ⟨#[]⟩, ⟨#[]⟩, ⟨#[]⟩, ⟨#[]⟩, ⟨#[]⟩, 0, 0⟩, 0, p, 0, 0, 0, false, 0, d⟩
section
variable {X : World} {B n : Nat} {s : Sl.St} {who : Nat → Nat} {i : Nat} {g : Int}
theorem ap_there (h : Mt X B (qs s) who n) (hi : i < 16) (hg : 1 ≤ g ∧ g ≤ 8) (ht : (s.O i : Int) = g) : Calls Try.prog 8 #[.pointer (some ⟨B, 0, none⟩), .agg #[.int .i64 9, .int .i64 0, .int .i64 0, .int .i64 0, .string ⟨#[]⟩, .string ⟨#[]⟩, .string ⟨#[]⟩, .string ⟨#[]⟩, .string ⟨#[]⟩, .string ⟨#[]⟩, .int .i64 0, .int .i64 0, .int .i64 0, .int .i64 0, .int .i64 (i : Int), .int .i64 0, .int .i64 g, .bool false, .int .i64 0, .string ⟨#[]⟩]] X (AnsT who X B (qs s) (n + 1) 90 0) :=
  Apply_plan h (planCd (i : Int) g) rfl fun Y hY => start_there hY (planCd (i : Int) g) i hi rfl (by show ¬ g < 1; omega) (by show ¬ g > ((8 : Nat) : Int); omega) rfl ht
theorem ap_yes (h : Mt X B (qs s) who n) (hi : i < 16) (hg : 1 ≤ g ∧ g ≤ 8) (ht : (s.O i : Int) ≠ g) : Calls Try.prog 8 #[.pointer (some ⟨B, 0, none⟩), .agg #[.int .i64 9, .int .i64 0, .int .i64 0, .int .i64 0, .string ⟨#[]⟩, .string ⟨#[]⟩, .string ⟨#[]⟩, .string ⟨#[]⟩, .string ⟨#[]⟩, .string ⟨#[]⟩, .int .i64 0, .int .i64 0, .int .i64 0, .int .i64 0, .int .i64 (i : Int), .int .i64 0, .int .i64 g, .bool false, .int .i64 0, .string ⟨#[]⟩]] X (AnsT who X B (pq s i g) (n + 1) 0 (Me.takenTo s.E 16 + 1)) := by
  have := Apply_plan h (planCd (i : Int) g) rfl fun Y hY => start_yes hY (planCd (i : Int) g) i hi rfl (by show ¬ g < 1; omega) (by show ¬ g > ((8 : Nat) : Int); omega) rfl ht
  exact this
theorem T_pos (h : Mt X B (pq s i g) who n) : 1 ≤ Me.takenTo s.E 16 + 1 := by
  obtain ⟨_, ob, tb, tm, wv, vb, eb, hq⟩ := h
  have := takenTo_le hq.r.sm.ok 16 (by omega)
  have e : (pq s i g).own = s := rfl
  rw [e] at this
  omega
theorem ap_busy (h : Mt X B (pq s i g) who n) {j : Nat} (hj : j < 16) (hg : 1 ≤ g ∧ g ≤ 8) : Calls Try.prog 8 #[.pointer (some ⟨B, 0, none⟩), .agg #[.int .i64 9, .int .i64 0, .int .i64 0, .int .i64 0, .string ⟨#[]⟩, .string ⟨#[]⟩, .string ⟨#[]⟩, .string ⟨#[]⟩, .string ⟨#[]⟩, .string ⟨#[]⟩, .int .i64 0, .int .i64 0, .int .i64 0, .int .i64 0, .int .i64 (j : Int), .int .i64 0, .int .i64 g, .bool false, .int .i64 0, .string ⟨#[]⟩]] X (AnsT who X B (pq s i g) (n + 1) 120 0) :=
  Apply_plan h (planCd (j : Int) g) rfl fun Y hY => start_busy hY (planCd (j : Int) g) j hj rfl (by show ¬ g < 1; omega) (by show ¬ g > ((8 : Nat) : Int); omega) (by show Me.takenTo s.E 16 + 1 ≠ 0; have := T_pos h; omega)
theorem on_way (h : Mt X B (pq s i g) who n) : Me.onWay (pq s i g) (Me.takenTo s.E 16 + 1) = true := by
  show (decide (Me.takenTo s.E 16 + 1 ≠ 0) && decide (Me.takenTo s.E 16 + 1 = Me.takenTo s.E 16 + 1)) = true
  have := T_pos h
  simp
  omega
theorem ap_early (h : Mt X B (pq s i g) who n) : Calls Try.prog 8 #[.pointer (some ⟨B, 0, none⟩), .agg #[.int .i64 11, .int .i64 0, .int .i64 0, .int .i64 0, .string ⟨#[]⟩, .string ⟨#[]⟩, .string ⟨#[]⟩, .string ⟨#[]⟩, .string ⟨#[]⟩, .string ⟨#[]⟩, .int .i64 0, .int .i64 0, .int .i64 0, .int .i64 (Me.takenTo s.E 16 + 1), .int .i64 0, .int .i64 0, .int .i64 0, .bool false, .int .i64 0, .string ⟨#[]⟩]] X (AnsT who X B (pq s i g) (n + 1) 3 0) :=
  Apply_taken h (takCd 11 (Me.takenTo s.E 16 + 1) ⟨#[]⟩) rfl fun Y hY => by
    have := take_c hY (takCd 11 (Me.takenTo s.E 16 + 1) ⟨#[]⟩) (fun _ h2 => by cases h2)
    rw [if_neg (fun e => by cases e.2), if_neg (fun e => by cases e.2)] at this
    exact this
theorem ap_frozen (h : Mt X B (pq s i g) who n) : Calls Try.prog 8 #[.pointer (some ⟨B, 0, none⟩), .agg #[.int .i64 10, .int .i64 0, .int .i64 0, .int .i64 0, .string ⟨#[]⟩, .string ⟨#[]⟩, .string ⟨#[]⟩, .string ⟨#[]⟩, .string ⟨#[]⟩, .string ⟨#[]⟩, .int .i64 0, .int .i64 0, .int .i64 0, .int .i64 (Me.takenTo s.E 16 + 1), .int .i64 0, .int .i64 0, .int .i64 0, .bool false, .int .i64 0, .string ⟨#[100]⟩]] X (AnsT who X B (fq s i g) (n + 1) 0 0) :=
  Apply_frozen h (takCd 10 (Me.takenTo s.E 16 + 1) ⟨#[100]⟩) rfl fun Y hY => by
    have := freeze_c hY (takCd 10 (Me.takenTo s.E 16 + 1) ⟨#[100]⟩) (by show (⟨#[100]⟩ : ByteArray).size ≤ _; decide)
    rw [if_pos ⟨on_way h, rfl⟩, if_pos ⟨on_way h, rfl⟩] at this
    exact this
theorem ap_taken (h0 : Mt X B (fq s i g) who n) (hw : Me.onWay (fq s i g) (Me.takenTo s.E 16 + 1) = true) (he : Sl.giveE s (i : Int) g = 0) : Calls Try.prog 8 #[.pointer (some ⟨B, 0, none⟩), .agg #[.int .i64 11, .int .i64 0, .int .i64 0, .int .i64 0, .string ⟨#[]⟩, .string ⟨#[]⟩, .string ⟨#[]⟩, .string ⟨#[]⟩, .string ⟨#[]⟩, .string ⟨#[]⟩, .int .i64 0, .int .i64 0, .int .i64 0, .int .i64 (Me.takenTo s.E 16 + 1), .int .i64 0, .int .i64 0, .int .i64 0, .bool false, .int .i64 0, .string ⟨#[]⟩]] X (AnsT who X B (qs (Sl.give s (i : Int) g)) (n + 1) 0 0) :=
  Apply_taken h0 (takCd 11 (Me.takenTo s.E 16 + 1) ⟨#[]⟩) rfl fun Y hY => by
    have := take_c hY (takCd 11 (Me.takenTo s.E 16 + 1) ⟨#[]⟩) (fun _ _ => he)
    rw [if_pos ⟨hw, rfl⟩, if_pos ⟨hw, rfl⟩] at this
    exact this
end

theorem give_O {s : Sl.St} {i : Nat} {g : Int} (hi : i < 16) (hg : 1 ≤ g ∧ g ≤ 8) (ht : (s.O i : Int) ≠ g) (hE : s.E i ≠ 2147483647) : Sl.giveE s (i : Int) g = 0 ∧ ((Sl.give s (i : Int) g).O i : Int) = g ∧ (Sl.give s (i : Int) g).E i = s.E i + 1 ∧ ∀ j, (Sl.give s (i : Int) g).E j ≤ s.E j + 1 := by
  have h0 : Sl.giveE s (i : Int) g = 0 := by
    unfold Sl.giveE
    rw [if_pos (by omega), Int.toNat_natCast, if_neg ht, if_neg hE]
  have h1 : Sl.give s (i : Int) g = Sl.put s i g.toNat := by
    unfold Sl.give
    rw [if_pos h0, Int.toNat_natCast]
  refine ⟨h0, ?_, ?_, fun j => ?_⟩
  · rw [h1]
    show (((if i = i then g.toNat else s.O i : Nat)) : Int) = g
    rw [if_pos rfl]
    omega
  · rw [h1]
    show (if i = i then s.E i + 1 else s.E i) = s.E i + 1
    rw [if_pos rfl]
  · rw [h1]
    show (if j = i then s.E i + 1 else s.E j) ≤ s.E j + 1
    split
    · rename_i e; rw [e]; exact Nat.le_refl _
    · omega

/-- The law's state. -/
def Lp (w : World) (B : Nat) (n : Nat) (X : World) : Prop := ∃ s who, Mt X B (qs s) who n ∧ (∀ k, k < w.heap.size → who k = 0) ∧ Below w.heap.size w X ∧ ∀ j, j < 16 → s.E j ≤ n + 1

set_option maxHeartbeats 12800000 in
set_option maxRecDepth 40000 in
theorem walk (v0 : Value) (a0 : List (Int × Int)) (w : World) (_b0 : Elems w 2 a2Cells A2In v0 a0) :
    Calls Try.prog 3 #[v0] w fun e w' => e = .returned (.bool true) ∧ Below w.heap.size w w' := by
  have HA : Hid (∀ u : World, Calls Try.prog 10 #[] u fun e w' => e = .returned (.bool true) ∧ Below u.heap.size u w') := awakeQ_c
  obtain ⟨p0, c0, hv0, hc1, hc2, hgood, hcells⟩ := _b0
  obtain ⟨n0, hn0⟩ : ∃ n0, n0 = a0.length := ⟨_, rfl⟩
  rw [← hn0] at hv0 hc1
  have HI : Hid (∀ k, k < n0 → ∃ x y g o, p0 = some ⟨g, o, none⟩ ∧ ∀ X, Below w.heap.size w X → X.cell? ⟨g, o + k * 2, none⟩ = some (.int .i64 x) ∧ X.cell? ⟨g, o + k * 2 + 1, none⟩ = some (.int .i64 y)) := by
    intro k hk
    obtain ⟨q, hq⟩ : ∃ q, a0[k]? = some q := ⟨_, List.getElem?_eq_getElem (by omega)⟩
    rcases hcells with h | ⟨g, o, hp, hg, hcs⟩
    · rw [h] at hq
      simp at hq
    · refine ⟨q.1, q.2, g, o, hp, fun X hX => ?_⟩
      have e : ∀ j, X.cell? ⟨g, j, none⟩ = w.cell? ⟨g, j, none⟩ := fun j => hX.cell (p := ⟨g, j, none⟩) hg
      rw [e, e]
      exact ⟨hcs k q hq 0 _ rfl, hcs k q hq 1 _ rfl⟩
  subst hv0
  have hcm := hc2
  unfold maxLen at hcm
  have HN : Hid (Calls Try.prog 6 #[.int .i64 8] w fun e w' => ∃ B who, e = .returned (.tuple #[.pointer (some ⟨B, 0, none⟩), .int .i64 0]) ∧ Mt w' B (qs (Sl.new 8)) who 0 ∧ (∀ i, who i ≠ 0 → w.heap.size ≤ i) ∧ Below w.heap.size w w') := NewQ_c w 8 (by decide)
  clear hn0 hgood hcells hc2
  go_enter Try.func3, Try.ntmps3
  go_wp2_with fail
  refine Calls.mono HN.out ?_
  rintro e w1 ⟨B, who, rfl, hm, hlo, hb⟩
  have HS : Hid (Lp w B 0 w1) := ⟨Sl.new 8, who, hm, fun k hk => Classical.byContradiction fun h => by have := hlo k h; omega, hb, fun j hj => by show 1 ≤ 1; exact Nat.le_refl _⟩
  clear hm hlo hb HN
  go_wp2
  go_loopw [5] (fun x wr => ∃ k : Nat, x = .int .i64 (k : Int) ∧ k ≤ n0 ∧ k ≤ 60 ∧ Hid (Lp w B (10 * k) wr)) (fun x _ => 60 - (intOf x).toNat)
  case atStart => exact ⟨0, rfl, Nat.zero_le _, Nat.zero_le _, HS⟩
  case round =>
    clear HS
    obtain ⟨k, rfl, hk1, hk2, HL⟩ := hrel
    by_cases hin : k < n0
    · by_cases h60 : k < 60
      · obtain ⟨x, y, ga, oa, hp, hcx⟩ := HI.out k hin
        subst hp
        obtain ⟨s, who, hm, hz, hb, hE⟩ := HL.out
        obtain ⟨y0, y1⟩ := hcx wr hb
        have hk0 : (0 : Int) ≤ (k : Int) := Int.natCast_nonneg k
        have hin2 : (k : Int) < (n0 : Int) := by omega
        have h602 : (k : Int) < 60 := by omega
        obtain ⟨i, hi, hi16⟩ : ∃ i : Nat, x % 16 = (i : Int) ∧ i < 16 := ⟨(x % 16).toNat, by omega, by omega⟩
        have hand : bits BinOp.and IntKind.i64 x 15 = (i : Int) := by rw [and_15]; exact hi
        obtain ⟨g, hg, hg8⟩ : ∃ g : Int, 1 + y % 8 = g ∧ 1 ≤ g ∧ g ≤ 8 := ⟨1 + y % 8, rfl, by omega, by omega⟩
        have hand2 : bits BinOp.and IntKind.i64 y 7 = g - 1 := by rw [and_7]; omega
        have hgw : IntKind.i64.wrap (1 + (g - 1)) = g := by rw [IntKind.wrap_i64]; omega
        have hgw2 : (1 : Int) + (g - 1) = g := by omega
        obtain ⟨m, hmm⟩ : ∃ m, m = 10 * k := ⟨_, rfl⟩
        rw [← hmm] at hm hE
        have HMm : Hid (m = 10 * k) := hmm
        have HMwr : Hid (Mt wr B (qs s) who m) := hm
        have HZ : Hid (∀ k, k < w.heap.size → who k = 0) := hz
        have HBw : Hid (Below w.heap.size w wr) := hb
        have HE : Hid (∀ j, j < 16 → s.E j ≤ m + 1) := hE
        have hmn : m ≤ 600 := by omega
        have HG8 : Hid (1 ≤ g ∧ g ≤ 8) := hg8
        have HI16 : Hid (i < 16) := hi16
        clear hcx hm hz hb hE hmm hi hg
        go_wp2
        go_region
        obtain ⟨wa, hwa⟩ : ∃ wa, wa = wr.drew := ⟨_, rfl⟩
        have HMwa : Hid (Mt wa B (qs s) who m) := by rw [hwa]; exact Mt.below HMwr.out (below_drew wr)
        have HXwa : Hid (Below wr.heap.size wr wa) := by rw [hwa]; exact below_drew wr
        go_upto_region 8 with fail
        go_simp
        rw [← hwa]
        clear hwa y0 y1 hand hand2 hgw hgw2
        by_cases ht : (s.O i : Int) = g
        · have kt : (((s.O i : Nat) : Int) == g) = true := by simpa using ht
          have HT : Hid ((s.O i : Int) = g) := ht
          clear ht
          have HOw0 : Hid (Calls Try.prog 7 #[.pointer (some ⟨B, 0, none⟩), .int .i64 (i : Int)] wa fun e w' => e = .returned (.tuple #[.int .i64 (s.O i : Int), .int .i64 (s.E i : Int), .int .i64 0]) ∧ Below wa.heap.size wa w') := OwnerQ_yes HMwa.out i HI16.out
          go_wp2_with fail
          refine Calls.mono (HOw0.out) ?_
          rintro e wb ⟨rfl, hbn⟩
          have HMwb : Hid (Mt wb B (qs s) who (m)) := Mt.below HMwa.out hbn
          have HXwb : Hid (Below wa.heap.size wa wb) := hbn
          clear hbn
          go_wp2_with fail
          refine Calls.mono (ap_there HMwb.out HI16.out HG8.out HT.out) ?_
          rintro e wc ⟨who2, rfl, ha⟩
          have HMwc : Hid (Mt wc B (qs s) who2 (m + 1)) := ha.1
          have HZwc : Hid (∀ k, k < wb.heap.size → who k = 0 → who2 k = 0) := ha.2.1
          have HQwc : Hid (KeptQ who wb wc) := ha.2.2
          clear ha
          obtain ⟨wd, hwd⟩ : ∃ wd, wd = wc.alloc (.cells #[.int .i64 90, .int .i64 0, .slice none 0 0] 32) := ⟨_, rfl⟩
          obtain ⟨b11, hb11⟩ : ∃ b11, b11 = wc.heap.size := ⟨_, rfl⟩
          have hbn : Below wc.heap.size wc wd := by rw [hwd]; exact below_alloc _ _
          have HMwd : Hid (Mt wd B (qs s) who2 (m + 1)) := Mt.below HMwc.out hbn
          have HXwd : Hid (Below wc.heap.size wc wd) := hbn
          have HFwdb11 : Hid (Fb who2 wd b11 #[.int .i64 90, .int .i64 0, .slice none 0 0]) := by rw [hwd, hb11]; exact Fb.new HMwc.out _ _
          clear hbn
          have x0 := HFwdb11.out.c 0
          simp at x0
          have HEnd : Hid (Lp w B (10 * (k + 1)) wd) := by
            refine ⟨s, who2, Mt.mono HMwd.out (by have := HMm.out; omega), fun j hj => HZwc.out j (by have := HBw.out.size; have := HXwa.out.size; have := HXwb.out.size; omega) (HZ.out j hj), ?_, fun j hj => by have := HE.out j hj; have := HMm.out; omega⟩
            have h1 : Below w.heap.size w wb := HBw.out.trans ((HXwa.out.trans (HXwb.out.mono HXwa.out.size)).mono HBw.out.size)
            have h2 : Below w.heap.size w wc := HQwc.out.below h1 HZ.out
            exact h2.trans (HXwd.out.mono h2.size)
          go_upto_region 10 with fail
          rw [← hwd]
          try rw [← hb11]
          clear hwd hb11
          go_wp2
          go_roundw
          case rel => exact ⟨k + 1, by go_num, by omega, by omega, HEnd⟩
          case measure => simp [intOf]; omega
        · have kt : (((s.O i : Nat) : Int) == g) = false := by simpa using ht
          have HT : Hid ((s.O i : Int) ≠ g) := ht
          have HGv : Hid _ := give_O HI16.out HG8.out ht (by have := HE.out i HI16.out; omega)
          clear ht
          obtain ⟨T, hT⟩ : ∃ T, T = Me.takenTo s.E 16 + 1 := ⟨_, rfl⟩
          have HTv : Hid (T = Me.takenTo s.E 16 + 1) := hT
          clear hT
          have HOw0 : Hid (Calls Try.prog 7 #[.pointer (some ⟨B, 0, none⟩), .int .i64 (i : Int)] wa fun e w' => e = .returned (.tuple #[.int .i64 (s.O i : Int), .int .i64 (s.E i : Int), .int .i64 0]) ∧ Below wa.heap.size wa w') := OwnerQ_yes HMwa.out i HI16.out
          go_wp2_with fail
          refine Calls.mono (HOw0.out) ?_
          rintro e wb ⟨rfl, hbn⟩
          have HMwb : Hid (Mt wb B (qs s) who (m)) := Mt.below HMwa.out hbn
          have HXwb : Hid (Below wa.heap.size wa wb) := hbn
          clear hbn
          have HAy : Hid _ := ap_yes HMwb.out HI16.out HG8.out HT.out
          rw [← HTv.out] at HAy
          go_wp2_with fail
          refine Calls.mono (HAy.out) ?_
          rintro e wc ⟨who2, rfl, ha⟩
          have HMwc : Hid (Mt wc B (pq s i g) who2 (m + 1)) := ha.1
          have HZwc : Hid (∀ k, k < wb.heap.size → who k = 0 → who2 k = 0) := ha.2.1
          have HQwc : Hid (KeptQ who wb wc) := ha.2.2
          clear ha
          obtain ⟨wd, hwd⟩ : ∃ wd, wd = wc.alloc (.cells #[.int .i64 0, .int .i64 T, .slice none 0 0] 32) := ⟨_, rfl⟩
          obtain ⟨b11, hb11⟩ : ∃ b11, b11 = wc.heap.size := ⟨_, rfl⟩
          have hbn : Below wc.heap.size wc wd := by rw [hwd]; exact below_alloc _ _
          have HMwd : Hid (Mt wd B (pq s i g) who2 (m + 1)) := Mt.below HMwc.out hbn
          have HXwd : Hid (Below wc.heap.size wc wd) := hbn
          have HFwdb11 : Hid (Fb who2 wd b11 #[.int .i64 0, .int .i64 T, .slice none 0 0]) := by rw [hwd, hb11]; exact Fb.new HMwc.out _ _
          clear hbn
          clear HAy
          have x0 := HFwdb11.out.c 0
          simp at x0
          go_upto_region 10 with fail
          rw [← hwd]
          try rw [← hb11]
          clear hwd hb11
          obtain ⟨j2, hj2, hj216⟩ : ∃ j2 : Nat, ((i : Int) + 1) % 16 = (j2 : Int) ∧ j2 < 16 := ⟨(((i : Int) + 1) % 16).toNat, by omega, by omega⟩
          have hw1 : IntKind.i64.wrap ((i : Int) + 1) = (i : Int) + 1 := by have := HI16.out; rw [IntKind.wrap_i64]; omega
          have hand3 : bits BinOp.and IntKind.i64 ((i : Int) + 1) 15 = (j2 : Int) := by rw [and_15]; exact hj2
          have HJ : Hid (j2 < 16) := hj216
          clear hj2 hj216
          have HAb : Hid _ := ap_busy HMwd.out HJ.out HG8.out
          go_wp2_with fail
          refine Calls.mono (HAb.out) ?_
          rintro e we ⟨who3, rfl, ha⟩
          have HMwe : Hid (Mt we B (pq s i g) who3 (m + 2)) := ha.1
          have HZwe : Hid (∀ k, k < wd.heap.size → who2 k = 0 → who3 k = 0) := ha.2.1
          have HQwe : Hid (KeptQ who2 wd we) := ha.2.2
          have HFweb11 : Hid (Fb who3 we b11 #[.int .i64 0, .int .i64 T, .slice none 0 0]) := Fb.aft HFwdb11.out ha
          clear ha
          clear HAb x0 hw1 hand3
          obtain ⟨wf, hwf⟩ : ∃ wf, wf = we.alloc (.cells #[.int .i64 120, .int .i64 0, .slice none 0 0] 32) := ⟨_, rfl⟩
          obtain ⟨b12, hb12⟩ : ∃ b12, b12 = we.heap.size := ⟨_, rfl⟩
          have hbn : Below we.heap.size we wf := by rw [hwf]; exact below_alloc _ _
          have HMwf : Hid (Mt wf B (pq s i g) who3 (m + 2)) := Mt.below HMwe.out hbn
          have HXwf : Hid (Below we.heap.size we wf) := hbn
          have HFwfb12 : Hid (Fb who3 wf b12 #[.int .i64 120, .int .i64 0, .slice none 0 0]) := by rw [hwf, hb12]; exact Fb.new HMwe.out _ _
          have HFwfb11 : Hid (Fb who3 wf b11 #[.int .i64 0, .int .i64 T, .slice none 0 0]) := Fb.below HFweb11.out hbn
          clear hbn
          go_upto_region 14 with fail
          rw [← hwf]
          try rw [← hb12]
          clear hwf hb12
          have x1 := HFwfb11.out.c 1
          simp at x1
          have HAe : Hid _ := ap_early HMwf.out
          rw [← HTv.out] at HAe
          go_wp2_with fail
          refine Calls.mono (HAe.out) ?_
          rintro e wg ⟨who4, rfl, ha⟩
          have HMwg : Hid (Mt wg B (pq s i g) who4 (m + 3)) := ha.1
          have HZwg : Hid (∀ k, k < wf.heap.size → who3 k = 0 → who4 k = 0) := ha.2.1
          have HQwg : Hid (KeptQ who3 wf wg) := ha.2.2
          have HFwgb11 : Hid (Fb who4 wg b11 #[.int .i64 0, .int .i64 T, .slice none 0 0]) := Fb.aft HFwfb11.out ha
          have HFwgb12 : Hid (Fb who4 wg b12 #[.int .i64 120, .int .i64 0, .slice none 0 0]) := Fb.aft HFwfb12.out ha
          clear ha
          clear HAe x1
          obtain ⟨wh, hwh⟩ : ∃ wh, wh = wg.alloc (.cells #[.int .i64 3, .int .i64 0, .slice none 0 0] 32) := ⟨_, rfl⟩
          obtain ⟨b13, hb13⟩ : ∃ b13, b13 = wg.heap.size := ⟨_, rfl⟩
          have hbn : Below wg.heap.size wg wh := by rw [hwh]; exact below_alloc _ _
          have HMwh : Hid (Mt wh B (pq s i g) who4 (m + 3)) := Mt.below HMwg.out hbn
          have HXwh : Hid (Below wg.heap.size wg wh) := hbn
          have HFwhb13 : Hid (Fb who4 wh b13 #[.int .i64 3, .int .i64 0, .slice none 0 0]) := by rw [hwh, hb13]; exact Fb.new HMwg.out _ _
          have HFwhb11 : Hid (Fb who4 wh b11 #[.int .i64 0, .int .i64 T, .slice none 0 0]) := Fb.below HFwgb11.out hbn
          have HFwhb12 : Hid (Fb who4 wh b12 #[.int .i64 120, .int .i64 0, .slice none 0 0]) := Fb.below HFwgb12.out hbn
          clear hbn
          go_upto_region 15 with fail
          rw [← hwh]
          try rw [← hb13]
          clear hwh hb13
          have x1 := HFwhb11.out.c 1
          simp at x1
          have HAf : Hid _ := ap_frozen HMwh.out
          rw [← HTv.out] at HAf
          have HOw : Hid (Me.onWay (fq s i g) (Me.takenTo s.E 16 + 1) = true) := on_way HMwh.out
          go_wp2_with fail
          refine Calls.mono (HAf.out) ?_
          rintro e wi ⟨who5, rfl, ha⟩
          have HMwi : Hid (Mt wi B (fq s i g) who5 (m + 4)) := ha.1
          have HZwi : Hid (∀ k, k < wh.heap.size → who4 k = 0 → who5 k = 0) := ha.2.1
          have HQwi : Hid (KeptQ who4 wh wi) := ha.2.2
          have HFwib11 : Hid (Fb who5 wi b11 #[.int .i64 0, .int .i64 T, .slice none 0 0]) := Fb.aft HFwhb11.out ha
          have HFwib12 : Hid (Fb who5 wi b12 #[.int .i64 120, .int .i64 0, .slice none 0 0]) := Fb.aft HFwhb12.out ha
          have HFwib13 : Hid (Fb who5 wi b13 #[.int .i64 3, .int .i64 0, .slice none 0 0]) := Fb.aft HFwhb13.out ha
          clear ha
          clear HAf x1
          obtain ⟨wj, hwj⟩ : ∃ wj, wj = wi.alloc (.cells #[.int .i64 0, .int .i64 0, .slice none 0 0] 32) := ⟨_, rfl⟩
          obtain ⟨b14, hb14⟩ : ∃ b14, b14 = wi.heap.size := ⟨_, rfl⟩
          have hbn : Below wi.heap.size wi wj := by rw [hwj]; exact below_alloc _ _
          have HMwj : Hid (Mt wj B (fq s i g) who5 (m + 4)) := Mt.below HMwi.out hbn
          have HXwj : Hid (Below wi.heap.size wi wj) := hbn
          have HFwjb14 : Hid (Fb who5 wj b14 #[.int .i64 0, .int .i64 0, .slice none 0 0]) := by rw [hwj, hb14]; exact Fb.new HMwi.out _ _
          have HFwjb11 : Hid (Fb who5 wj b11 #[.int .i64 0, .int .i64 T, .slice none 0 0]) := Fb.below HFwib11.out hbn
          have HFwjb12 : Hid (Fb who5 wj b12 #[.int .i64 120, .int .i64 0, .slice none 0 0]) := Fb.below HFwib12.out hbn
          have HFwjb13 : Hid (Fb who5 wj b13 #[.int .i64 3, .int .i64 0, .slice none 0 0]) := Fb.below HFwib13.out hbn
          clear hbn
          go_upto_region 16 with fail
          rw [← hwj]
          try rw [← hb14]
          clear hwj hb14
          have HPn : Hid (Calls Try.prog 9 #[.pointer (some ⟨B, 0, none⟩)] wj fun e w' => e = .returned (.tuple #[.agg #[.int .i64 T, .int .i64 (i : Int), .int .i64 (s.O i : Int), .int .i64 g, .int .i64 (s.E i : Int), .bool true, .string ⟨#[100]⟩], .bool true]) ∧ Below wj.heap.size wj w') := by
            have h1 := PlanQ_c HMwj.out
            have h2 : ((fq s i g).pl.plan != 0) = true := by
              show (Me.takenTo s.E 16 + 1 != 0) = true
              have := T_pos HMwh.out
              simp
              omega
            rw [h2] at h1
            rw [HTv.out]
            exact h1
          go_wp2_with fail
          refine Calls.mono HPn.out ?_
          rintro e wk ⟨rfl, hbn⟩
          have HMwk : Hid (Mt wk B (fq s i g) who5 (m + 4)) := Mt.below HMwj.out hbn
          have HXwk : Hid (Below wj.heap.size wj wk) := hbn
          have HFwkb11 : Hid (Fb who5 wk b11 #[.int .i64 0, .int .i64 T, .slice none 0 0]) := Fb.below HFwjb11.out hbn
          have HFwkb12 : Hid (Fb who5 wk b12 #[.int .i64 120, .int .i64 0, .slice none 0 0]) := Fb.below HFwjb12.out hbn
          have HFwkb13 : Hid (Fb who5 wk b13 #[.int .i64 3, .int .i64 0, .slice none 0 0]) := Fb.below HFwjb13.out hbn
          have HFwkb14 : Hid (Fb who5 wk b14 #[.int .i64 0, .int .i64 0, .slice none 0 0]) := Fb.below HFwjb14.out hbn
          clear hbn HPn
          have hone7 : (#[.int .i64 T, .int .i64 (i : Int), .int .i64 (s.O i : Int), .int .i64 g, .int .i64 (s.E i : Int), .bool true, .string ⟨#[100]⟩] : Array Value).all (·.oneCell') = true := by
            refine all_oneCell_toArray (fun x hx => ?_)
            simp only [List.mem_cons, List.not_mem_nil, or_false] at hx
            rcases hx with rfl | rfl | rfl | rfl | rfl | rfl | rfl <;> rfl
          have hi7 : (Try.prog.info? 41).map (·.size) = some 7 := by kernel_rfl
          obtain ⟨wl, hwl⟩ : ∃ wl, wl = wk.alloc (.cells #[.int .i64 T, .int .i64 (i : Int), .int .i64 (s.O i : Int), .int .i64 g, .int .i64 (s.E i : Int), .bool true, .string ⟨#[100]⟩] 41) := ⟨_, rfl⟩
          obtain ⟨b15, hb15⟩ : ∃ b15, b15 = wk.heap.size := ⟨_, rfl⟩
          have hbn : Below wk.heap.size wk wl := by rw [hwl]; exact below_alloc _ _
          have HMwl : Hid (Mt wl B (fq s i g) who5 (m + 4)) := Mt.below HMwk.out hbn
          have HXwl : Hid (Below wk.heap.size wk wl) := hbn
          have HFwlb15 : Hid (Fb who5 wl b15 #[.int .i64 T, .int .i64 (i : Int), .int .i64 (s.O i : Int), .int .i64 g, .int .i64 (s.E i : Int), .bool true, .string ⟨#[100]⟩]) := by rw [hwl, hb15]; exact Fb.new HMwk.out _ _
          have HFwlb11 : Hid (Fb who5 wl b11 #[.int .i64 0, .int .i64 T, .slice none 0 0]) := Fb.below HFwkb11.out hbn
          have HFwlb12 : Hid (Fb who5 wl b12 #[.int .i64 120, .int .i64 0, .slice none 0 0]) := Fb.below HFwkb12.out hbn
          have HFwlb13 : Hid (Fb who5 wl b13 #[.int .i64 3, .int .i64 0, .slice none 0 0]) := Fb.below HFwkb13.out hbn
          have HFwlb14 : Hid (Fb who5 wl b14 #[.int .i64 0, .int .i64 0, .slice none 0 0]) := Fb.below HFwkb14.out hbn
          clear hbn
          go_upto_region 17 with (first | (refine wpList_store_row rfl 41 (.tmp 15) (.tmp 100) rfl wk.heap.size _ rfl rfl 41 _ (heap_alloc_new wk _) hi7 rfl hone7 ?_; rw [setRowN, ← hwl, ← hb15]; clear hwl hb15))
          clear hi7 hone7
          have x1 := HFwlb11.out.c 1
          simp at x1
          have HAt : Hid _ := ap_taken HMwl.out HOw.out HGv.out.1
          rw [← HTv.out] at HAt
          go_wp2_with fail
          refine Calls.mono (HAt.out) ?_
          rintro e wm ⟨who6, rfl, ha⟩
          have HMwm : Hid (Mt wm B (qs (Sl.give s (i : Int) g)) who6 (m + 5)) := ha.1
          have HZwm : Hid (∀ k, k < wl.heap.size → who5 k = 0 → who6 k = 0) := ha.2.1
          have HQwm : Hid (KeptQ who5 wl wm) := ha.2.2
          have HFwmb11 : Hid (Fb who6 wm b11 #[.int .i64 0, .int .i64 T, .slice none 0 0]) := Fb.aft HFwlb11.out ha
          have HFwmb12 : Hid (Fb who6 wm b12 #[.int .i64 120, .int .i64 0, .slice none 0 0]) := Fb.aft HFwlb12.out ha
          have HFwmb13 : Hid (Fb who6 wm b13 #[.int .i64 3, .int .i64 0, .slice none 0 0]) := Fb.aft HFwlb13.out ha
          have HFwmb14 : Hid (Fb who6 wm b14 #[.int .i64 0, .int .i64 0, .slice none 0 0]) := Fb.aft HFwlb14.out ha
          have HFwmb15 : Hid (Fb who6 wm b15 #[.int .i64 T, .int .i64 (i : Int), .int .i64 (s.O i : Int), .int .i64 g, .int .i64 (s.E i : Int), .bool true, .string ⟨#[100]⟩]) := Fb.aft HFwlb15.out ha
          clear ha
          clear HAt x1
          obtain ⟨wn, hwn⟩ : ∃ wn, wn = wm.alloc (.cells #[.int .i64 0, .int .i64 0, .slice none 0 0] 32) := ⟨_, rfl⟩
          obtain ⟨b17, hb17⟩ : ∃ b17, b17 = wm.heap.size := ⟨_, rfl⟩
          have hbn : Below wm.heap.size wm wn := by rw [hwn]; exact below_alloc _ _
          have HMwn : Hid (Mt wn B (qs (Sl.give s (i : Int) g)) who6 (m + 5)) := Mt.below HMwm.out hbn
          have HXwn : Hid (Below wm.heap.size wm wn) := hbn
          have HFwnb17 : Hid (Fb who6 wn b17 #[.int .i64 0, .int .i64 0, .slice none 0 0]) := by rw [hwn, hb17]; exact Fb.new HMwm.out _ _
          have HFwnb11 : Hid (Fb who6 wn b11 #[.int .i64 0, .int .i64 T, .slice none 0 0]) := Fb.below HFwmb11.out hbn
          have HFwnb12 : Hid (Fb who6 wn b12 #[.int .i64 120, .int .i64 0, .slice none 0 0]) := Fb.below HFwmb12.out hbn
          have HFwnb13 : Hid (Fb who6 wn b13 #[.int .i64 3, .int .i64 0, .slice none 0 0]) := Fb.below HFwmb13.out hbn
          have HFwnb14 : Hid (Fb who6 wn b14 #[.int .i64 0, .int .i64 0, .slice none 0 0]) := Fb.below HFwmb14.out hbn
          have HFwnb15 : Hid (Fb who6 wn b15 #[.int .i64 T, .int .i64 (i : Int), .int .i64 (s.O i : Int), .int .i64 g, .int .i64 (s.E i : Int), .bool true, .string ⟨#[100]⟩]) := Fb.below HFwmb15.out hbn
          clear hbn
          go_upto_region 18 with fail
          rw [← hwn]
          try rw [← hb17]
          clear hwn hb17
          have HOn : Hid (Calls Try.prog 7 #[.pointer (some ⟨B, 0, none⟩), .int .i64 (i : Int)] wn fun e w' => e = .returned (.tuple #[.int .i64 g, .int .i64 ((s.E i : Int) + 1), .int .i64 0]) ∧ Below wn.heap.size wn w') := by
            have h1 := OwnerQ_yes HMwn.out i HI16.out
            have e1 : (((qs (Sl.give s (i : Int) g)).own.O i : Nat) : Int) = g := HGv.out.2.1
            have e2 : (((qs (Sl.give s (i : Int) g)).own.E i : Nat) : Int) = (s.E i : Int) + 1 := by have := HGv.out.2.2.1; show (((Sl.give s (i : Int) g).E i : Nat) : Int) = _; omega
            rw [e1, e2] at h1
            exact h1
          go_wp2_with fail
          refine Calls.mono (HOn.out) ?_
          rintro e wo ⟨rfl, hbn⟩
          have HMwo : Hid (Mt wo B (qs (Sl.give s (i : Int) g)) who6 (m + 5)) := Mt.below HMwn.out hbn
          have HXwo : Hid (Below wn.heap.size wn wo) := hbn
          have HFwob11 : Hid (Fb who6 wo b11 #[.int .i64 0, .int .i64 T, .slice none 0 0]) := Fb.below HFwnb11.out hbn
          have HFwob12 : Hid (Fb who6 wo b12 #[.int .i64 120, .int .i64 0, .slice none 0 0]) := Fb.below HFwnb12.out hbn
          have HFwob13 : Hid (Fb who6 wo b13 #[.int .i64 3, .int .i64 0, .slice none 0 0]) := Fb.below HFwnb13.out hbn
          have HFwob14 : Hid (Fb who6 wo b14 #[.int .i64 0, .int .i64 0, .slice none 0 0]) := Fb.below HFwnb14.out hbn
          have HFwob15 : Hid (Fb who6 wo b15 #[.int .i64 T, .int .i64 (i : Int), .int .i64 (s.O i : Int), .int .i64 g, .int .i64 (s.E i : Int), .bool true, .string ⟨#[100]⟩]) := Fb.below HFwnb15.out hbn
          have HFwob17 : Hid (Fb who6 wo b17 #[.int .i64 0, .int .i64 0, .slice none 0 0]) := Fb.below HFwnb17.out hbn
          clear hbn
          clear HOn
          have z12 := HFwob12.out.c 0
          have z13 := HFwob13.out.c 0
          have z14 := HFwob14.out.c 0
          have z155 := HFwob15.out.c 5
          have z156 := HFwob15.out.c 6
          have z17 := HFwob17.out.c 0
          simp at z12 z13 z14 z155 z156 z17
          have hwE : IntKind.i64.wrap ((s.E i : Int) + 1) = (s.E i : Int) + 1 := by have := HE.out i HI16.out; rw [IntKind.wrap_i64]; omega
          have HEnd : Hid (Lp w B (10 * (k + 1)) wo) := by
            have h0 : Below w.heap.size w wb := HBw.out.trans ((HXwa.out.trans (HXwb.out.mono HXwa.out.size)).mono HBw.out.size)
            have hz2 : ∀ k, k < w.heap.size → who2 k = 0 := fun k hk => HZwc.out k (Nat.lt_of_lt_of_le hk h0.size) (HZ.out k hk)
            have h1 : Below w.heap.size w wc := HQwc.out.below h0 HZ.out
            have h2 : Below w.heap.size w wd := h1.trans (HXwd.out.mono h1.size)
            have hz3 : ∀ k, k < w.heap.size → who3 k = 0 := fun k hk => HZwe.out k (Nat.lt_of_lt_of_le hk h2.size) (hz2 k hk)
            have h3 : Below w.heap.size w we := HQwe.out.below h2 hz2
            have h4 : Below w.heap.size w wf := h3.trans (HXwf.out.mono h3.size)
            have hz4 : ∀ k, k < w.heap.size → who4 k = 0 := fun k hk => HZwg.out k (Nat.lt_of_lt_of_le hk h4.size) (hz3 k hk)
            have h5 : Below w.heap.size w wg := HQwg.out.below h4 hz3
            have h6 : Below w.heap.size w wh := h5.trans (HXwh.out.mono h5.size)
            have hz5 : ∀ k, k < w.heap.size → who5 k = 0 := fun k hk => HZwi.out k (Nat.lt_of_lt_of_le hk h6.size) (hz4 k hk)
            have h7 : Below w.heap.size w wi := HQwi.out.below h6 hz4
            have h8 : Below w.heap.size w wj := h7.trans (HXwj.out.mono h7.size)
            have h9 : Below w.heap.size w wk := h8.trans (HXwk.out.mono h8.size)
            have h10 : Below w.heap.size w wl := h9.trans (HXwl.out.mono h9.size)
            have hz6 : ∀ k, k < w.heap.size → who6 k = 0 := fun k hk => HZwm.out k (Nat.lt_of_lt_of_le hk h10.size) (hz5 k hk)
            have h11 : Below w.heap.size w wm := HQwm.out.below h10 hz5
            have h12 : Below w.heap.size w wn := h11.trans (HXwn.out.mono h11.size)
            exact ⟨Sl.give s (i : Int) g, who6, Mt.mono HMwo.out (by have := HMm.out; omega), hz6, h12.trans (HXwo.out.mono h12.size), fun j hj => by have := HGv.out.2.2.2 j; have := HE.out j hj; have := HMm.out; omega⟩
          go_wp2
          go_roundw
          case rel => exact ⟨k + 1, by go_num, by omega, by omega, HEnd⟩
          case measure => simp [intOf]; omega
      · have h602 : ¬ (k : Int) < 60 := by omega
        have hin2 : (k : Int) < (n0 : Int) := by omega
        obtain ⟨s, who, hm, hz, hb, hE⟩ := HL.out
        have HO : Hid (Below w.heap.size w wr) := hb
        clear hm hz hb hE
        go_wp2_with fail
        refine (HA.out _).mono ?_
        rintro e w3 ⟨rfl, hb3⟩
        have HB3 : Hid _ := hb3
        clear hb3
        go_wp2
        go_ret
        exact ⟨rfl, HO.out.trans (HB3.out.mono HO.out.size)⟩
    · have hin2 : ¬ (k : Int) < (n0 : Int) := by omega
      obtain ⟨s, who, hm, hz, hb, hE⟩ := HL.out
      have HO : Hid (Below w.heap.size w wr) := hb
      clear hm hz hb hE
      go_wp2_with fail
      refine (HA.out _).mono ?_
      rintro e w3 ⟨rfl, hb3⟩
      have HB3 : Hid _ := hb3
      clear hb3
      go_wp2
      go_ret
      exact ⟨rfl, HO.out.trans (HB3.out.mono HO.out.size)⟩


theorem laidOut : laidOutB Try.prog = true := by kernel_rfl

theorem own : ownKnob Try.prog.godebug = none := by kernel_rfl

set_option maxRecDepth 100000 in
theorem lifted (os : Os) (started : os.Started) (H : Type) (enc : TypeId × Value → H) :
    ReturnsInHanded {} Try.checked os 3 .any (Rows.metaMovesSpec.pre6 enc Try.prog Try.f3 Rows.metaMovesRow.domain false) (Rows.metaMovesSpec.post enc Try.prog Try.f3 false true false false) := by
  refine returnsInHanded_of_change_sized (C := Try.checked) own started (by kernel_rfl) Try.func3
    (ChangeSpec.witness6 (enc := enc) (C := Try.checked) false ⟨#[], #[.slice none 0 0], []⟩ 8 (by kernel_rfl) (by kernel_rfl) (by kernel_rfl) (by kernel_rfl)) ?_
  intro W base args ds gs before hval0 hW _ hsz0 _
  have hsz : (DataW.weightsEach Try.prog (Try.f3.params.toList ++ Rows.metaMovesSpec.plain.varTypes Try.prog) (ds ++ gs)).all (· ≤ reachBytes) = true := hsz0
  have hval : ∀ (j : Nat) t v, Try.f3.params[j]? = some t → args[j]? = some v → Value.okWide Try.prog W .any base t v := hval0
  have hW' := hW
  obtain ⟨p, q, hA0, hV, rfl, hfz, hnd⟩ := hW
  have hA : DataW.TrodAll enc Try.prog W 0 (fun _ => true) true Try.f3.params.toList args.toList ds p := hA0
  rw [Try.params3] at hA hval hsz
  obtain ⟨v0, vs0, d0, ds0, p0, q0, hargs, rfl, rfl, h0, r0⟩ := trodAll_cons hA
  obtain ⟨rfl, rfl, rfl⟩ := trodAll_nil r0
  obtain rfl : args = #[v0] := by cases args; simp_all
  obtain ⟨rfl, rfl⟩ := trodVars_none hV
  have k0 := h0
  have lt0 : ∀ x ∈ p0, x.block < W.heap.size := by obtain ⟨m, hm⟩ := k0; exact DataW.trod_lt m _ _ _ hm
  obtain ⟨a0, b0⟩ := open_a2s (hval 0 22 v0 rfl rfl) h0
  clear hA0 hval0 hsz0
  refine (walk v0 a0 W b0).mono fun e W' ⟨he, bel⟩ => ?_
  subst he
  exact ⟨_, rfl, _, _, _, [], _, [], hW', trodAll_mk1 (shut_bool Try.underlying4 _), (trodAll_cons_mk (Below.trod laidOut (by kernel_rfl) (of_decide_eq_true (by kernel_rfl)) k0 bel lt0) trodAll_mk0), rfl, bel.frame _, fun h => by cases h⟩

theorem over : Rows.metaMovesRow.holds Try.pinned (OpenSpec.ofChange Rows.metaMovesSpec) :=
  OpenClaim.holds_of_wide 3 Try.f3 rfl rfl rfl rfl rfl rfl rfl ⟨rfl, rfl, rfl, rfl, rfl⟩ rfl rfl rfl rfl rfl (by kernel_rfl) Try.func3 (by kernel_rfl)
    (of_decide_eq_true (by kernel_rfl)) (by unfold Func.isWrapper; first | (rw [if_pos (by decide +kernel)]; kernel_rfl) | (rw [if_neg (by decide +kernel)]; exact ⟨rfl, rfl⟩))
    (fun os started H enc _ => lifted os started H enc)


end Go.Proofs.Ytepbmfjimppgcaa.metaMoves
namespace Go.Proofs.Ytepbmfjimppgcaa
/-- The statement. -/
theorem metaMoves_holds : Rows.MetaMovesSaid := metaMoves.over
end Go.Proofs.Ytepbmfjimppgcaa
