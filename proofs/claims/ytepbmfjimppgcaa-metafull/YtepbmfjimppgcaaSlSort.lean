/-
  slices.Sort of up to seven numbers.
-/
import Derived.Test.YtepbmfjimppgcaaSlMem
import Derived.Deep.RegionHeld
import Derived.Deep.QuietTactic
import Derived.BigQuiet
import Derived.StillTailTactics
import Derived.Deep.RegionHeld3
namespace Go.Proofs.Ytepbmfjimppgcaa
open Go.RowKit

/-- Numbers in a block that may be written. -/
structure Row7 (w : World) (g : Nat) (l : List Int) (X : World) : Prop where
  kept : KeptB g (fun _ => False) w X
  lt : g < X.heap.size
  c : ∀ (j : Nat) x, l[j]? = some x → X.cell? ⟨g, j, none⟩ = some (.int .i64 x)
  f : ∀ j, j < l.length → X.frozen? ⟨g, j, none⟩ = false

theorem Row7.below {w X Y : World} {g : Nat} {l : List Int} (h : Row7 w g l X) (hb : Below X.heap.size X Y) : Row7 w g l Y :=
  ⟨h.kept.trans (KeptB.ofBelow (own := fun _ => False) hb) (fun _ _ e => e), Nat.lt_of_lt_of_le h.lt hb.size, fun j x hx => (hb.cell (p := ⟨g, j, none⟩) h.lt).trans (h.c j x hx), fun j hj => (hb.frozen (p := ⟨g, j, none⟩) h.lt).trans (h.f j hj)⟩
theorem Row7.set {w X : World} {g : Nat} {l : List Int} (h : Row7 w g l X) (o : Nat) (v : Int) (ho : o < l.length) : Row7 w g (l.set o v) (X.setCell ⟨g, o, none⟩ (.int .i64 v)) := by
  have hx := h.c o _ (List.getElem?_eq_getElem ho)
  refine ⟨h.kept.setCell ⟨g, o, none⟩ (.inl rfl) _, by rw [sl_size_set6]; exact h.lt, fun j x hx' => ?_, fun j hj => by rw [World.frozen?_setCell]; exact h.f j (by simpa using hj)⟩
  rw [sl_cell_set6 _ hx j]
  by_cases e : j = o
  · subst e
    rw [if_pos rfl]
    rw [List.getElem?_set_self ho] at hx'
    injection hx' with e
    rw [e]
  · rw [if_neg e]
    rw [List.getElem?_set_ne (fun q => e q.symm)] at hx'
    exact h.c j x hx'

def sortedTo (l : List Int) (i : Nat) : Prop := ∀ a b x y, a < b → b < i → l[a]? = some x → l[b]? = some y → x ≤ y
/-- Sorted up to i, but for the one at j, which is no more than those behind it. -/
def sortedBut (l : List Int) (i j : Nat) : Prop := (∀ a b x y, a < b → b ≤ i → a ≠ j → b ≠ j → l[a]? = some x → l[b]? = some y → x ≤ y) ∧ ∀ b y z, j < b → b ≤ i → l[j]? = some z → l[b]? = some y → z ≤ y

/-- Two neighbours change places. -/
def swap2 (l : List Int) (m : Nat) (x y : Int) : List Int := (l.set (m + 1) x).set m y
theorem swap2_at {l : List Int} {m : Nat} {x y : Int} (hx : l[m]? = some x) (hy : l[m + 1]? = some y) (k : Nat) : (swap2 l m x y)[k]? = if k = m then some y else if k = m + 1 then some x else l[k]? := by
  have h1 := (List.getElem?_eq_some_iff.1 hx).1
  have h2 := (List.getElem?_eq_some_iff.1 hy).1
  unfold swap2
  by_cases e : k = m
  · subst e
    rw [if_pos rfl, List.getElem?_set_self (by rw [List.length_set]; exact h1)]
  · rw [if_neg e, List.getElem?_set_ne (fun q => e q.symm)]
    by_cases e2 : k = m + 1
    · subst e2
      rw [if_pos rfl, List.getElem?_set_self h2]
    · rw [if_neg e2, List.getElem?_set_ne (fun q => e2 q.symm)]
theorem swap2_perm {l : List Int} {m : Nat} {x y : Int} (hx : l[m]? = some x) (hy : l[m + 1]? = some y) : (swap2 l m x y).Perm l := by
  have h1 := (List.getElem?_eq_some_iff.1 hx).1
  have h2 := (List.getElem?_eq_some_iff.1 hy).1
  have e1 : l[m] = x := (List.getElem?_eq_some_iff.1 hx).2
  have e2 : l[m + 1] = y := (List.getElem?_eq_some_iff.1 hy).2
  have hl : l = l.take m ++ x :: y :: l.drop (m + 2) := by
    rw [← e1, ← e2, ← List.drop_eq_getElem_cons h2, ← List.drop_eq_getElem_cons h1, List.take_append_drop]
  have hs : swap2 l m x y = l.take m ++ y :: x :: l.drop (m + 2) := by
    have ht : (l.take m).length = m := by rw [List.length_take]; omega
    unfold swap2
    conv => lhs; rw [hl]
    rw [List.set_append, if_neg (by omega), ht, List.set_append, if_neg (by omega), ht]
    simp
  rw [hs]
  conv => rhs; rw [hl]
  exact List.Perm.append_left _ (List.Perm.swap _ _ _)

theorem swap2_len {l : List Int} {m : Nat} {x y : Int} : (swap2 l m x y).length = l.length := by unfold swap2; simp

theorem sortedBut_swap {l : List Int} {i m : Nat} {x y : Int} (h : sortedBut l i (m + 1)) (hi : m + 1 ≤ i) (hx : l[m]? = some x) (hy : l[m + 1]? = some y) (hlt : y < x) : sortedBut (swap2 l m x y) i m := by
  refine ⟨fun a b u v hab hbi ha hb hu hv => ?_, fun b v z hb hbi hz hv => ?_⟩
  · rw [swap2_at hx hy, if_neg ha] at hu
    rw [swap2_at hx hy, if_neg hb] at hv
    by_cases ea : a = m + 1
    · rw [if_pos ea] at hu
      injection hu with hu
      subst hu
      rw [if_neg (by omega)] at hv
      exact h.1 m b x v (by omega) hbi (by omega) (by omega) hx hv
    · rw [if_neg ea] at hu
      by_cases eb : b = m + 1
      · rw [if_pos eb] at hv
        injection hv with hv
        subst hv
        exact h.1 a m u x (by omega) (by omega) ea (by omega) hu hx
      · rw [if_neg eb] at hv
        exact h.1 a b u v hab hbi ea eb hu hv
  · rw [swap2_at hx hy, if_pos rfl] at hz
    injection hz with hz
    subst hz
    rw [swap2_at hx hy, if_neg (by omega)] at hv
    by_cases eb : b = m + 1
    · rw [if_pos eb] at hv
      injection hv with hv
      omega
    · rw [if_neg eb] at hv
      exact h.2 b v y (by omega) hbi hy hv
theorem sortedBut_first {l : List Int} {i : Nat} (h : sortedBut l i 0) : sortedTo l (i + 1) := by
  intro a b x y hab hb hx hy
  by_cases e : a = 0
  · subst e
    exact h.2 b y x hab (by omega) hx hy
  · exact h.1 a b x y hab (by omega) e (by omega) hx hy
theorem sortedBut_stop {l : List Int} {i m : Nat} {x y : Int} (h : sortedBut l i (m + 1)) (hx : l[m]? = some x) (hy : l[m + 1]? = some y) (hlt : ¬ y < x) : sortedTo l (i + 1) := by
  intro a b u v hab hb hu hv
  by_cases ea : a = m + 1
  · subst ea
    exact h.2 b v u hab (by omega) hu hv
  · by_cases eb : b = m + 1
    · subst eb
      rw [hy] at hv
      injection hv with hv
      subst hv
      by_cases em : a = m
      · subst em
        rw [hx] at hu
        injection hu with hu
        omega
      · have := h.1 a m u x (by omega) (by omega) (by omega) (by omega) hu hx
        omega
    · exact h.1 a b u v hab (by omega) ea eb hu hv
theorem sortedTo_but {l : List Int} {i : Nat} (h : sortedTo l i) : sortedBut l i i :=
  ⟨fun a b x y hab hb ha hb' hx hy => h a b x y hab (by omega) hx hy, fun b y z h1 h2 => by omega⟩

theorem Less_c (w : World) (a b : Int) : Calls Try.prog 88 #[.int .i64 a, .int .i64 b] w fun e w' => e = .returned (.bool (decide (a < b))) ∧ w' = w := by
  have h1 : (a != a) = false := by simp
  go_enter Try.func88, Try.ntmps88
  go_wp2
  go_ret
  exact ⟨rfl, rfl⟩

set_option maxHeartbeats 1600000 in
set_option maxRecDepth 20000 in
theorem insSort_c (w : World) (g c : Nat) (l0 : List Int) (hn : 1 ≤ l0.length ∧ l0.length ≤ 7) (h : Row7 w g l0 w) :
    Calls Try.prog 82 #[.slice (some ⟨g, 0, none⟩) l0.length c, .int .i64 0, .int .i64 (l0.length : Int)] w fun e w' => e = .returned (.tuple #[]) ∧ ∃ l, Row7 w g l w' ∧ l.Perm l0 ∧ sortedTo l l0.length := by
  obtain ⟨n, hnl⟩ : ∃ n, n = l0.length := ⟨_, rfl⟩
  rw [← hnl] at hn ⊢
  have HP : Hid (∀ l : List Int, l.Perm l0 → l.length = n) := fun l hp => by rw [hp.length_eq, hnl]
  have HR0 : Hid (Row7 w g l0 w) := h
  have HLs : Hid (∀ a b X, Calls Try.prog 88 #[.int .i64 a, .int .i64 b] X fun e w' => e = .returned (.bool (decide (a < b))) ∧ w' = X) := fun a b X => Less_c X a b
  have HS0 : Hid (sortedTo l0 1) := fun a b x y h1 h2 => by omega
  clear hnl h
  go_enter Try.func82, Try.ntmps82
  go_wp2
  go_loopw [6] (fun v wr => ∃ (i : Nat) (l : List Int), v = .int .i64 (i : Int) ∧ 1 ≤ i ∧ i ≤ n ∧ Hid (Row7 w g l wr) ∧ Hid (l.Perm l0) ∧ Hid (sortedTo l i)) (fun v _ => n - (intOf v).toNat)
  case atStart => exact ⟨1, l0, rfl, by omega, by omega, HR0, List.Perm.refl _, HS0⟩
  case round =>
    clear HR0 HS0
    obtain ⟨i, l1, rfl, hi1, hin, HR, HPm, HSt⟩ := hrel
    by_cases hlt : i < n
    · have HSb : Hid (sortedBut l1 i i) := sortedTo_but HSt.out
      clear HSt
      go_wp2
      go_loopw [7] (fun v wr => ∃ (j : Nat) (l : List Int), v = .int .i64 (j : Int) ∧ j ≤ i ∧ Hid (Row7 w g l wr) ∧ Hid (l.Perm l0) ∧ Hid (sortedBut l i j)) (fun v _ => (intOf v).toNat)
      case atStart => exact ⟨i, l1, rfl, by omega, HR, HPm, HSb⟩
      case round =>
        clear HR HPm HSb
        obtain ⟨j, l, rfl, hji, HR, HPm, HSb⟩ := hrel
        by_cases hj : j = 0
        · subst hj
          have HST : Hid (sortedTo l (i + 1)) := sortedBut_first HSb.out
          go_wp2
          go_quiet (fail)
          go_wp2
          have HR' : Hid _ := HR.out.below (sl_below_drewN _ nq)
          go_roundw
          case rel => exact ⟨i + 1, l, by go_num, by omega, by omega, HR', HPm, HST⟩
          case measure => simp [intOf]; omega
        · obtain ⟨m, rfl⟩ : ∃ m, j = m + 1 := ⟨j - 1, by omega⟩
          have hll := HP.out l HPm.out
          obtain ⟨x, hx⟩ : ∃ x, l[m]? = some x := ⟨_, List.getElem?_eq_getElem (by omega)⟩
          obtain ⟨y, hy⟩ : ∃ y, l[m + 1]? = some y := ⟨_, List.getElem?_eq_getElem (by omega)⟩
          have cx := HR.out.c m x hx
          have cy := HR.out.c (m + 1) y hy
          have fx := HR.out.f m (by omega)
          have fy := HR.out.f (m + 1) (by omega)
          have HX : Hid (l[m]? = some x) := hx
          have HY : Hid (l[m + 1]? = some y) := hy
          have HL2 : Hid (∀ n, Calls Try.prog 88 #[.int .i64 y, .int .i64 x] (wr.drewN n) fun e w' => e = .returned (.bool (decide (y < x))) ∧ w' = wr.drewN n) := fun n => HLs.out y x _
          have hw1 : IntKind.i64.wrap ((m : Int) + 1 - 1) = (m : Int) := by rw [IntKind.wrap_i64]; omega
          have hw2 : IntKind.i64.wrap (m : Int) = (m : Int) := by rw [IntKind.wrap_i64]; omega
          have i1 : (m : Int) < (n : Int) := by omega
          have i2 : (m : Int) + 1 < (n : Int) := by omega
          clear hx hy hj hll
          by_cases hyx : y < x
          · have hd : decide (y < x) = true := decide_eq_true hyx
            rw [hd] at HL2
            have HSb' : Hid (sortedBut (swap2 l m x y) i m) := sortedBut_swap HSb.out (by omega) HX.out HY.out hyx
            have HPm' : Hid ((swap2 l m x y).Perm l0) := (swap2_perm HX.out HY.out).trans HPm.out
            have HRn : Hid (∀ X, Row7 w g l X → Row7 w g (swap2 l m x y) ((X.setCell ⟨g, m + 1, none⟩ (.int .i64 x)).setCell ⟨g, m, none⟩ (.int .i64 y))) := fun X hX => by
              have h1 := (List.getElem?_eq_some_iff.1 HY.out).1
              exact (hX.set (m + 1) x h1).set m y (by rw [List.length_set]; omega)
            clear hd hyx HSb HPm
            go_wp2
            go_quiet (first | (go_at_call 88; exact Calls.quiet_of_same (HL2.out _)))
            go_wp2
            go_region
            go_wp2
            exact ⟨⟨m, swap2 l m x y, rfl, by omega, HRn.out _ (HR.out.below (sl_below_drewN _ _)), HPm', HSb'⟩, by simp [intOf]⟩
          · have hd : decide (y < x) = false := decide_eq_false hyx
            rw [hd] at HL2
            have HST : Hid (sortedTo l (i + 1)) := sortedBut_stop HSb.out HX.out HY.out hyx
            clear hd hyx HSb
            go_wp2
            go_quiet (first | (go_at_call 88; exact Calls.quiet_of_same (HL2.out _)))
            go_wp2
            have HR' : Hid _ := HR.out.below (sl_below_drewN _ nq)
            go_roundw
            case rel => exact ⟨i + 1, l, by go_num, by omega, by omega, HR', HPm, HST⟩
            case measure => simp [intOf]; omega
    · have hin' : i = n := by omega
      have HIN : Hid (i = n) := hin'
      clear hin'
      go_wp2
      refine bodyPost_end (v := .tuple #[]) (by simp [results, Try.results82]) rfl ⟨rfl, l1, HR.out, HPm.out, ?_⟩
      rw [← HIN.out]
      exact HSt.out

set_option maxRecDepth 20000 in
theorem pdq_c (w : World) (g c : Nat) (d : Int) (l0 : List Int) (hn : 1 ≤ l0.length ∧ l0.length ≤ 7) (h : Row7 w g l0 w) :
    Calls Try.prog 76 #[.slice (some ⟨g, 0, none⟩) l0.length c, .int .i64 0, .int .i64 (l0.length : Int), .int .i64 d] w fun e w' => e = .returned (.tuple #[]) ∧ ∃ l, Row7 w g l w' ∧ l.Perm l0 ∧ sortedTo l l0.length := by
  have HI : Hid _ := insSort_c w g c l0 hn h
  obtain ⟨n, hnl⟩ : ∃ n, n = l0.length := ⟨_, rfl⟩
  rw [← hnl] at hn HI ⊢
  have hw : IntKind.i64.wrap (n : Int) = (n : Int) := by rw [IntKind.wrap_i64]; omega
  have h12 : (n : Int) ≤ 12 := by omega
  clear hnl h
  go_enter Try.func76, Try.ntmps76
  go_wp2
  go_loopw [1, 2] (fun x y wr => x = .int .i64 0 ∧ y = .int .i64 (n : Int) ∧ wr = w) (fun _ _ _ => 0)
  case atStart => exact ⟨rfl, rfl, rfl⟩
  case round =>
    obtain ⟨rfl, rfl, rfl⟩ := hrel
    go_wp2_with fail
    refine Calls.mono HI.out ?_
    rintro e w1 ⟨rfl, hq⟩
    have HQ : Hid _ := hq
    clear hq
    go_wp2
    exact bodyPost_ret (v := .tuple #[]) (by simp [results, Try.results76]) rfl ⟨rfl, HQ.out⟩

set_option maxRecDepth 20000 in
theorem sl_Len_c (w : World) (n : Nat) (hn : 1 ≤ n ∧ n ≤ 7) : Calls Try.prog 77 #[.int .u64 (n : Int)] w fun e w' => (∃ l, e = .returned (.int .i64 l)) ∧ w' = w := by
  have : n = 1 ∨ n = 2 ∨ n = 3 ∨ n = 4 ∨ n = 5 ∨ n = 6 ∨ n = 7 := by omega
  rcases this with rfl | rfl | rfl | rfl | rfl | rfl | rfl <;>
  · go_enter Try.func77, Try.ntmps77
    go_wp2
    go_ret
    exact ⟨⟨_, rfl⟩, rfl⟩

set_option maxRecDepth 20000 in
theorem Sort_c (w : World) (g c : Nat) (l0 : List Int) (hn : 1 ≤ l0.length ∧ l0.length ≤ 7) (h : Row7 w g l0 w) :
    Calls Try.prog 70 #[.slice (some ⟨g, 0, none⟩) l0.length c] w fun e w' => e = .returned (.tuple #[]) ∧ ∃ l, Row7 w g l w' ∧ l.Perm l0 ∧ sortedTo l l0.length := by
  have HI : Hid (∀ d, _) := fun d => pdq_c w g c d l0 hn h
  have HL : Hid _ := sl_Len_c w l0.length hn
  obtain ⟨n, hnl⟩ : ∃ n, n = l0.length := ⟨_, rfl⟩
  rw [← hnl] at hn HI HL ⊢
  have hw : IntKind.u64.wrap (n : Int) = (n : Int) := by show _ = _; rw [IntKind.wrap]; simp [IntKind.bits, IntKind.signed]; omega
  clear hnl h
  go_enter Try.func70, Try.ntmps70
  go_wp2_with fail
  refine Calls.mono HL.out ?_
  rintro e w1 ⟨⟨l, rfl⟩, hw⟩
  subst hw
  go_wp2_with fail
  refine Calls.mono (HI.out l) ?_
  rintro e w1 ⟨rfl, hq⟩
  have HQ : Hid _ := hq
  clear hq
  go_wp2
  exact bodyPost_end (v := .tuple #[]) (by simp [results, Try.results70]) rfl ⟨rfl, HQ.out⟩

end Go.Proofs.Ytepbmfjimppgcaa
