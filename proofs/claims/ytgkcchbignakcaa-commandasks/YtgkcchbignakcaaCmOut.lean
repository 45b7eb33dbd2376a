/-
  The document's writer: numbers, texts, truths, an op.
-/
import Derived.Deep.MidRow
import Derived.Test.YtgkcchbignakcaaCmCalls
namespace Go.Proofs.Ytgkcchbignakcaa
open Go.RowKit

/-- The document's writer in block B, made in a call that began at w0: the bytes so far, or that it is spoilt; n fields at most. -/
def Ro (w0 : World) (B : Nat) (n : Nat) (x : Option (List UInt8)) (g : Option Nat) (w : World) : Prop :=
  ∃ v l b, w.heap[B]? = some (.cells #[v, .bool b] 65 (0, 0)) ∧ OwnB w 0 5 v l ∧ v.ownBlock = g ∧ (∀ k, g = some k → w0.heap.size ≤ k ∧ k ≠ B) ∧ l.length ≤ n * 300000 ∧ w0.heap.size ≤ B ∧ Below w0.heap.size w0 w ∧ (x = if b then none else some l)

/-- One more piece. -/
def cat (x y : Option (List UInt8)) : Option (List UInt8) := match x, y with
  | some a, some b => some (a ++ b)
  | _, _ => none
def catF (x : Option (List UInt8)) : List (Cm.K × Cm.V) → Option (List UInt8)
  | [] => x
  | p :: r => catF (cat x (Cm.enc1 p.1 p.2)) r
theorem cat_none (y : Option (List UInt8)) : cat none y = none := by cases y <;> rfl
theorem cat_no (x : Option (List UInt8)) : cat x none = none := by cases x <;> rfl
theorem catF_none : ∀ l : List (Cm.K × Cm.V), catF none l = none
  | [] => rfl
  | p :: r => by rw [catF, cat_none, catF_none r]
theorem catF_some : ∀ (l : List (Cm.K × Cm.V)) (a : List UInt8), catF (some a) l = cat (some a) (Cm.enc l)
  | [], a => by simp [catF, cat, Cm.enc]
  | (k, v) :: r, a => by
    rw [catF, Cm.enc]
    cases Cm.enc1 k v with
    | none => simp only [cat]; exact catF_none r
    | some b =>
      simp only [cat]
      rw [catF_some r (a ++ b)]
      cases Cm.enc r with
      | none => rfl
      | some c => simp only [cat, List.append_assoc]
theorem catF_app : ∀ (l m : List (Cm.K × Cm.V)) (x : Option (List UInt8)), catF x (l ++ m) = catF (catF x l) m
  | [], _, _ => rfl
  | p :: r, m, x => by rw [List.cons_append, catF, catF, catF_app r m]

/-- What a call on the writer leaves. -/
def RoO (w0 : World) (B : Nat) (n : Nat) (x : Option (List UInt8)) (g : Option Nat) (w w' : World) : Prop :=
  ∃ g', Ro w0 B n x g' w' ∧ KeptO (WrO B g) w w' ∧ ∀ k, g' = some k → g = some k ∨ w.heap.size ≤ k

theorem Ro.read {w0 w : World} {B n : Nat} {x : Option (List UInt8)} {g : Option Nat} (h : Ro w0 B n x g w) : ∃ v l b, w.cell? ⟨B, 0, none⟩ = some v ∧ w.cell? ⟨B, 1, none⟩ = some (.bool b) ∧ w.frozen? ⟨B, 0, none⟩ = false ∧ w.frozen? ⟨B, 1, none⟩ = false ∧ OwnB w 0 5 v l ∧ v.ownBlock = g ∧ l.length ≤ n * 300000 ∧ (x = if b then none else some l) := by
  obtain ⟨v, l, b, hh, ho, hv, hg, hl, h0, hb, hx⟩ := h
  exact ⟨v, l, b, by rw [Lib.cell_of_heap hh]; rfl, by rw [Lib.cell_of_heap hh]; rfl, by simp [World.frozen?, hh], by simp [World.frozen?, hh], ho, hv, hl, hx⟩
theorem Ro.below {w0 w : World} {B n : Nat} {x : Option (List UInt8)} {g : Option Nat} (h : Ro w0 B n x g w) : Below w0.heap.size w0 w := by
  obtain ⟨v, l, b, hh, ho, hv, hg, hl, h0, hb, hx⟩ := h
  exact hb
theorem Ro.more {w0 w : World} {B n m : Nat} {x : Option (List UInt8)} {g : Option Nat} (h : Ro w0 B n x g w) (hm : n ≤ m) : Ro w0 B m x g w := by
  obtain ⟨v, l, b, hh, ho, hv, hg, hl, h0, hb, hx⟩ := h
  exact ⟨v, l, b, hh, ho, hv, hg, Nat.le_trans hl (Nat.mul_le_mul_right _ hm), h0, hb, hx⟩
theorem Ro.lt {w0 w : World} {B n : Nat} {x : Option (List UInt8)} {g : Option Nat} (h : Ro w0 B n x g w) : B < w.heap.size ∧ ∀ k, g = some k → k < w.heap.size := by
  obtain ⟨v, l, b, hh, ho, hv, hg, hl, h0, hb, hx⟩ := h
  refine ⟨?_, fun k hk => ho.lt k (hv.trans hk)⟩
  rcases Nat.lt_or_ge B w.heap.size with y | y
  · exact y
  · rw [Array.getElem?_eq_none y] at hh; cases hh
theorem Ro.spoil {w0 w : World} {B n : Nat} {x : Option (List UInt8)} {g : Option Nat} (h : Ro w0 B n x g w) : RoO w0 B (n + 1) none g w (w.setCell ⟨B, 1, none⟩ (.bool true)) := by
  obtain ⟨v, l, b, hh, ho, hv, hg, hl, h0, hb, -⟩ := h
  refine ⟨g, ⟨v, l, true, by rw [heap_setCell_same _ _ _ _ _ _ hh]; simp, ho.kept (fun k hk _ => Below.heap_setCell _ _ _ _ (hg k (hv.symm.trans hk)).2), hv, hg, Nat.le_trans hl (Nat.mul_le_mul_right _ (Nat.le_succ n)), h0, hb.setCell h0 _, rfl⟩, (KeptO.refl _ w).setCell (p := ⟨B, 1, none⟩) (fun _ => .inl rfl) _, fun k hk => .inl hk⟩
theorem Ro.calm {w0 w w1 : World} {B n : Nat} {x : Option (List UInt8)} {g : Option Nat} (h : Ro w0 B n x g w) (hb : Below w.heap.size w w1) : Ro w0 B n x g w1 := by
  have hlt := h.lt.1
  obtain ⟨va, la, ba, hha, hoa, hv, hga, hla, h0a, hba, hxa⟩ := h
  exact ⟨va, la, ba, by rw [hb.block B hlt]; exact hha, hoa.kept (fun j _ hj => hb.block j hj), hv, hga, hla, h0a, hba.trans ⟨hb.os, hb.tape, hb.output, hb.size, fun j hj => hb.block j (by have := hba.size; omega)⟩, hxa⟩
theorem RoO.from {w0 w w1 w2 : World} {B n : Nat} {x : Option (List UInt8)} {g : Option Nat} (hb : Below w.heap.size w w1) (h : RoO w0 B n x g w1 w2) : RoO w0 B n x g w w2 := by
  obtain ⟨g', a, b, c⟩ := h
  refine ⟨g', a, (KeptO.of_below hb).trans b (fun _ _ y => y), fun k hk => ?_⟩
  rcases c k hk with y | y
  · exact .inl y
  · exact .inr (Nat.le_trans hb.size y)
theorem RoO.then {w0 w w1 w2 : World} {B n : Nat} {x : Option (List UInt8)} {g g1 : Option Nat} (hk : KeptO (WrO B g) w w1) (hg : ∀ k, g1 = some k → g = some k ∨ w.heap.size ≤ k) (h : RoO w0 B n x g1 w1 w2) : RoO w0 B n x g w w2 := by
  obtain ⟨g', a, b, c⟩ := h
  refine ⟨g', a, hk.trans b (WrO.mono_lt hg), fun k hk2 => ?_⟩
  rcases c k hk2 with y | y
  · exact hg k y
  · exact .inr (Nat.le_trans hk.size y)

/-- Bytes behind the row: a world in which the row has grown, the cell told anew. -/
theorem Ro.grow {w0 w w2 : World} {B n : Nat} {x : Option (List UInt8)} {g : Option Nat} (h : Ro w0 B n x g w) {v : Value} {l : List UInt8} {b : Bool} (hc0 : w.cell? ⟨B, 0, none⟩ = some v) (hc1 : w.cell? ⟨B, 1, none⟩ = some (.bool b)) (hv : v.ownBlock = g) (hx : x = if b then none else some l) (hl : l.length ≤ n * 300000) {bs : List UInt8} {v' : Value} (ho2 : OwnB w2 0 5 v' (l ++ bs)) (hg2 : w.grownBy w2 v.ownBlock) (hn2 : ∀ k, v'.ownBlock = some k → v.ownBlock = some k ∨ w.heap.size ≤ k) (hbs : bs.length ≤ 300000) :
    w2.cell? ⟨B, 0, none⟩ = some v ∧ w2.frozen? ⟨B, 0, none⟩ = false ∧ RoO w0 B (n + 1) (cat x (some bs)) g w (w2.setCell ⟨B, 0, none⟩ v') := by
  have hB := h.lt.1
  obtain ⟨v1, l1, b1, hh, ho, -, hg, -, h0, hb, -⟩ := h
  have e0 : some v1 = some v := by rw [← hc0, Lib.cell_of_heap hh]; rfl
  have e1 : some (Value.bool b1) = some (.bool b) := by rw [← hc1, Lib.cell_of_heap hh]; rfl
  injection e0 with e0
  injection e1 with e1
  injection e1 with e1
  subst e0 e1 hv
  have hb2 : w2.heap[B]? = some (.cells #[v1, .bool b1] 65 (0, 0)) := by
    rw [hg2.block B hB (fun e => (hg B e.symm).2 rfl)]; exact hh
  have hne : ∀ k, v'.ownBlock = some k → k ≠ B := fun k hk => by
    rcases hn2 k hk with y | y
    · exact (hg k y).2
    · omega
  have hk : KeptO (WrO B v1.ownBlock) w w2 := ⟨hg2.os, hg2.tape, hg2.output, hg2.size, fun k hk hn => hg2.block k hk (fun e => hn (.inr e.symm))⟩
  refine ⟨by rw [Lib.cell_of_heap hb2]; rfl, by simp [World.frozen?, hb2], v'.ownBlock, ⟨v', l ++ bs, b1, by rw [heap_setCell_same _ _ _ _ _ _ hb2]; simp, ho2.kept (fun k hk _ => Below.heap_setCell _ _ _ _ (hne k hk)), rfl, fun k hk => ⟨?_, hne k hk⟩, by rw [List.length_append]; omega, h0, ?_, ?_⟩, hk.setCell (p := ⟨B, 0, none⟩) (fun _ => .inl rfl) _, hn2⟩
  · rcases hn2 k hk with y | y
    · exact (hg k y).1
    · have := hb.size
      omega
  · refine Below.setCell ?_ h0 _
    exact hb.trans ⟨hg2.os, hg2.tape, hg2.output, hg2.size, fun k hk => hg2.block k (by have := hb.size; omega) (fun e => by have := (hg k e.symm).1; omega)⟩
  · rw [hx]
    cases b1 <;> rfl

theorem Ro.fresh {w0 w : World} (hb : Below w0.heap.size w0 w) (m : UInt8) : Ro w0 (w.heap.size + 1) 1 (some [m]) (some w.heap.size) ((w.alloc (.cells #[.int .u8 (m.toNat : Int)] 5)).alloc (.cells #[.slice (some ⟨w.heap.size, 0, none⟩) 1 1, .bool false] 65)) := by
  have hsz : (w.alloc (.cells #[.int .u8 (m.toNat : Int)] 5)).heap.size = w.heap.size + 1 := by simp
  have h1 : ((w.alloc (.cells #[.int .u8 (m.toNat : Int)] 5)).alloc (.cells #[.slice (some ⟨w.heap.size, 0, none⟩) 1 1, .bool false] 65)).heap[w.heap.size + 1]? = some (.cells #[.slice (some ⟨w.heap.size, 0, none⟩) 1 1, .bool false] 65 (0, 0)) := by
    have := heap_alloc_new (w.alloc (.cells #[.int .u8 (m.toNat : Int)] 5)) (.cells #[.slice (some ⟨w.heap.size, 0, none⟩) 1 1, .bool false] 65)
    rw [hsz] at this
    exact this
  have h2 : ((w.alloc (.cells #[.int .u8 (m.toNat : Int)] 5)).alloc (.cells #[.slice (some ⟨w.heap.size, 0, none⟩) 1 1, .bool false] 65)).heap[w.heap.size]? = some (.cells #[.int .u8 (m.toNat : Int)] 5 (0, 0)) := by
    rw [Below.heap_alloc _ _ _ (by rw [hsz]; omega)]
    exact heap_alloc_new _ _
  have h0 := hb.size
  refine ⟨_, [m], false, h1, ⟨rfl, .inr ⟨w.heap.size, 1, #[.int .u8 (m.toNat : Int)], rfl, Nat.zero_le _, h2, by simp, by unfold maxLen; omega, by simp, by simp [Lib.byteCells]⟩⟩, rfl, ?_, by simp, by omega, (hb.alloc h0 _).alloc (by rw [hsz]; omega) _, rfl⟩
  intro k hk
  injection hk with hk
  omega

set_option maxHeartbeats 1000000 in
set_option maxRecDepth 100000 in
theorem out_num {w0 w : World} {B n : Nat} {x : Option (List UInt8)} {g : Option Nat} (h : Ro w0 B n x g w) (v : Int) (hn : n < 10000) :
    Calls Try.prog 31 #[.pointer (some ⟨B, 0, none⟩), .int .i64 v] w fun e w' => e = .returned (.tuple #[]) ∧ RoO w0 B (n + 1) (cat x (Cm.enc1 (.n Cm.mI) (.n v))) g w w' := by
  obtain ⟨r, l, b, c0, c1, z0, z1, ho, hv, hl, hx⟩ := h.read
  have HSP := hidden h.spoil
  by_cases h0 : v < 0
  · have hE : Cm.enc1 (.n Cm.mI) (.n v) = none := by rw [Cm.enc1, if_neg (by omega)]
    rw [hE, cat_no]
    clear h hl hx hv ho hE hn c0
    go_enter Try.func31, Try.ntmps31
    go_wp2
    (try simp only [Exit.inBlock, Exit.then]); refine bodyPost_ret (results_none rfl _ _ _) rfl ?_
    exact ⟨rfl, HSP.out⟩
  · by_cases hm : v ≤ 1099511627776
    · obtain ⟨k, rfl⟩ := Int.eq_ofNat_of_zero_le (Int.not_lt.1 h0)
      have hE : Cm.enc1 (.n Cm.mI) (.n (k : Int)) = some (M.putVar k) := by rw [Cm.enc1, if_pos (by unfold Cm.mI; omega), Int.toNat_natCast]
      rw [hE]
      have hm1 : decide ((1099511627776 : Int) < (k : Int)) = false := decide_eq_false (by omega)
      have hk9 : k < 9223372036854775808 := by omega
      have hlen := M.putVar_length9 hk9
      have HP := hidden (ref_PutVar_yes k w hk9)
      have HG : Hid (∀ (w1 : World) (v' : Value) (w2 : World), Below w.heap.size w w1 → OwnB w2 0 5 v' (l ++ M.putVar k) → w1.grownBy w2 r.ownBlock → (∀ j, v'.ownBlock = some j → r.ownBlock = some j ∨ w1.heap.size ≤ j) → w2.cell? ⟨B, 0, none⟩ = some r ∧ w2.frozen? ⟨B, 0, none⟩ = false ∧ RoO w0 B (n + 1) (cat x (some (M.putVar k))) g w (w2.setCell ⟨B, 0, none⟩ v')) := fun w1 v' w2 hb ho2 hg2 hn2 => by
        have hlt : B < w.heap.size := h.lt.1
        obtain ⟨a1, a2, a3⟩ := (h.calm hb).grow (by rw [hb.cell (p := ⟨B, 0, none⟩) hlt]; exact c0) (by rw [hb.cell (p := ⟨B, 1, none⟩) hlt]; exact c1) hv hx hl ho2 hg2 hn2 (by omega)
        exact ⟨a1, a2, a3.from hb⟩
      have HW : Hid (∀ w1, Below w.heap.size w w1 → w1.cell? ⟨B, 0, none⟩ = some r ∧ OwnB w1 0 5 r l) := fun w1 hb => ⟨by rw [hb.cell (p := ⟨B, 0, none⟩) (World.block_lt_of_cell? _ _ c0)]; exact c0, ho.kept (fun j _ hj => hb.block j hj)⟩
      have HL : Hid (l.length + (M.putVar k).length ≤ 140737488355328) := show l.length + (M.putVar k).length ≤ 140737488355328 by omega
      have hk0 : ¬ (k : Int) < 0 := by omega
      clear h hl hx hv ho hE hn c0 c1 z0 z1 hm hk9 hlen h0 HSP
      go_enter Try.func31, Try.ntmps31
      go_wp2_with (first
        | (go_at_call 49; refine (HP.out).mono ?_; rintro e w1 ⟨rfl, hb⟩; obtain ⟨c0, ho⟩ := HW.out w1 hb; have HO := hidden ho; have HB := hidden hb; clear ho hb)
        | (at_builtin; refine wpList_append_bytes rfl _ _ 63 9 5 rfl Try.underlying63 info8 0 r l rfl HO.out (.string ⟨(M.putVar k).toArray⟩) (M.putVar k) rfl (Src.ofString _ Try.underlying9 ⟨(M.putVar k).toArray⟩) HL.out (Nat.zero_le _) ?_; intro v' w2 ho2 hg2 hn2; obtain ⟨pp, nn, cc, rfl⟩ := ho2.shape; obtain ⟨d0, dz, hR⟩ := HG.out w1 _ w2 HB.out ho2 hg2 hn2; have HR := hidden hR; clear ho2 hg2 hn2 hR))
      go_end0
      exact ⟨rfl, HR.out⟩
    · have hE : Cm.enc1 (.n Cm.mI) (.n v) = none := by rw [Cm.enc1, if_neg (by unfold Cm.mI; omega)]
      rw [hE, cat_no]
      have hm1 : decide ((1099511627776 : Int) < v) = true := decide_eq_true (by omega)
      clear h hl hx hv ho hE hn c0 hm
      go_enter Try.func31, Try.ntmps31
      go_wp2
      (try simp only [Exit.inBlock, Exit.then]); refine bodyPost_ret (results_none rfl _ _ _) rfl ?_
      exact ⟨rfl, HSP.out⟩

set_option maxHeartbeats 1000000 in
set_option maxRecDepth 100000 in
theorem out_text {w0 w : World} {B n : Nat} {x : Option (List UInt8)} {g : Option Nat} (h : Ro w0 B n x g w) (s : ByteArray) (hn : n < 9000) :
    Calls Try.prog 34 #[.pointer (some ⟨B, 0, none⟩), .string s] w fun e w' => e = .returned (.tuple #[]) ∧ RoO w0 B (n + 2) (cat x (Cm.enc1 .t (.t s))) g w w' := by
  by_cases hm : s.size ≤ 262144
  · have hE : Cm.enc1 .t (.t s) = some (M.putVar s.size ++ s.data.toList) := by rw [Cm.enc1, if_pos (by unfold Cm.mR; exact hm)]
    have hE1 : Cm.enc1 (.n Cm.mI) (.n (s.size : Int)) = some (M.putVar s.size) := by rw [Cm.enc1, if_pos (by unfold Cm.mI; omega), Int.toNat_natCast]
    have hX : cat x (some (M.putVar s.size ++ s.data.toList)) = cat (cat x (some (M.putVar s.size))) (some s.data.toList) := by
      cases x with
      | none => rfl
      | some a => simp only [cat, List.append_assoc]
    rw [hE, hX]
    have hN := out_num h (s.size : Int) (by omega)
    rw [hE1] at hN
    have HN := hidden hN
    have hm1 : decide ((262144 : Int) < (s.size : Int)) = false := decide_eq_false (by omega)
    have hsl : s.data.toList.length = s.size := by rw [Array.length_toList]; rfl
    have HM := hidden hm
    have HNN := hidden hn
    generalize cat x (some (M.putVar s.size)) = y at *
    have HG : Hid (∀ w1, RoO w0 B (n + 1) y g w w1 → ∃ r l, w1.cell? ⟨B, 0, none⟩ = some r ∧ OwnB w1 0 5 r l ∧ Hid (l.length + s.data.toList.length ≤ 140737488355328) ∧ Hid (∀ (v' : Value) (w2 : World), OwnB w2 0 5 v' (l ++ s.data.toList) → w1.grownBy w2 r.ownBlock → (∀ j, v'.ownBlock = some j → r.ownBlock = some j ∨ w1.heap.size ≤ j) → w2.cell? ⟨B, 0, none⟩ = some r ∧ w2.frozen? ⟨B, 0, none⟩ = false ∧ RoO w0 B (n + 2) (cat y (some s.data.toList)) g w (w2.setCell ⟨B, 0, none⟩ v'))) := fun w1 ⟨g1, h1, k1, m1⟩ => by
      obtain ⟨r, l, b, c0, c1, z0, z1, ho, hv, hl, hx⟩ := h1.read
      refine ⟨r, l, c0, ho, show l.length + s.data.toList.length ≤ 140737488355328 by omega, fun v' w2 ho2 hg2 hn2 => ?_⟩
      obtain ⟨a1, a2, a3⟩ := h1.grow c0 c1 hv hx hl ho2 hg2 hn2 (by omega)
      exact ⟨a1, a2, a3.then k1 m1⟩
    clear hE hE1 hX h hN hm hn hsl
    go_enter Try.func34, Try.ntmps34
    go_wp2_with (first
      | (go_at_call 31; refine (HN.out).mono ?_; rintro e w1 ⟨rfl, h1⟩; obtain ⟨r, l, c0, ho, HL, HR⟩ := HG.out w1 h1; have HO := hidden ho; clear ho h1)
      | (at_builtin; refine wpList_append_bytes rfl _ _ 63 9 5 rfl Try.underlying63 info8 0 r l rfl HO.out (.string s) s.data.toList rfl (Src.ofString _ Try.underlying9 s) HL.out (Nat.zero_le _) ?_; intro v' w2 ho2 hg2 hn2; obtain ⟨pp, nn, cc, rfl⟩ := ho2.shape; obtain ⟨d0, dz, hR⟩ := HR.out _ w2 ho2 hg2 hn2; have HR2 := hidden hR; clear ho2 hg2 hn2 hR))
    go_end0
    exact ⟨rfl, HR2.out⟩
  · have hE : Cm.enc1 .t (.t s) = none := by rw [Cm.enc1, if_neg (by unfold Cm.mR; exact hm)]
    rw [hE, cat_no]
    obtain ⟨r, l, b, c0, c1, z0, z1, ho, hv, hl, hx⟩ := h.read
    have HSP : Hid (RoO w0 B (n + 2) none g w (w.setCell ⟨B, 1, none⟩ (.bool true))) := by
      obtain ⟨g1, a, b, c⟩ := h.spoil
      exact ⟨g1, a.more (by omega), b, c⟩
    have hm1 : decide ((262144 : Int) < (s.size : Int)) = true := decide_eq_true (by omega)
    clear h hl hx hv ho hE hn c0 hm
    go_enter Try.func34, Try.ntmps34
    go_wp2
    (try simp only [Exit.inBlock, Exit.then]); refine bodyPost_ret (results_none rfl _ _ _) rfl ?_
    exact ⟨rfl, HSP.out⟩

set_option maxHeartbeats 1000000 in
set_option maxRecDepth 100000 in
theorem out_truth {w0 w : World} {B n : Nat} {x : Option (List UInt8)} {g : Option Nat} (h : Ro w0 B n x g w) (b : Bool) (hn : n < 10000) :
    Calls Try.prog 32 #[.pointer (some ⟨B, 0, none⟩), .bool b] w fun e w' => e = .returned (.tuple #[]) ∧ RoO w0 B (n + 1) (cat x (Cm.enc1 (.n 1) (.n (if b then 1 else 0)))) g w w' := by
  cases b with
  | true =>
    have hN := out_num h 1 hn
    have e : Cm.enc1 (.n Cm.mI) (.n 1) = Cm.enc1 (.n 1) (.n 1) := rfl
    rw [e] at hN
    have HN := hidden hN
    simp only [if_true]
    clear h hN hn e
    generalize cat x (Cm.enc1 (.n 1) (.n 1)) = y at *
    go_enter Try.func32, Try.ntmps32
    go_wp2_with (go_at_call 31; refine (HN.out).mono ?_; rintro e w1 ⟨rfl, h1⟩)
    go_end0
    exact ⟨rfl, h1⟩
  | false =>
    have hN := out_num h 0 hn
    have e : Cm.enc1 (.n Cm.mI) (.n 0) = Cm.enc1 (.n 1) (.n 0) := rfl
    rw [e] at hN
    have HN := hidden hN
    simp only [Bool.false_eq_true, if_false]
    clear h hN hn e
    generalize cat x (Cm.enc1 (.n 1) (.n 0)) = y at *
    go_enter Try.func32, Try.ntmps32
    go_wp2_with (go_at_call 31; refine (HN.out).mono ?_; rintro e w1 ⟨rfl, h1⟩)
    go_end0
    exact ⟨rfl, h1⟩

/-- What the writer ends with. -/
def endS (x : Option (List UInt8)) : ByteArray := match x with
  | some l => ⟨l.toArray⟩
  | none => ⟨#[]⟩
set_option maxHeartbeats 1000000 in
set_option maxRecDepth 100000 in
theorem out_ends {w0 w : World} {B n : Nat} {x : Option (List UInt8)} {g : Option Nat} (h : Ro w0 B n x g w) (h1 : x ≠ some []) :
    Calls Try.prog 35 #[.pointer (some ⟨B, 0, none⟩)] w fun e w' => e = .returned (.tuple #[.string (endS x), .int .i64 (putE x)]) ∧ w' = w := by
  obtain ⟨r, l, b, c0, c1, z0, z1, ho, hv, hl, hx⟩ := h.read
  subst hx
  cases b with
  | true =>
    simp only [if_true]
    clear h1 ho hl h c0
    go_enter Try.func35, Try.ntmps35
    go_wp2
    go_ret2
    exact ⟨rfl, rfl⟩
  | false =>
    simp only [Bool.false_eq_true, if_false] at h1 ⊢
    have hne : l ≠ [] := fun e => h1 (by rw [e])
    have hcv := ho.conv (P := Try.prog) hne 63 9 Try.underlying63 Try.underlying5 Try.underlying9
    clear h1 ho hl h hne
    go_enter Try.func35, Try.ntmps35
    go_wp2
    go_ret2
    exact ⟨rfl, rfl⟩

theorem cat_ne {x y : Option (List UInt8)} (h : x ≠ some []) : cat x y ≠ some [] := by
  cases x with
  | none => rw [cat_none]; exact fun e => by cases e
  | some a =>
    cases y with
    | none => rw [cat_no]; exact fun e => by cases e
    | some b =>
      intro e
      simp only [cat, Option.some.injEq, List.append_eq_nil_iff] at e
      exact h (by rw [e.1])

/-- The writer in block B, and a struct in block b that is read; since U. -/
structure Rb (w0 U : World) (gU : Option Nat) (B n k : Nat) (x : Option (List UInt8)) (b : Nat) (cs : List Value) (t : TypeId) (X : World) : Prop where
  ro : ∃ g, Ro w0 B (n + k) x g X ∧ g ≠ some b ∧ ∀ j, g = some j → gU = some j ∨ U.heap.size ≤ j
  ok : x ≠ some []
  box : X.heap[b]? = some (.cells cs.toArray t (0, 0))
  ne : b ≠ B
  kept : KeptO (WrO B gU) U X
  small : n < 7000

theorem Rb.call {w0 U : World} {gU : Option Nat} {B n k : Nat} {x : Option (List UInt8)} {b : Nat} {cs : List Value} {t : TypeId} {X : World} (h : Rb w0 U gU B n k x b cs t X) {F : FuncId} {args : Array Value} {m : Nat} {y : Option (List UInt8)} (hy : y ≠ some [])
    (hc : ∀ g, Ro w0 B (n + k) x g X → Calls Try.prog F args X fun e Y => e = .returned (.tuple #[]) ∧ RoO w0 B (n + m) y g X Y) : Calls Try.prog F args X fun e Y => e = .returned (.tuple #[]) ∧ Rb w0 U gU B n m y b cs t Y := by
  obtain ⟨g, hr, hgb, hgU⟩ := h.ro
  refine (hc g hr).mono ?_
  rintro e Y ⟨rfl, g', h1, h2, h3⟩
  have hlt : b < X.heap.size := by
    have hh := h.box
    rcases Nat.lt_or_ge b X.heap.size with y | y
    · exact y
    · rw [Array.getElem?_eq_none y] at hh; cases hh
  refine ⟨rfl, ⟨g', h1, fun e => ?_, fun k hk => ?_⟩, hy, ?_, h.ne, h.kept.trans h2 (WrO.mono_lt hgU), h.small⟩
  · rcases h3 b e with y | y
    · exact hgb y
    · omega
  · rcases h3 k hk with y | y
    · exact hgU k y
    · exact .inr (Nat.le_trans h.kept.size y)
  · rw [h2.block b hlt (by rintro (y | y); exact h.ne y; exact hgb y)]
    exact h.box

theorem Rb.num {w0 U : World} {gU : Option Nat} {B n k : Nat} {x : Option (List UInt8)} {b : Nat} {cs : List Value} {t : TypeId} {X : World} (h : Rb w0 U gU B n k x b cs t X) (v : Int) (hk : k < 500) :
    Calls Try.prog 31 #[.pointer (some ⟨B, 0, none⟩), .int .i64 v] X fun e Y => e = .returned (.tuple #[]) ∧ Rb w0 U gU B n (k + 1) (cat x (Cm.enc1 (.n Cm.mI) (.n v))) b cs t Y := h.call (cat_ne h.ok) (fun _ hr => out_num hr v (by have := h.small; omega))
theorem Rb.text {w0 U : World} {gU : Option Nat} {B n k : Nat} {x : Option (List UInt8)} {b : Nat} {cs : List Value} {t : TypeId} {X : World} (h : Rb w0 U gU B n k x b cs t X) (s : ByteArray) (hk : k < 500) :
    Calls Try.prog 34 #[.pointer (some ⟨B, 0, none⟩), .string s] X fun e Y => e = .returned (.tuple #[]) ∧ Rb w0 U gU B n (k + 2) (cat x (Cm.enc1 .t (.t s))) b cs t Y := h.call (cat_ne h.ok) (fun _ hr => out_text hr s (by have := h.small; omega))
theorem Rb.truth {w0 U : World} {gU : Option Nat} {B n k : Nat} {x : Option (List UInt8)} {b : Nat} {cs : List Value} {t : TypeId} {X : World} (h : Rb w0 U gU B n k x b cs t X) (v : Bool) (hk : k < 500) :
    Calls Try.prog 32 #[.pointer (some ⟨B, 0, none⟩), .bool v] X fun e Y => e = .returned (.tuple #[]) ∧ Rb w0 U gU B n (k + 1) (cat x (Cm.enc1 (.n 1) (.n (if v then 1 else 0)))) b cs t Y := h.call (cat_ne h.ok) (fun _ hr => out_truth hr v (by have := h.small; omega))
theorem Rb.ends {w0 U : World} {gU : Option Nat} {B n k : Nat} {x : Option (List UInt8)} {b : Nat} {cs : List Value} {t : TypeId} {X : World} (h : Rb w0 U gU B n k x b cs t X) :
    Calls Try.prog 35 #[.pointer (some ⟨B, 0, none⟩)] X fun e Y => e = .returned (.tuple #[.string (endS x), .int .i64 (putE x)]) ∧ Y = X := by
  obtain ⟨g, hr, -, -⟩ := h.ro
  exact out_ends hr h.ok

/-- One cell of the struct is loaded. -/
theorem Rb.load {w0 U : World} {gU : Option Nat} {B n k : Nat} {x : Option (List UInt8)} {b : Nat} {cs : List Value} {t : TypeId} {X : World} (h : Rb w0 U gU B n k x b cs t X) {j : Nat} {v : Value} (hj : cs[j]? = some v) : X.cell? ⟨b, j, none⟩ = some v := by
  rw [Lib.cell_of_heap h.box]
  simpa using hj
theorem Rb.range {w0 U : World} {gU : Option Nat} {B n k : Nat} {x : Option (List UInt8)} {b : Nat} {cs : List Value} {t : TypeId} {X : World} (h : Rb w0 U gU B n k x b cs t X) (o : Nat) (vs : List Value) (hs : ∀ j v, vs[j]? = some v → cs[o + j]? = some v) : X.rangeAt b o vs := fun j v hj => h.load (hs j v hj)
theorem Rb.below {w0 U : World} {gU : Option Nat} {B n k : Nat} {x : Option (List UInt8)} {b : Nat} {cs : List Value} {t : TypeId} {X : World} (h : Rb w0 U gU B n k x b cs t X) : Below w0.heap.size w0 X := by
  obtain ⟨g, hr, -, -⟩ := h.ro
  exact hr.below
theorem Rb.out {w0 U : World} {gU : Option Nat} {B n k : Nat} {x : Option (List UInt8)} {b : Nat} {cs : List Value} {t : TypeId} {X : World} (h : Rb w0 U gU B n k x b cs t X) : RoO w0 B (n + k) x gU U X := by
  obtain ⟨g, hr, -, h3⟩ := h.ro
  exact ⟨g, hr, h.kept, h3⟩
theorem Rb.cast {w0 U : World} {gU : Option Nat} {B n k : Nat} {x : Option (List UInt8)} {b : Nat} {cs : List Value} {t : TypeId} {X : World} (h : Rb w0 U gU B n k x b cs t X) {y : Option (List UInt8)} (e : x = y) : Rb w0 U gU B n k y b cs t X := e ▸ h

end Go.Proofs.Ytgkcchbignakcaa
