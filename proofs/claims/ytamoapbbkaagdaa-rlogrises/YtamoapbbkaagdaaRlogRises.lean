/-
  For every script of calls: RlogRises answers true: along a log terms never go down, and each entry that was appended and not cut is there; the argument reads afterwards as before. No condition.
-/
import Derived.Test.YtamoapbbkaagdaaRlTwo
import Derived.ProofKit
import Derived.OpenShut
import Derived.ShutString
import Derived.SizedLaws
import Derived.Deep.RegionHeld
namespace Go.Proofs.Ytamoapbbkaagdaa.rlogRises
open Go.ChangeShapes Go.WideShapes Go.ChangeAt Go.RowKit
open Go.ChangeMaps (open_string shut_string)

/-- The term at an index of all entries that there were. -/
def tt (H : List (Int × ByteArray)) (i : Nat) : Int := if i = 0 then 0 else match H[i - 1]? with
  | some e => e.1
  | none => 0

/-- The log is the end of what was appended and not cut; terms rise. -/
structure Inv (s : G.L) (H : List (Int × ByteArray)) (b : Nat) : Prop where
  base : s.base = (b : Int)
  le : b ≤ H.length
  ents : s.ents = H.drop b
  term : s.term = tt H b
  rise : ∀ i j, i ≤ j → j ≤ H.length → tt H i ≤ tt H j

theorem Inv.last {s : G.L} {H : List (Int × ByteArray)} {b : Nat} (h : Inv s H b) : G.last s = (H.length : Int) := by
  have := h.le
  unfold G.last
  rw [h.base, h.ents, List.length_drop]
  omega

theorem Inv.termAt {s : G.L} {H : List (Int × ByteArray)} {b : Nat} (h : Inv s H b) {i : Nat} (h1 : b ≤ i) : G.termAt s (i : Int) = tt H i := by
  unfold G.termAt
  by_cases e : i = b
  · rw [if_pos (by rw [h.base, e]), h.term, e]
  · rw [if_neg (by rw [h.base]; omega), h.base, h.ents]
    have e2 : (H.drop b)[((i : Int) - (b : Int) - 1).toNat]? = H[i - 1]? := by
      rw [List.getElem?_drop]
      congr 1
      omega
    rw [e2]
    unfold tt
    rw [if_neg (by omega)]
    cases H[i - 1]? <;> rfl

theorem tt_append {H : List (Int × ByteArray)} {x : Int × ByteArray} {i : Nat} (hi : i ≤ H.length) : tt (H ++ [x]) i = tt H i := by
  unfold tt
  split
  · rfl
  · rw [List.getElem?_append_left (by omega)]
theorem tt_last (H : List (Int × ByteArray)) (x : Int × ByteArray) : tt (H ++ [x]) (H.length + 1) = x.1 := by
  unfold tt
  rw [if_neg (by omega), Nat.add_sub_cancel, List.getElem?_append_right (Nat.le_refl _), Nat.sub_self]
  rfl
theorem tt_take {H : List (Int × ByteArray)} {i k : Nat} (hi : i ≤ k) : tt (H.take k) i = tt H i := by
  unfold tt
  split
  · rfl
  · rw [List.getElem?_take, if_pos (by omega)]

theorem Inv.app {s : G.L} {H : List (Int × ByteArray)} {b : Nat} (h : Inv s H b) {x : Int × ByteArray} (hx : G.appE s x = 0) : Inv (G.app s x) (H ++ [x]) b := by
  have hl := h.le
  have hx1 : ¬ x.1 < tt H H.length := by
    intro e
    unfold G.appE at hx
    split at hx
    · omega
    · rw [h.last, h.termAt hl, if_pos e] at hx
      omega
  have e : G.app s x = { s with ents := s.ents ++ [x] } := by unfold G.app; rw [if_pos hx]
  rw [e]
  refine ⟨h.base, by rw [List.length_append]; omega, ?_, ?_, fun i j hij hj => ?_⟩
  · show s.ents ++ [x] = _
    rw [h.ents, List.drop_append_of_le_length hl]
  · rw [tt_append hl]
    exact h.term
  · rw [List.length_append] at hj
    by_cases hj2 : j = H.length + 1
    · subst hj2
      rw [tt_last]
      by_cases hi : i = H.length + 1
      · subst hi; rw [tt_last]; exact Int.le_refl _
      · rw [tt_append (by simp at hj; omega)]
        have := h.rise i H.length (by omega) (Nat.le_refl _)
        omega
    · simp at hj
      rw [tt_append (by omega), tt_append (by omega)]
      exact h.rise i j hij (by omega)

theorem Inv.cut {s : G.L} {H : List (Int × ByteArray)} {b : Nat} (h : Inv s H b) {k : Nat} (h1 : b ≤ k) (h2 : k ≤ H.length) : Inv (G.cut s ((k : Int) + 1)) (H.take k) b := by
  have hl := h.le
  have e0 : G.cutE s ((k : Int) + 1) = 0 := by unfold G.cutE; rw [G.within_zero, h.last, h.base]; omega
  have e : G.cut s ((k : Int) + 1) = { s with ents := s.ents.take (k - b) } := by
    unfold G.cut
    rw [if_pos e0, h.base, show ((k : Int) + 1 - (b : Int) - 1).toNat = k - b by omega]
  rw [e]
  refine ⟨h.base, by rw [List.length_take]; omega, ?_, ?_, fun i j hij hj => ?_⟩
  · show s.ents.take (k - b) = _
    rw [h.ents, List.drop_take]
  · rw [tt_take h1]
    exact h.term
  · rw [List.length_take] at hj
    rw [tt_take (by omega), tt_take (by omega)]
    exact h.rise i j hij (by omega)

theorem Inv.cmp {s : G.L} {H : List (Int × ByteArray)} {b : Nat} (h : Inv s H b) (i : Int) : ∃ b', Inv (G.cmp s i) H b' := by
  by_cases e : G.termE s i = 0
  · have hi := G.within_zero.1 e
    rw [h.base, h.last] at hi
    obtain ⟨k, rfl⟩ : ∃ k : Nat, i = (k : Int) := ⟨i.toNat, by omega⟩
    refine ⟨k, ?_⟩
    have e2 : G.cmp s (k : Int) = ⟨(k : Int), G.termAt s (k : Int), s.ents.drop (k - b)⟩ := by
      unfold G.cmp
      rw [if_pos e, h.base, show ((k : Int) - (b : Int)).toNat = k - b by omega]
    rw [e2]
    refine ⟨rfl, by omega, ?_, h.termAt (by omega), h.rise⟩
    show s.ents.drop (k - b) = _
    rw [h.ents, List.drop_drop]
    congr 1
    omega
  · have : G.cmp s i = s := by unfold G.cmp; rw [if_neg e]
    rw [this]
    exact ⟨b, h⟩

theorem Inv.new : Inv ⟨0, 0, []⟩ [] 0 := ⟨rfl, Nat.le_refl _, rfl, rfl, fun i j hij hj => by
  have : j = 0 := by simpa using hj
  subst this
  obtain rfl : i = 0 := by omega
  exact Int.le_refl _⟩

/-- The log and the row of what was appended. -/
def Ri (w X : World) (B : Nat) (hv : Value) (s : G.L) (H : List (Int × ByteArray)) : Prop :=
  ∃ own : Nat → Prop, Lg X B s own ∧ RowC X 2 hv H.length (entCells H) ∧ (∀ k, cBlk hv = some k → w.heap.size ≤ k ∧ k ≠ B ∧ ¬ own k) ∧ w.heap.size ≤ B ∧ (∀ k, own k → w.heap.size ≤ k) ∧ Below w.heap.size w X

theorem Ri.old {w X : World} {B : Nat} {hv : Value} {s : G.L} {H : List (Int × ByteArray)} (h : Ri w X B hv s H) : Below w.heap.size w X := by
  obtain ⟨own, _, _, _, _, _, h⟩ := h
  exact h
theorem Ri.ok {w X : World} {B : Nat} {hv : Value} {s : G.L} {H : List (Int × ByteArray)} (h : Ri w X B hv s H) : G.Ok s := by
  obtain ⟨own, h, _⟩ := h
  exact h.ok
theorem Ri.row {w X : World} {B : Nat} {hv : Value} {s : G.L} {H : List (Int × ByteArray)} (h : Ri w X B hv s H) : RowC X 2 hv H.length (entCells H) := by
  obtain ⟨own, _, h, _⟩ := h
  exact h
theorem Ri.below {w X Y : World} {B : Nat} {hv : Value} {s : G.L} {H : List (Int × ByteArray)} (h : Ri w X B hv s H) (hb : Below X.heap.size X Y) : Ri w Y B hv s H := by
  obtain ⟨own, h1, h2, h3, h4, h5, h6⟩ := h
  exact ⟨own, h1.below hb, h2.carry (fun k hk => hb.block k (h2.lt (by omega) hk)), h3, h4, h5, h6.trans (hb.mono h6.size)⟩

/-- A call of the log. -/
theorem Ri.call {w X : World} {B : Nat} {hv : Value} {s : G.L} {H : List (Int × ByteArray)} (h : Ri w X B hv s H) : ∃ own, Lg X B s own ∧ ∀ Y s', Aft own X Y B s' → Ri w Y B hv s' H := by
  obtain ⟨own, h1, h2, h3, h4, h5, h6⟩ := h
  refine ⟨own, h1, fun Y s' ha => ⟨sinceB own X Y, ha.1, h2.carry (fun k hk => ha.2.block k (h2.lt (by omega) hk) (h3 k hk).2.1 (h3 k hk).2.2), fun k hk => ⟨(h3 k hk).1, (h3 k hk).2.1, fun e => ?_⟩, h4, fun k hk => ?_, ?_⟩⟩
  · rcases e with e | e
    · exact (h3 k hk).2.2 e
    · have := h2.lt (by omega) hk
      omega
  · rcases hk with e | e
    · exact h5 k e
    · have := h6.size
      omega
  · exact h6.trans (ha.2.below h4 (fun k hk => h5 k hk) h6.size)

/-- Another row of what was appended. -/
theorem Ri.put {w X Y : World} {B : Nat} {hv hv' : Value} {s : G.L} {H H' : List (Int × ByteArray)} (h : Ri w X B hv s H) (hg : X.grownBy Y (cBlk hv)) (hr : RowC Y 2 hv' H'.length (entCells H')) (hl : ∀ k, cBlk hv' = some k → cBlk hv = some k ∨ X.heap.size ≤ k) : Ri w Y B hv' s H' := by
  obtain ⟨own, h1, h2, h3, h4, h5, h6⟩ := h
  have hB := h1.lt
  refine ⟨own, h1.carry hg.size (hg.block B hB (fun e => (h3 B e.symm).2.1 rfl)) (fun k hk => hg.block k (h1.here k hk).1 (fun e => (h3 k e.symm).2.2 hk)), hr, fun k hk => ?_, h4, h5, ?_⟩
  · rcases hl k hk with q | q
    · exact h3 k q
    · refine ⟨Nat.le_trans h6.size q, by omega, fun e => ?_⟩
      have := (h1.here k e).1
      omega
  · exact h6.trans ⟨hg.os, hg.tape, hg.output, hg.size, fun k hk => hg.block k (Nat.lt_of_lt_of_le hk h6.size) (fun e => by have := (h3 k e.symm).1; omega)⟩

/-- A call of the log, where a block was made ahead of it. -/
theorem Ri.call' {w X u : World} {B : Nat} {hv : Value} {s : G.L} {H : List (Int × ByteArray)} (h : Ri w X B hv s H) (hb : Below X.heap.size X u) : ∃ own, Lg u B s own ∧ ∀ Y s', Aft own u Y B s' → Ri w Y B hv s' H ∧ ∀ k, X.heap.size ≤ k → k < u.heap.size → Y.heap[k]? = u.heap[k]? := by
  have hu := h.below hb
  obtain ⟨own, h1, h2, h3, h4, h5, h6⟩ := h
  have hl := h1.lt
  have hh := h1.here
  have hu2 : ∃ own', own' = own ∧ Lg u B s own' ∧ ∀ Y s', Aft own' u Y B s' → Ri w Y B hv s' H := by
    refine ⟨own, rfl, h1.below hb, fun Y s' ha => ⟨sinceB own u Y, ha.1, ?_, fun k hk => ⟨(h3 k hk).1, (h3 k hk).2.1, fun e => ?_⟩, h4, fun k hk => ?_, ?_⟩⟩
    · have h2u := h2.carry (w' := u) (fun k hk => hb.block k (h2.lt (by omega) hk))
      exact h2u.carry (fun k hk => ha.2.block k (h2u.lt (by omega) hk) (h3 k hk).2.1 (h3 k hk).2.2)
    · rcases e with e | e
      · exact (h3 k hk).2.2 e
      · have := h2.lt (by omega) hk
        have := hb.size
        omega
    · rcases hk with e | e
      · exact h5 k e
      · have := h6.size
        have := hb.size
        omega
    · have h7 : Below w.heap.size w u := h6.trans (hb.mono h6.size)
      exact h7.trans (ha.2.below h4 (fun k hk => h5 k hk) h7.size)
  obtain ⟨own', rfl, q1, q2⟩ := hu2
  refine ⟨own', q1, fun Y s' ha => ⟨q2 Y s' ha, fun k hk1 hk2 => ha.2.block k hk2 (by omega) (fun e => ?_)⟩⟩
  have := (hh k e).1
  omega

theorem run_cutH3 (p : Option Addr) (n c h : Nat) (h1 : h ≤ c) (W : World) :
    (Instr.slice 28 (.slice p n c) none (some (.int .i64 (h : Int))) (some (.int .i64 (h : Int)))).run Try.prog W = .ok (.slice p h h) W := by
  have e : (if h = 0 then p else p.map (·.add (0 * 2))) = p := by
    split
    · rfl
    · cases p <;> simp [Addr.add]
  simp [Instr.slice, run_underlying Try.underlying28, Instr.sliceBounds, Instr.sliceBound, asIntOf, h1]
  first | exact e | (cases p <;> simp [Addr.add])

theorem tt_at {H : List (Int × ByteArray)} {k : Nat} {x : Int × ByteArray} (h : H[k]? = some x) : tt H (k + 1) = x.1 := by
  unfold tt
  rw [if_neg (by omega), Nat.add_sub_cancel, h]

set_option maxHeartbeats 3200000 in
set_option maxRecDepth 20000 in
theorem walk (v0 : Value) (a0 : List Op6) (w : World) (b0 : Elems w 5 Op6.cells Op6.In v0 a0) :
    Calls Try.prog 4 #[v0] w fun e w' => e = .returned (.bool true) ∧ Below w.heap.size w w' := by
  have HA : Hid (∀ u : World, Calls Try.prog 8 #[] u fun e w' => e = .returned (.bool true) ∧ Below u.heap.size u w') := awake_c
  have HN : Hid _ := New_yes w 0 0 (by omega)
  obtain ⟨p0, c0, rfl, hc0, hm0, hin, k0⟩ := b0
  obtain ⟨n0, hn0⟩ : ∃ n, n = a0.length := ⟨_, rfl⟩
  rw [← hn0] at hc0 ⊢
  have HK0 : Hid _ := k0
  have HL0 : Hid _ := hn0
  clear k0 hn0 hm0 hin
  go_enter Try.func4, Try.ntmps4
  go_wp2_with fail
  refine Calls.mono HN.out ?_
  rintro e w1 ⟨rfl, hl1, hb1⟩
  have HR : Hid (Ri w w1 w.heap.size (.slice none 0 0) ⟨0, 0, []⟩ []) := ⟨_, hl1, RowC.nil _ _ _, fun k hk => by simp [cBlk] at hk, Nat.le_refl _, fun k hk => by omega, hb1⟩
  clear hl1 hb1
  obtain ⟨B, hB⟩ : ∃ B, B = w.heap.size := ⟨_, rfl⟩
  rw [← hB] at HR
  go_wp2
  rw [← hB]
  clear hB
  go_loopw [5, 6] (fun y x wr => ∃ (k : Nat) (p : Option Addr) (n c b : Nat) (s : G.L) (H : List (Int × ByteArray)), x = .int .i64 (k : Int) ∧ y = .slice p n c ∧ k ≤ n0 ∧ k ≤ 200 ∧ Hid (n = H.length ∧ Inv s H b ∧ Ri w wr B (.slice p n c) s H)) (fun _ x _ => 200 - (intOf x).toNat)
  case atStart => exact ⟨0, none, 0, 0, 0, _, [], rfl, rfl, Nat.zero_le _, Nat.zero_le _, rfl, Inv.new, HR.out⟩
  case round =>
    clear HR
    obtain ⟨k, p, n, c, b, s, H, rfl, rfl, hk1, hk2, HI⟩ := hrel
    by_cases hgo : k < n0 ∧ k < 200
    · obtain ⟨hlt, hlt2⟩ := hgo
      obtain ⟨x, hx⟩ : ∃ x, a0[k]? = some x := ⟨_, List.getElem?_eq_getElem (by have := HL0.out; omega)⟩
      obtain ⟨g, o, rfl, hg, hcell⟩ : ∃ g o, p0 = some ⟨g, o, none⟩ ∧ g < w.heap.size ∧ ∀ q u, x.cells[q]? = some u → w.cell? ⟨g, o + k * 5 + q, none⟩ = some u := by
        rcases HK0.out with e | ⟨g, o, h1, h2, h3⟩
        · rw [e] at hx; simp at hx
        · exact ⟨g, o, h1, h2, h3 k x hx⟩
      obtain ⟨kind, xn, xm, t, d⟩ := x
      have hold := HI.out.2.2.old
      have y0 : wr.cell? ⟨g, o + k * 5, none⟩ = some (.int .i64 kind) := (hold.cell (p := ⟨g, o + k * 5, none⟩) hg).trans (hcell 0 _ rfl)
      have y1 : wr.cell? ⟨g, o + k * 5 + 1, none⟩ = some (.int .i64 xn) := (hold.cell (p := ⟨g, o + k * 5 + 1, none⟩) hg).trans (hcell 1 _ rfl)
      have y2 : wr.cell? ⟨g, o + k * 5 + 2, none⟩ = some (.int .i64 xm) := (hold.cell (p := ⟨g, o + k * 5 + 2, none⟩) hg).trans (hcell 2 _ rfl)
      have y3 : wr.cell? ⟨g, o + k * 5 + 3, none⟩ = some (.int .i64 t) := (hold.cell (p := ⟨g, o + k * 5 + 3, none⟩) hg).trans (hcell 3 _ rfl)
      have y4 : wr.cell? ⟨g, o + k * 5 + 4, none⟩ = some (.string d) := (hold.cell (p := ⟨g, o + k * 5 + 4, none⟩) hg).trans (hcell 4 _ rfl)
      have hk0 : (0 : Int) ≤ (k : Int) := by omega
      have hkn : (k : Int) < (n0 : Int) := by omega
      have hk200 : (k : Int) < 200 := by omega
      clear hcell hg hx hold
      obtain ⟨u, hu⟩ : ∃ u, u = wr.alloc (.cells #[.int .i64 kind, .int .i64 xn, .int .i64 xm, .int .i64 t, .string d] 36) := ⟨_, rfl⟩
      obtain ⟨bo, hbo⟩ : ∃ bo, bo = wr.heap.size := ⟨_, rfl⟩
      have hbu : Below wr.heap.size wr u := by rw [hu]; exact below_alloc _ _
      have hub : ∀ j, u.cell? ⟨bo, j, none⟩ = (#[.int .i64 kind, .int .i64 xn, .int .i64 xm, .int .i64 t, .string d] : Array Value)[j]? := fun j => by rw [hu, hbo]; exact World.cell?_alloc_mark wr _ _ _ j
      have hbou : bo < u.heap.size := by rw [hu, hbo]; simp
      have HBo : Hid (wr.heap.size ≤ bo ∧ bo < u.heap.size) := ⟨by omega, hbou⟩
      have HU : Hid _ := hub
      have z0 : u.cell? ⟨bo, 0, none⟩ = some (.int .i64 kind) := hub 0
      have z1 : u.cell? ⟨bo, 1, none⟩ = some (.int .i64 xn) := hub 1
      have z3 : u.cell? ⟨bo, 3, none⟩ = some (.int .i64 t) := hub 3
      have z4 : u.cell? ⟨bo, 3 + 1, none⟩ = some (.string d) := hub 4
      obtain ⟨own, hl, hcall⟩ := HI.out.2.2.call' hbu
      have HC : Hid _ := hcall
      have HRu : Hid (Ri w u B (.slice p n c) s H) := HI.out.2.2.below hbu
      have HNH : Hid (n = H.length) := HI.out.1
      have HInv : Hid (Inv s H b) := HI.out.2.1
      clear hub hbu hcall HI
      by_cases e1 : kind = 1
      · subst e1
        have HAp : Hid _ := Append_c hl (t, d)
        dsimp only at HAp
        by_cases hd : d.size ≤ 4096
        · have d1 : decide ((4096 : Int) < (d.size : Int)) = false := decide_eq_false (by omega)
          clear hd hl
          go_wp2_with fail
          rw [← hu, ← hbo]
          clear hu hbo y0 y1 y2 y3 y4
          refine Calls.mono HAp.out ?_
          rintro e w3 ⟨rfl, ha⟩
          obtain ⟨hr3, hb3⟩ := HC.out _ _ ha
          have hcb : ∀ j, w3.cell? ⟨bo, j, none⟩ = u.cell? ⟨bo, j, none⟩ := fun j => World.cell?_of_block (a := ⟨bo, j, none⟩) (hb3 bo HBo.out.1 HBo.out.2)
          have x3 : w3.cell? ⟨bo, 3, none⟩ = some (.int .i64 t) := (hcb 3).trans z3
          have x4 : w3.cell? ⟨bo, 3 + 1, none⟩ = some (.string d) := (hcb 4).trans z4
          have HR3 : Hid _ := hr3
          clear ha hr3 hb3 hcb z0 z1 z3 z4
          by_cases hE : G.appE s (t, d) = 0
          · have hA : G.appA s (t, d) = (n : Int) + 1 := by unfold G.appA; rw [if_pos hE, HInv.out.last, HNH.out]
            have HInv' : Hid (Inv (G.app s (t, d)) (H ++ [(t, d)]) b) := HInv.out.app hE
            rw [hE, hA]
            have hlen := (Ri.ok HR3.out).len
            have hHl : H.length ≤ 1099511627776 := by
              have := HInv.out.last
              have := (Ri.ok HRu.out).last
              omega
            obtain ⟨W, hW⟩ : ∃ W, W = w3.alloc (.cells #[.int .i64 t, .string d] 34) := ⟨_, rfl⟩
            have hbW : Below w3.heap.size w3 W := by rw [hW]; exact below_alloc _ _
            have HRW : Hid (Ri w W B (.slice p n c) (G.app s (t, d)) H) := Ri.below HR3.out hbW
            have HRow : Hid (RowC W 2 (.slice p n c) n (entCells H)) := by
              have := HRW.out.row
              rw [← HNH.out] at this
              exact this
            have HSrc : Hid (Src Try.prog 2 28 (.slice (some ⟨w3.heap.size, 0, none⟩) 1 1) 1 [.int .i64 t, .string d] W) := by
              refine Src.ofSlice W Try.underlying28 _ _ _ _ rfl (fun j u hu => ?_) (fun u hu => by simp at hu; rcases hu with rfl | rfl <;> rfl)
              rw [Addr.add_lit, Nat.zero_add, hW, World.cell?_alloc_mark]
              simpa using hu
            have hL1 : Hid ((n + 1) * 24 ≤ 140737488355328) := by show _ ≤ _; rw [HNH.out]; omega
            have hL2 : Hid (n + 1 ≤ maxLen) := by unfold maxLen; show _ ≤ _; rw [HNH.out]; omega
            generalize G.app s (t, d) = s' at HR3 HRW HInv'
            clear hlen hHl hA hE hbW HAp
            subst hW
            go_wp2_with (at_builtin; refine wpList_append_rowC rfl (.tmp 57) (.tmp 60) 28 28 34 rfl Try.underlying28 _ 2 24 infoEnt rfl (.slice p n c) n (entCells H) rfl HRow.out _ 1 _ rfl HSrc.out hL1.out hL2.out ?qnext)
            case qnext =>
              intro v' w4 ho hg hlo
              obtain ⟨p', c', hv', _, _⟩ := ho.form
              subst hv'
              have HR4 : Hid (Ri w w4 B (.slice p' (n + 1) c') s' (H ++ [(t, d)])) := Ri.put HRW.out hg (by rw [List.length_append, entCells_snoc, ← HNH.out]; exact ho) (fun k hk => by have := hlo k hk; simpa using this)
              have HN4 : Hid (n + 1 = (H ++ [(t, d)]).length) := by show _ = _; rw [List.length_append, ← HNH.out]; rfl
              have hneq : ((n : Int) + 1 != (n : Int) + 1) = false := by simp
              clear ho hg hlo
              go_wp2
              refine And.intro ?_ ?_
              · exact ⟨k + 1, p', n + 1, c', b, s', _, by go_num, rfl, by omega, by omega, HN4.out, HInv'.out, HR4.out⟩
              · simp [intOf]; omega
          · have t0 : (G.appE s (t, d) == 0) = false := by simpa using hE
            have happ : G.app s (t, d) = s := by unfold G.app; rw [if_neg hE]
            rw [happ] at HR3
            generalize G.appE s (t, d) = i2 at t0
            generalize G.appA s (t, d) = i1
            clear hE happ HAp x3 x4
            go_wp2
            refine And.intro ?_ ?_
            · exact ⟨k + 1, p, n, c, b, s, H, by go_num, rfl, by omega, by omega, HNH.out, HInv.out, HR3.out⟩
            · simp [intOf]; omega
        · have d1 : decide ((4096 : Int) < (d.size : Int)) = true := decide_eq_true (by omega)
          clear hd hl HAp
          go_wp2_with fail
          rw [← hu]
          clear hu hbo y0 y1 y2 y3 y4
          refine (HA.out _).mono ?_
          rintro e w3 ⟨rfl, hb3⟩
          have HB3 : Hid (Below w.heap.size w w3) := HRu.out.old.trans (hb3.mono HRu.out.old.size)
          clear hb3
          go_wp2
          go_ret
          exact ⟨rfl, HB3.out⟩
      · have f1 : (kind == 1) = false := by simpa using e1
        by_cases e2 : kind = 2
        · subst e2
          have HCu : Hid _ := Cut_c hl xn
          clear hl
          go_wp2_with fail
          rw [← hu, ← hbo]
          clear hu hbo y0 y1 y2 y3 y4
          refine Calls.mono HCu.out ?_
          rintro e w3 ⟨rfl, ha⟩
          obtain ⟨hr3, hb3⟩ := HC.out _ _ ha
          have hcb : ∀ j, w3.cell? ⟨bo, j, none⟩ = u.cell? ⟨bo, j, none⟩ := fun j => World.cell?_of_block (a := ⟨bo, j, none⟩) (hb3 bo HBo.out.1 HBo.out.2)
          have x1 : w3.cell? ⟨bo, 1, none⟩ = some (.int .i64 xn) := (hcb 1).trans z1
          have HR3 : Hid _ := hr3
          clear ha hr3 hb3 hcb z0 z1 z3 z4 HCu
          by_cases hE : G.cutE s xn = 0
          · have hi := G.within_zero.1 hE
            rw [HInv.out.base, HInv.out.last] at hi
            obtain ⟨q, rfl⟩ : ∃ q : Nat, xn = (q : Int) + 1 := ⟨(xn - 1).toNat, by omega⟩
            have hq1 : b ≤ q := by omega
            have hq2 : q ≤ H.length := by omega
            have HInv' : Hid (Inv (G.cut s ((q : Int) + 1)) (H.take q) b) := HInv.out.cut hq1 hq2
            have hqn : q ≤ n := by rw [HNH.out]; exact hq2
            obtain ⟨_, _, hvv, hnc, _⟩ := (Ri.row HR3.out).form
            injection hvv with ea eb e3
            subst e3
            clear ea eb
            have hqc : q ≤ c := by rw [← HNH.out] at hnc; omega
            have hsl := run_cutH3 p n c q hqc
            have hcut := (RowC.cut (by have := Ri.row HR3.out; rw [← HNH.out] at this; exact this) 0 q q (Nat.zero_le _) (Nat.le_refl _) hqc hqn)
            rw [cutP_zero, Nat.sub_zero, show 0 * 2 = 0 from rfl, List.drop_zero, ← entCells_take] at hcut
            have hlt' : (H.take q).length = q := by rw [List.length_take]; omega
            have HR4 : Hid (Ri w w3 B (.slice p q q) (G.cut s ((q : Int) + 1)) (H.take q)) := Ri.put HR3.out ⟨rfl, rfl, rfl, Nat.le_refl _, fun _ _ _ => rfl⟩ (by rw [hlt']; exact hcut.1) (fun k hk => .inl (hcut.2 k hk))
            have HN4 : Hid (q = (H.take q).length) := hlt'.symm
            rw [hE]
            generalize G.cut s ((q : Int) + 1) = s' at HR3 HInv' HR4
            have hw : wrap64 (q : Int) = (q : Int) := w64 q rfl (by have := HInv.out.last; have := (Ri.ok HRu.out).last; omega)
            clear hE hi hq1 hq2 hqn hnc hqc hcut hlt'
            go_wp2
            refine And.intro ?_ ?_
            · exact ⟨k + 1, p, q, q, b, s', _, by go_num, rfl, by omega, by omega, HN4.out, HInv'.out, HR4.out⟩
            · simp [intOf]; omega
          · have t0 : (G.cutE s xn == 0) = false := by simpa using hE
            have hcut : G.cut s xn = s := by unfold G.cut; rw [if_neg hE]
            rw [hcut] at HR3
            generalize G.cutE s xn = i2 at t0
            clear hE hcut
            go_wp2
            refine And.intro ?_ ?_
            · exact ⟨k + 1, p, n, c, b, s, H, by go_num, rfl, by omega, by omega, HNH.out, HInv.out, HR3.out⟩
            · simp [intOf]; omega
        · have f2 : (kind == 2) = false := by simpa using e2
          by_cases e3 : kind = 3
          · subst e3
            have HCo : Hid _ := Compact_c hl xn
            obtain ⟨b', hinv'⟩ := HInv.out.cmp xn
            have HInv' : Hid _ := hinv'
            clear hl hinv'
            go_wp2_with fail
            rw [← hu, ← hbo]
            clear hu hbo y0 y1 y2 y3 y4
            refine Calls.mono HCo.out ?_
            rintro e w3 ⟨rfl, ha⟩
            have HR3 : Hid _ := (HC.out _ _ ha).1
            clear ha HCo
            generalize G.cmp s xn = s' at HR3 HInv'
            generalize G.termE s xn = i2
            go_wp2
            refine And.intro ?_ ?_
            · exact ⟨k + 1, p, n, c, b', s', H, by go_num, rfl, by omega, by omega, HNH.out, HInv'.out, HR3.out⟩
            · simp [intOf]; omega
          · have f3 : (kind == 3) = false := by simpa using e3
            clear hl hbo
            go_wp2
            rw [← hu]
            refine And.intro ?_ ?_
            · exact ⟨k + 1, p, n, c, b, s, H, by go_num, rfl, by omega, by omega, HNH.out, HInv.out, HRu.out⟩
            · simp [intOf]; omega
    · have hex : ¬ k < n0 ∨ (k < n0 ∧ ¬ k < 200) := by omega
      have HNH : Hid (n = H.length) := HI.out.1
      have HInv : Hid (Inv s H b) := HI.out.2.1
      have HR : Hid (Ri w wr B (.slice p n c) s H) := HI.out.2.2
      have hn40 : n ≤ 1099511627776 := by
        have := HInv.out.last
        have := (Ri.ok HR.out).last
        have := HNH.out
        omega
      have hbn : b ≤ n := by rw [HNH.out]; exact HInv.out.le
      have KL : Hid (∀ X, Ri w X B (.slice p n c) s H → Calls Try.prog 16 #[.pointer (some ⟨B, 0, none⟩)] X fun e w' => e = .returned (.int .i64 (n : Int)) ∧ Ri w w' B (.slice p n c) s H) := by
        intro X hX
        obtain ⟨own, h1, _⟩ := hX.call
        refine (Last_c h1).mono ?_
        rintro e w' ⟨he, hw⟩
        rw [HInv.out.last, ← HNH.out] at he
        exact ⟨he, by rw [hw]; exact hX.below (below_drewN _ 1)⟩
      have KB : Hid (∀ X, Ri w X B (.slice p n c) s H → Calls Try.prog 17 #[.pointer (some ⟨B, 0, none⟩)] X fun e w' => e = .returned (.int .i64 (b : Int)) ∧ Ri w w' B (.slice p n c) s H) := by
        intro X hX
        obtain ⟨own, h1, _⟩ := hX.call
        refine (Base_c h1).mono ?_
        rintro e w' ⟨he, hw⟩
        rw [HInv.out.base] at he
        exact ⟨he, by rw [hw]; exact hX⟩
      have KT : Hid (∀ X (i : Nat), b ≤ i → i ≤ n → Ri w X B (.slice p n c) s H → Calls Try.prog 18 #[.pointer (some ⟨B, 0, none⟩), .int .i64 (i : Int)] X fun e w' => e = .returned (.tuple #[.int .i64 (tt H i), .int .i64 0]) ∧ Ri w w' B (.slice p n c) s H) := by
        intro X i hi1 hi2 hX
        obtain ⟨own, h1, _⟩ := hX.call
        refine (Term_c h1 (i : Int)).mono ?_
        rintro e w' ⟨he, m, hw⟩
        have e0 : G.termE s (i : Int) = 0 := by unfold G.termE; rw [G.within_zero, HInv.out.base, HInv.out.last, ← HNH.out]; omega
        unfold G.termA at he
        rw [e0, if_pos rfl, HInv.out.termAt hi1] at he
        exact ⟨he, by rw [hw]; exact hX.below (below_drewN _ m)⟩
      have hnn : ((n : Int) != (n : Int)) = false := by simp
      clear HI hgo
      rcases hex with hex | ⟨hex1, hex⟩
      all_goals
        go_wp2_with fail
        refine Calls.mono (KL.out _ HR.out) ?_
        rintro e w3 ⟨rfl, h3⟩
        have H3 : Hid (Ri w w3 B (.slice p n c) s H) := h3
        clear h3 HR
        go_wp2_with fail
        refine Calls.mono (KB.out _ H3.out) ?_
        rintro e w4 ⟨rfl, h4⟩
        have H4 : Hid (Ri w w4 B (.slice p n c) s H) := h4
        clear h4 H3
        go_wp2
        go_loopw [10, 11] (fun y x wr => ∃ (i : Nat) (tl : Int), x = .int .i64 (i : Int) ∧ y = .int .i64 tl ∧ b ≤ i ∧ i ≤ n + 1 ∧ Hid (∀ j, i ≤ j → j ≤ n → tl ≤ tt H j) ∧ Hid (Ri w wr B (.slice p n c) s H)) (fun _ x _ => n + 1 - (intOf x).toNat)
        case atStart =>
          refine ⟨b, 0, rfl, rfl, Nat.le_refl _, by omega, fun j _ hj => ?_, H4⟩
          have := HInv.out.rise 0 j (Nat.zero_le _) (by rw [← HNH.out]; exact hj)
          exact this
        case round =>
          clear H4
          obtain ⟨i, tl, rfl, rfl, hi1, hi2, HTl, H4⟩ := hrel
          by_cases hlt : i ≤ n
          · have htl := HTl.out i (Nat.le_refl _) hlt
            have HT5 : Hid (∀ j, i + 1 ≤ j → j ≤ n → tt H i ≤ tt H j) := fun j h1 h2 => HInv.out.rise i j (by omega) (by rw [← HNH.out]; exact h2)
            have KTi : Hid _ := fun X => KT.out X i hi1 hlt
            have hne : ∀ k, i = k + 1 → ∃ g off cc x, (.slice p n c : Value) = .slice (some ⟨g, off, none⟩) n (cc + 1) ∧ tt H i = x ∧ ∀ X, Ri w X B (.slice p n c) s H → X.cell? ⟨g, off + k * 2, none⟩ = some (.int .i64 x) := by
              intro k hk
              obtain ⟨xx, hxx⟩ : ∃ xx, H[k]? = some xx := ⟨_, List.getElem?_eq_getElem (by have := HNH.out; omega)⟩
              have hr := Ri.row H4.out
              rw [← HNH.out] at hr
              obtain ⟨g, off, cc, hv, _, _, _, _⟩ := hr.cells (by omega)
              refine ⟨g, off, cc, xx.1, hv, by rw [hk]; exact tt_at hxx, fun X hX => ?_⟩
              have hr2 := Ri.row hX
              rw [← HNH.out] at hr2
              obtain ⟨g2, off2, cc2, hv2, _, _, _, hc2⟩ := hr2.cells (by omega)
              rw [hv] at hv2
              injection hv2 with e1 e2 e3
              injection e1 with e1
              injection e1 with e1 e4
              subst e1 e4
              exact hc2 _ _ (entCells_at H k xx hxx).1
            generalize tt H i = x at htl HT5 KTi hne
            have hlti : (i : Int) ≤ (n : Int) := by omega
            have t5 : ¬ x < tl := by omega
            clear HTl
            rcases Nat.eq_zero_or_pos i with hz | hz
            · subst hz
              clear hne
              go_wp2_with fail
              refine Calls.mono (KL.out _ H4.out) ?_
              rintro e w5 ⟨rfl, h5⟩
              have H5 : Hid (Ri w w5 B (.slice p n c) s H) := h5
              clear h5 H4
              go_wp2_with fail
              refine Calls.mono (KTi.out _ H5.out) ?_
              rintro e w6 ⟨rfl, h6⟩
              have H6 : Hid (Ri w w6 B (.slice p n c) s H) := h6
              clear h6 H5
              go_wp2
              refine And.intro ?_ ?_
              · exact ⟨0 + 1, x, by go_num, rfl, by omega, by omega, HT5, H6⟩
              · simp [intOf]
            · obtain ⟨q, rfl⟩ : ∃ q, i = q + 1 := ⟨i - 1, by omega⟩
              obtain ⟨g, off, cc, x', hv, hxx, hcell⟩ := hne q rfl
              subst hxx
              injection hv with ev1 ev2 ev3
              subst ev1 ev3
              have HCe : Hid _ := hcell
              have hxe : (x != x) = false := by simp
              have hq1 : (0 : Int) ≤ (q : Int) := by omega
              have hq2 : (q : Int) < (n : Int) := by omega
              have hqw : wrap64 (q : Int) = (q : Int) := w64 q rfl (by omega)
              clear hne hcell ev2
              go_wp2_with fail
              refine Calls.mono (KL.out _ H4.out) ?_
              rintro e w5 ⟨rfl, h5⟩
              have H5 : Hid (Ri w w5 B (.slice (some ⟨g, off, none⟩) n (cc + 1)) s H) := h5
              clear h5 H4
              go_wp2_with fail
              refine Calls.mono (KTi.out _ H5.out) ?_
              rintro e w6 ⟨rfl, h6⟩
              have H6 : Hid (Ri w w6 B (.slice (some ⟨g, off, none⟩) n (cc + 1)) s H) := h6
              have y0 := HCe.out _ h6
              clear h6 H5
              go_wp2
              refine And.intro ?_ ?_
              · exact ⟨q + 1 + 1, x, by go_num, rfl, by omega, by omega, HT5, H6⟩
              · simp [intOf]; omega
          · obtain rfl : i = n + 1 := by omega
            go_wp2_with fail
            refine Calls.mono (KL.out _ H4.out) ?_
            rintro e w5 ⟨rfl, h5⟩
            have H5 : Hid (Ri w w5 B (.slice p n c) s H) := h5
            clear h5 H4
            go_wp2_with fail
            refine (HA.out _).mono ?_
            rintro e w6 ⟨rfl, hb3⟩
            have HB3 : Hid (Below w.heap.size w w6) := (Ri.old H5.out).trans (hb3.mono (Ri.old H5.out).size)
            clear hb3
            go_wp2
            go_ret
            exact ⟨rfl, HB3.out⟩

theorem laidOut : laidOutB Try.prog = true := by kernel_rfl

theorem own : ownKnob Try.prog.godebug = none := by kernel_rfl

set_option maxRecDepth 100000 in
theorem lifted (os : Os) (started : os.Started) (H : Type) (enc : TypeId × Value → H) :
    ReturnsInHanded {} Try.checked os 4 .any (Rows.rlogRisesSpec.pre6 enc Try.prog Try.f4 Rows.rlogRisesRow.domain false) (Rows.rlogRisesSpec.post enc Try.prog Try.f4 false true false false) := by
  refine returnsInHanded_of_change_sized (C := Try.checked) own started (by kernel_rfl) Try.func4
    (ChangeSpec.witness6 (enc := enc) (C := Try.checked) false ⟨#[], #[.slice none 0 0], []⟩ 8 (by kernel_rfl) (by kernel_rfl) (by kernel_rfl) (by kernel_rfl)) ?_
  intro W base args ds gs before hval0 hW _ hsz0 _
  have hsz : (DataW.weightsEach Try.prog (Try.f4.params.toList ++ Rows.rlogRisesSpec.plain.varTypes Try.prog) (ds ++ gs)).all (· ≤ reachBytes) = true := hsz0
  have hval : ∀ (j : Nat) t v, Try.f4.params[j]? = some t → args[j]? = some v → Value.okWide Try.prog W .any base t v := hval0
  have hW' := hW
  obtain ⟨p, q, hA0, hV, rfl, hfz, hnd⟩ := hW
  have hA : DataW.TrodAll enc Try.prog W 0 (fun _ => true) true Try.f4.params.toList args.toList ds p := hA0
  rw [Try.params4] at hA hval hsz
  obtain ⟨v0, vs0, d0, ds0, p0, q0, hargs, rfl, rfl, h0, r0⟩ := trodAll_cons hA
  obtain ⟨rfl, rfl, rfl⟩ := trodAll_nil r0
  obtain rfl : args = #[v0] := by cases args; simp_all
  obtain ⟨rfl, rfl⟩ := trodVars_none hV
  have k0 := h0
  have lt0 : ∀ x ∈ p0, x.block < W.heap.size := by obtain ⟨m, hm⟩ := k0; exact DataW.trod_lt m _ _ _ hm
  obtain ⟨a0, b0⟩ := open_ops6 (hval 0 22 v0 rfl rfl) h0
  clear hA0 hval0 hsz0
  refine (walk v0 a0 W b0).mono fun e W' ⟨he, bel⟩ => ?_
  subst he
  exact ⟨_, rfl, _, _, _, [], _, [], hW', trodAll_mk1 (shut_bool Try.underlying4 _), (trodAll_cons_mk (Below.trod laidOut (by kernel_rfl) (of_decide_eq_true (by kernel_rfl)) k0 bel lt0) trodAll_mk0), rfl, bel.frame _, fun h => by cases h⟩

theorem over : Rows.rlogRisesRow.holds Try.pinned (OpenSpec.ofChange Rows.rlogRisesSpec) :=
  OpenClaim.holds_of_wide 4 Try.f4 rfl rfl rfl rfl rfl rfl rfl ⟨rfl, rfl, rfl, rfl, rfl⟩ rfl rfl rfl rfl rfl (by kernel_rfl) Try.func4 (by kernel_rfl)
    (of_decide_eq_true (by kernel_rfl)) (by unfold Func.isWrapper; first | (rw [if_pos (by decide +kernel)]; kernel_rfl) | (rw [if_neg (by decide +kernel)]; exact ⟨rfl, rfl⟩))
    (fun os started H enc _ => lifted os started H enc)


end Go.Proofs.Ytamoapbbkaagdaa.rlogRises
namespace Go.Proofs.Ytamoapbbkaagdaa
/-- The statement. -/
theorem rlogRises_holds : Rows.RlogRisesSaid := rlogRises.over
end Go.Proofs.Ytamoapbbkaagdaa
