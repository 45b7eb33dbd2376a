/-
  The document's raft log: Entry, Cut, Compact.
-/
import Derived.Test.YtamoapbbkaagdaaRlRef3
namespace Go.Proofs.Ytamoapbbkaagdaa
open Go.RowKit

/-- A block of cells that was laid in this call: they read so, and may be written. -/
structure CellsAt (w X : World) (br : Nat) (cs : Array Value) : Prop where
  ge : w.heap.size ≤ br
  lt : br < X.heap.size
  c : ∀ j, X.cell? ⟨br, j, none⟩ = cs[j]?
  f : ∀ j, X.frozen? ⟨br, j, none⟩ = false

theorem CellsAt.below {w X Y : World} {br : Nat} {cs : Array Value} (h : CellsAt w X br cs) (hb : Below X.heap.size X Y) : CellsAt w Y br cs :=
  ⟨h.ge, Nat.lt_of_lt_of_le h.lt hb.size, fun j => (hb.cell (p := ⟨br, j, none⟩) h.lt).trans (h.c j), fun j => (hb.frozen (p := ⟨br, j, none⟩) h.lt).trans (h.f j)⟩

/-- Two blocks that were laid one behind the other. -/
theorem two_blocks (w : World) (c1 c2 : Array Value) (t1 t2 : TypeId) : ∃ u bx br, u = (w.alloc (.cells c1 t1)).alloc (.cells c2 t2) ∧ bx = w.heap.size ∧ br = w.heap.size + 1 ∧ Below w.heap.size w u ∧ CellsAt w u bx c1 ∧ CellsAt w u br c2 := by
  have e1 : (w.alloc (.cells c1 t1)).heap.size = w.heap.size + 1 := by simp
  refine ⟨_, _, _, rfl, rfl, rfl, (below_alloc _ _).trans ((below_alloc _ _).mono (by simp)), ⟨Nat.le_refl _, by simp; omega, fun j => ?_, fun j => ?_⟩, ⟨by omega, by simp, fun j => ?_, fun j => ?_⟩⟩
  · rw [World.cell?_alloc_lt _ _ _ (by simp)]
    exact World.cell?_alloc_mark w _ _ _ j
  · rw [(below_alloc (w.alloc (.cells c1 t1)) (.cells c2 t2)).frozen (p := ⟨w.heap.size, j, none⟩) (by simp), World.frozen?_alloc_mark]
    simp
  · have := World.cell?_alloc_mark (w.alloc (.cells c1 t1)) c2 t2 (0, 0) j
    rw [e1] at this
    exact this
  · have := World.frozen?_alloc_mark (w.alloc (.cells c1 t1)) c2 t2 0 0 j
    rw [e1] at this
    rw [this]
    simp

section
variable {w : World} {s : G.L} {v : Value}

/-- What the document's Entry answers. -/
def REntOut (w : World) (s : G.L) (i : Int) (e : Ending) (w' : World) : Prop := e = .returned (.tuple #[.agg #[.int .i64 (G.entryA s i).1, .string (G.entryA s i).2], .int .i64 (G.entryE s i)]) ∧ Below w.heap.size w w'

set_option maxHeartbeats 800000 in
set_option maxRecDepth 20000 in
theorem rEntry_c (h : EntR w v s.ents) (ok : G.Ok s) (i : Int) : Calls Try.prog 26 #[logV s v, .int .i64 i] w (REntOut w s i) := by
  have hb := ok.base
  have hlen := ok.len
  have HL : Hid (∀ u, Below w.heap.size w u → Calls Try.prog 30 #[logV s v] u fun e w' => e = .returned (.int .i64 (G.last s)) ∧ Below u.heap.size u w') := fun u hu => rLast_c (h.below hu) ok
  have HO : Hid (∀ u, Below w.heap.size w u → REntOut w s i (.returned (.tuple #[.agg #[.int .i64 (G.entryA s i).1, .string (G.entryA s i).2], .int .i64 (G.entryE s i)])) u) := fun u hu => ⟨rfl, hu⟩
  generalize REntOut w s i = Q at HO ⊢
  unfold G.entryA G.entryE G.within at HO
  obtain ⟨p, c, hv, hc1, hc2, hc3⟩ := h
  have hlast : G.last s = s.base + (s.ents.length : Int) := rfl
  obtain ⟨n, hn⟩ : ∃ n, n = s.ents.length := ⟨_, rfl⟩
  obtain ⟨u, bx, br, hu, hbx, hbr, hBu, hX, hR⟩ := two_blocks w #[.int .i64 s.base, .int .i64 s.term, .slice p n c] #[.int .i64 0, .string ⟨#[]⟩] 30 34
  have HBu : Hid _ := hBu
  have HR : Hid _ := hR
  have HX : Hid _ := hX
  have u0 : u.cell? ⟨bx, 0, none⟩ = some (.int .i64 s.base) := hX.c 0
  have u1 : u.cell? ⟨bx, 1, none⟩ = some (.int .i64 s.term) := hX.c 1
  have u2 : u.cell? ⟨bx, 2, none⟩ = some (.slice p n c) := hX.c 2
  have r0 : u.cell? ⟨br, 0, none⟩ = some (.int .i64 0) := hR.c 0
  have r1 : u.cell? ⟨br, 1, none⟩ = some (.string ⟨#[]⟩) := hR.c 1
  have f0 := hR.f 0
  have f1 := hR.f 1
  have HQu : Hid (∀ X y z, Below w.heap.size w X → Below w.heap.size w ((X.setCell ⟨br, 0, none⟩ y).setCell ⟨br, 1, none⟩ z)) := fun X y z hX => (hX.setCell (p := ⟨br, 0, none⟩) hR.ge y).setCell (p := ⟨br, 1, none⟩) hR.ge z
  by_cases c1 : i < s.base + 1
  · rw [if_pos c1, if_neg (by decide)] at HO
    unfold logV
    rw [hv, ← hn]
    obtain ⟨b, t, l⟩ := s
    dsimp only at *
    have d1 : i ≤ b := by omega
    clear HL hc3 hc2 hc1 hlast hv hlen hb hn hBu hX hR c1
    go_enter Try.func26, Try.ntmps26
    go_wp2_with fail
    rw [← hu, ← hbr, ← hbx]
    refine bodyPost_ret (v := .tuple #[.agg #[.int .i64 0, .string ⟨#[]⟩], .int .i64 60]) ?qres rfl ?qpost
    case qres => simp [results, Try.results26, go_sem, r0, r1]
    case qpost => exact HO.out _ HBu.out
  · by_cases c2 : G.last s < i
    · rw [if_neg c1, if_pos c2, if_neg (by decide)] at HO
      generalize G.last s = ll at HL c2 HO hlast
      unfold logV at HL ⊢
      rw [hv, ← hn] at HL ⊢
      obtain ⟨b, t, l⟩ := s
      dsimp only at *
      have d1 : ¬ i ≤ b := by omega
      clear hc3 hc2 hc1 hlast hv hlen hb hn hBu hX hR c1
      go_enter Try.func26, Try.ntmps26
      go_wp2_with fail
      rw [← hu, ← hbr, ← hbx]
      clear hu hbr hbx
      refine Calls.mono (HL.out _ HBu.out) ?_
      rintro e w1 ⟨rfl, hb1⟩
      have HB1 : Hid (Below w.heap.size w w1) := HBu.out.trans (hb1.mono HBu.out.size)
      have hR1 := CellsAt.below HR.out hb1
      have x0 : w1.cell? ⟨br, 0, none⟩ = some (.int .i64 0) := hR1.c 0
      have x1 : w1.cell? ⟨br, 1, none⟩ = some (.string ⟨#[]⟩) := hR1.c 1
      have g0 := hR1.f 0
      have g1 := hR1.f 1
      clear hb1 hR1 u0 u1 u2 r0 r1 f0 f1
      go_wp2
      refine bodyPost_ret (v := .tuple #[.agg #[.int .i64 0, .string ⟨#[]⟩], .int .i64 3]) ?qres rfl ?qpost
      case qres => simp [results, Try.results26, go_sem, x0, x1]
      case qpost => exact HO.out _ (HQu.out _ _ _ HB1.out)
    · rw [if_neg c1, if_neg c2, if_pos rfl] at HO
      unfold G.entAt at HO
      obtain ⟨k, hk⟩ : ∃ k : Nat, i - s.base - 1 = (k : Int) := ⟨(i - s.base - 1).toNat, by omega⟩
      have hkl : k < s.ents.length := by omega
      obtain ⟨x, hx⟩ : ∃ x, s.ents[k]? = some x := ⟨_, List.getElem?_eq_getElem hkl⟩
      rw [hk, Int.toNat_natCast, hx] at HO
      obtain ⟨g, off, rfl, hcell, hcell2⟩ : ∃ g off, p = some ⟨g, off, none⟩ ∧ w.cell? ⟨g, off + k * 2, none⟩ = some (.int .i64 x.1) ∧ w.cell? ⟨g, off + k * 2 + 1, none⟩ = some (.string x.2) := by
        rcases hc3 with e | ⟨g, off, e1, e2⟩
        · rw [e] at hx; simp at hx
        · exact ⟨g, off, e1, e2 k x hx⟩
      generalize G.last s = ll at HL c2 HO hlast
      unfold logV at HL ⊢
      rw [hv, ← hn] at HL ⊢
      rw [← hn] at hkl hc1
      obtain ⟨b, t, l⟩ := s
      dsimp only at *
      have d1 : ¬ i ≤ b := by omega
      have hgl : g < w.heap.size := World.block_lt_of_cell? _ _ hcell
      have hgu : g < u.heap.size := Nat.lt_of_lt_of_le hgl HBu.out.size
      have u3 : u.cell? ⟨g, off + k * 2, none⟩ = some (.int .i64 x.1) := (HBu.out.cell (p := ⟨g, off + k * 2, none⟩) hgl).trans hcell
      have u4 : u.cell? ⟨g, off + k * 2 + 1, none⟩ = some (.string x.2) := (HBu.out.cell (p := ⟨g, off + k * 2 + 1, none⟩) hgl).trans hcell2
      have hbxu := hX.lt
      have HQ : Hid (wrap64 (i - b) = ((k + 1 : Nat) : Int) ∧ wrap64 (((k + 1 : Nat) : Int) - 1) = (k : Int)) := ⟨w64 _ (by omega) (by omega), w64 _ (by omega) (by omega)⟩
      have hk0 : (0 : Int) ≤ (k : Int) := by omega
      have hk1 : (k : Int) < (n : Int) := by omega
      clear hc3 hc2 hc1 hlast hv hlen hb hcell hcell2 hx hn hk hgl hBu hX hR c1
      obtain ⟨x1, x2⟩ := x
      dsimp only at u3 u4 HO
      obtain ⟨kp, hkp⟩ : ∃ kp, kp = k + 1 := ⟨_, rfl⟩
      rw [← hkp] at HQ
      clear hkp
      go_enter Try.func26, Try.ntmps26
      go_wp2_with fail
      rw [← hu, ← hbr, ← hbx]
      clear hu hbr hbx
      refine Calls.mono (HL.out _ HBu.out) ?_
      rintro e w1 ⟨rfl, hb1⟩
      have HB1 : Hid (Below w.heap.size w w1) := HBu.out.trans (hb1.mono HBu.out.size)
      have hR1 := CellsAt.below HR.out hb1
      have q0 : w1.cell? ⟨br, 0, none⟩ = some (.int .i64 0) := hR1.c 0
      have q1 : w1.cell? ⟨br, 1, none⟩ = some (.string ⟨#[]⟩) := hR1.c 1
      have g0 := hR1.f 0
      have g1 := hR1.f 1
      have z0 := (hb1.cell (p := ⟨bx, 0, none⟩) hbxu).trans u0
      have z2 := (hb1.cell (p := ⟨bx, 2, none⟩) hbxu).trans u2
      have z3 := (hb1.cell (p := ⟨g, off + k * 2, none⟩) hgu).trans u3
      have z4 := (hb1.cell (p := ⟨g, off + k * 2 + 1, none⟩) hgu).trans u4
      clear hb1 hR1 u0 u1 u2 u3 u4 r0 r1 f0 f1
      obtain ⟨q2, q3⟩ := HQ.out
      go_wp2
      refine bodyPost_ret (v := .tuple #[.agg #[.int .i64 x1, .string x2], .int .i64 0]) ?qres rfl ?qpost
      case qres => simp [results, Try.results26, go_sem, q0, q1]
      case qpost => exact HO.out _ (HQu.out _ _ _ HB1.out)

/-- What the document's Cut and Compact answer. -/
def RLogOut (w : World) (v : Value) (s' : G.L) (c : Int) (e : Ending) (w' : World) : Prop := ∃ v', e = .returned (.tuple #[logV s' v', .int .i64 c]) ∧ EntR w' v' s'.ents ∧ Below w.heap.size w w' ∧ ∀ k, readBlk v' = some k → readBlk v = some k ∨ w.heap.size ≤ k

theorem EntR.cutTo {w : World} {p : Option Addr} {n c : Nat} {l : List (Int × ByteArray)} (h : EntR w (.slice p n c) l) {k : Nat} (hk : k ≤ n) : EntR w (.slice p k k) (l.take k) := by
  obtain ⟨p0, c0, e, h1, h2, h3⟩ := h
  injection e with e1 e2 e3
  subst e1 e3
  have hl : (l.take k).length = k := by rw [List.length_take]; omega
  refine ⟨p, k, by rw [hl], by omega, by omega, ?_⟩
  rcases h3 with e | ⟨g, off, hp, hc⟩
  · exact .inl (by rw [e]; simp)
  · refine .inr ⟨g, off, hp, fun i x hx => ?_⟩
    rw [List.getElem?_take] at hx
    split at hx
    · exact hc i x hx
    · cases hx

theorem run_cutH3' (p : Option Addr) (n c h : Nat) (h1 : h ≤ c) (W : World) :
    (Instr.slice 28 (.slice p n c) none (some (.int .i64 (h : Int))) (some (.int .i64 (h : Int)))).run Try.prog W = .ok (.slice p h h) W := by
  have e : (if h = 0 then p else p.map (·.add (0 * 2))) = p := by
    split
    · rfl
    · cases p <;> simp [Addr.add]
  simp [Instr.slice, run_underlying Try.underlying28, Instr.sliceBounds, Instr.sliceBound, asIntOf, h1]
  first | exact e | (cases p <;> simp [Addr.add])

set_option maxHeartbeats 800000 in
set_option maxRecDepth 20000 in
theorem rCut_c (h : EntR w v s.ents) (ok : G.Ok s) (i : Int) : Calls Try.prog 23 #[logV s v, .int .i64 i] w (RLogOut w v (G.cut s i) (G.cutE s i)) := by
  have hb := ok.base
  have hlen := ok.len
  have hll := ok.last
  have HL : Hid (∀ u, Below w.heap.size w u → Calls Try.prog 30 #[logV s v] u fun e w' => e = .returned (.int .i64 (G.last s)) ∧ Below u.heap.size u w') := fun u hu => rLast_c (h.below hu) ok
  have HNo : Hid (∀ c, G.cutE s i = c → c ≠ 0 → ∀ u, Below w.heap.size w u → RLogOut w v (G.cut s i) (G.cutE s i) (.returned (.tuple #[logV s v, .int .i64 c])) u) := by
    intro c hc h0 u hu
    have e : G.cut s i = s := by unfold G.cut; rw [if_neg (by rw [hc]; exact h0)]
    rw [e, hc]
    exact ⟨v, rfl, h.below hu, hu, fun k hk => .inl hk⟩
  have HYes : Hid (∀ k : Nat, G.cutE s i = 0 → i - s.base - 1 = (k : Int) → k ≤ s.ents.length → ∀ p c, v = .slice p s.ents.length c → ∀ u, Below w.heap.size w u → RLogOut w v (G.cut s i) (G.cutE s i) (.returned (.tuple #[.agg #[.int .i64 s.base, .int .i64 s.term, .slice p k k], .int .i64 0])) u) := by
    intro k h0 hk hkl p c hv u hu
    rw [h0]
    have e : G.cut s i = { s with ents := s.ents.take k } := by unfold G.cut; rw [if_pos h0, hk, Int.toNat_natCast]
    rw [e]
    rw [hv] at h
    refine ⟨.slice p k k, rfl, (EntR.cutTo h hkl).below hu, hu, fun j hj => .inl ?_⟩
    rw [hv]
    cases k with
    | zero => cases p <;> simp [readBlk] at hj
    | succ k =>
      obtain ⟨m, hm⟩ : ∃ m, s.ents.length = m + 1 := ⟨s.ents.length - 1, by omega⟩
      rw [hm]
      cases p <;> simp [readBlk] at hj ⊢
      exact hj
  obtain ⟨p, c, hv, hc1, hc2, hc3⟩ := h
  generalize RLogOut w v (G.cut s i) (G.cutE s i) = Q at HNo HYes ⊢
  have hcE : G.cutE s i = if i < s.base + 1 then 60 else if G.last s + 1 < i then 3 else 0 := rfl
  have hlast : G.last s = s.base + (s.ents.length : Int) := rfl
  obtain ⟨n, hn⟩ : ∃ n, n = s.ents.length := ⟨_, rfl⟩
  obtain ⟨u, bx, br, hu, hbx, hbr, hBu, hX, hR⟩ := two_blocks w #[.int .i64 s.base, .int .i64 s.term, .slice p n c] #[.int .i64 0, .int .i64 0, .slice none 0 0] 30 30
  have HBu : Hid _ := hBu
  have HR : Hid _ := hR
  have HX : Hid _ := hX
  have u0 : u.cell? ⟨bx, 0, none⟩ = some (.int .i64 s.base) := hX.c 0
  have u1 : u.cell? ⟨bx, 1, none⟩ = some (.int .i64 s.term) := hX.c 1
  have u2 : u.cell? ⟨bx, 2, none⟩ = some (.slice p n c) := hX.c 2
  have r0 : u.cell? ⟨br, 0, none⟩ = some (.int .i64 0) := hR.c 0
  have r1 : u.cell? ⟨br, 1, none⟩ = some (.int .i64 0) := hR.c 1
  have r2 : u.cell? ⟨br, 2, none⟩ = some (.slice none 0 0) := hR.c 2
  have hne : bx ≠ br := by omega
  have HQu : Hid (∀ X x y z, Below w.heap.size w X → Below w.heap.size w (((X.setCell ⟨br, 0, none⟩ x).setCell ⟨br, 1, none⟩ y).setCell ⟨br, 2, none⟩ z)) := fun X x y z hX => below_set3 hX hR.ge x y z
  have HQx : Hid (∀ X x, Below w.heap.size w X → Below w.heap.size w (X.setCell ⟨bx, 2, none⟩ x)) := fun X x hX' => hX'.setCell (p := ⟨bx, 2, none⟩) hX.ge x
  by_cases c1 : i < s.base + 1
  · rw [if_pos c1] at hcE
    have HO := HNo.out 60 hcE (by decide)
    have HO : Hid _ := HO
    unfold logV at HO ⊢
    rw [hv, ← hn] at HO ⊢
    obtain ⟨b, t, l⟩ := s
    dsimp only at *
    have d1 : i ≤ b := by omega
    clear HL hc3 hc2 hc1 hlast hv hlen hb hn hBu hX hR c1 HNo HYes hcE hll
    go_enter Try.func23, Try.ntmps23
    go_wp2
    refine bodyPost_ret (v := .tuple #[.agg #[.int .i64 b, .int .i64 t, .slice p n c], .int .i64 60]) ?qres rfl ?qpost
    case qres => simp [results, Try.results23, go_sem]
    case qpost => exact HO.out _ ((below_alloc _ _).trans ((below_alloc _ _).mono (by simp)))
  · by_cases c2 : G.last s + 1 < i
    · rw [if_neg c1, if_pos c2] at hcE
      have HO := HNo.out 3 hcE (by decide)
      have HO : Hid _ := HO
      have hl0 : 0 ≤ G.last s := by omega
      have hw2 : IntKind.i64.wrap (G.last s + 1) = G.last s + 1 := by rw [IntKind.wrap_i64]; omega
      generalize G.last s = ll at HL c2 hlast hw2
      unfold logV at HO HL ⊢
      rw [hv, ← hn] at HO HL ⊢
      obtain ⟨b, t, l⟩ := s
      dsimp only at *
      have d1 : ¬ i ≤ b := by omega
      clear hc3 hc2 hc1 hlast hv hlen hb hn hBu hR c1 HNo HYes hcE hll hl0
      have hbxu := hX.lt
      clear hX
      go_enter Try.func23, Try.ntmps23
      go_wp2_with fail
      rw [← hu, ← hbr, ← hbx]
      clear hu hbr hbx
      refine Calls.mono (HL.out _ HBu.out) ?_
      rintro e w1 ⟨rfl, hb1⟩
      have HB1 : Hid (Below w.heap.size w w1) := HBu.out.trans (hb1.mono HBu.out.size)
      have hR1 := CellsAt.below HR.out hb1
      have x0 : w1.cell? ⟨br, 0, none⟩ = some (.int .i64 0) := hR1.c 0
      have x1 : w1.cell? ⟨br, 1, none⟩ = some (.int .i64 0) := hR1.c 1
      have x2 : w1.cell? ⟨br, 2, none⟩ = some (.slice none 0 0) := hR1.c 2
      have g0 := hR1.f 0
      have g1 := hR1.f 1
      have g2 := hR1.f 2
      have z0 := (hb1.cell (p := ⟨bx, 0, none⟩) hbxu).trans u0
      have z1 := (hb1.cell (p := ⟨bx, 1, none⟩) hbxu).trans u1
      have z2 := (hb1.cell (p := ⟨bx, 2, none⟩) hbxu).trans u2
      clear hb1 hR1 u0 u1 u2 r0 r1 r2
      go_wp2
      refine bodyPost_ret (v := .tuple #[.agg #[.int .i64 b, .int .i64 t, .slice p n c], .int .i64 3]) ?qres rfl ?qpost
      case qres => simp [results, Try.results23, go_sem, x0, x1, x2]
      case qpost => exact HO.out _ (HQu.out _ _ _ _ HB1.out)
    · rw [if_neg c1, if_neg c2] at hcE
      obtain ⟨k, hk⟩ : ∃ k : Nat, i - s.base - 1 = (k : Int) := ⟨(i - s.base - 1).toNat, by omega⟩
      have hkl : k ≤ s.ents.length := by omega
      have HO := HYes.out k hcE hk hkl p c hv
      have HO : Hid _ := HO
      have hl0 : 0 ≤ G.last s := by omega
      have hw2 : IntKind.i64.wrap (G.last s + 1) = G.last s + 1 := by rw [IntKind.wrap_i64]; omega
      generalize G.last s = ll at HL c2 hlast hw2
      unfold logV at HL ⊢
      rw [hv, ← hn] at HL ⊢
      rw [← hn] at hkl hc1
      obtain ⟨b, t, l⟩ := s
      dsimp only at *
      have d1 : ¬ i ≤ b := by omega
      have hsl := run_cutH3' p n c k (by omega)
      have HQ : Hid (wrap64 (i - b) = ((k + 1 : Nat) : Int) ∧ wrap64 (((k + 1 : Nat) : Int) - 1) = (k : Int)) := ⟨w64 _ (by omega) (by omega), w64 _ (by omega) (by omega)⟩
      obtain ⟨kp, hkp⟩ : ∃ kp, kp = k + 1 := ⟨_, rfl⟩
      rw [← hkp] at HQ
      clear hc3 hc2 hc1 hlast hv hlen hb hn hBu hR c1 HNo HYes hcE hll hl0 hkp hk hkl
      have hbxu := hX.lt
      clear hX
      go_enter Try.func23, Try.ntmps23
      go_wp2_with fail
      rw [← hu, ← hbr, ← hbx]
      clear hu hbr hbx
      refine Calls.mono (HL.out _ HBu.out) ?_
      rintro e w1 ⟨rfl, hb1⟩
      have HB1 : Hid (Below w.heap.size w w1) := HBu.out.trans (hb1.mono HBu.out.size)
      have hR1 := CellsAt.below HR.out hb1
      have x0 : w1.cell? ⟨br, 0, none⟩ = some (.int .i64 0) := hR1.c 0
      have x1 : w1.cell? ⟨br, 1, none⟩ = some (.int .i64 0) := hR1.c 1
      have x2 : w1.cell? ⟨br, 2, none⟩ = some (.slice none 0 0) := hR1.c 2
      have g0 := hR1.f 0
      have g1 := hR1.f 1
      have g2 := hR1.f 2
      have hX1 := CellsAt.below HX.out hb1
      have z0 : w1.cell? ⟨bx, 0, none⟩ = some (.int .i64 b) := hX1.c 0
      have z1 : w1.cell? ⟨bx, 1, none⟩ = some (.int .i64 t) := hX1.c 1
      have z2 : w1.cell? ⟨bx, 2, none⟩ = some (.slice p n c) := hX1.c 2
      have zf2 := hX1.f 2
      clear hb1 hR1 hX1 u0 u1 u2 r0 r1 r2
      obtain ⟨q1, q2⟩ := HQ.out
      go_wp2
      refine bodyPost_ret (v := .tuple #[.agg #[.int .i64 b, .int .i64 t, .slice p k k], .int .i64 0]) ?qres rfl ?qpost
      case qres => simp [results, Try.results23, go_sem, x0, x1, x2]
      case qpost => exact HO.out _ (HQu.out _ _ _ _ (HQx.out _ _ HB1.out))

end
end Go.Proofs.Ytamoapbbkaagdaa
