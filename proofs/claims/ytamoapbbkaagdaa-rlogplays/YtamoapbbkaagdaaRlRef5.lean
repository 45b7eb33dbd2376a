/-
  The document's raft log: Compact, Append.
-/
import Derived.Test.YtamoapbbkaagdaaRlRef4
namespace Go.Proofs.Ytamoapbbkaagdaa
open Go.RowKit

theorem cutP_drop {w : World} {p : Option Addr} {n c : Nat} {l : List (Int × ByteArray)} (h : EntR w (.slice p n c) l) {k : Nat} (hk : k ≤ n) : EntR w (.slice (cutP p k c 2) (n - k) (c - k)) (l.drop k) ∧ ∀ q, readBlk (.slice (cutP p k c 2) (n - k) (c - k)) = some q → readBlk (.slice p n c) = some q := by
  refine EntR.drop h hk (p' := cutP p k c 2) ?_
  unfold cutP
  by_cases e : c = k
  · exact .inl ⟨by rw [if_pos e], by omega⟩
  · right
    intro a ha
    rw [if_neg e, ha]
    rfl

section
variable {w : World} {s : G.L} {v : Value}

set_option maxHeartbeats 800000 in
set_option maxRecDepth 20000 in
theorem rCompact_c (h : EntR w v s.ents) (ok : G.Ok s) (i : Int) : Calls Try.prog 24 #[logV s v, .int .i64 i] w (RLogOut w v (G.cmp s i) (G.termE s i)) := by
  have hb := ok.base
  have hlen := ok.len
  have HT : Hid (∀ u, Below w.heap.size w u → Calls Try.prog 25 #[logV s v, .int .i64 i] u fun e w' => e = .returned (.tuple #[.int .i64 (G.termA s i), .int .i64 (G.termE s i)]) ∧ Below u.heap.size u w') := fun u hu => rTerm_c (h.below hu) ok i
  have HNo : Hid (G.termE s i ≠ 0 → ∀ u, Below w.heap.size w u → RLogOut w v (G.cmp s i) (G.termE s i) (.returned (.tuple #[logV s v, .int .i64 (G.termE s i)])) u) := by
    intro h0 u hu
    have e : G.cmp s i = s := by unfold G.cmp; rw [if_neg h0]
    rw [e]
    exact ⟨v, rfl, h.below hu, hu, fun k hk => .inl hk⟩
  have HYes : Hid (∀ k : Nat, G.termE s i = 0 → i - s.base = (k : Int) → k ≤ s.ents.length → ∀ p c, v = .slice p s.ents.length c → ∀ u, Below w.heap.size w u → RLogOut w v (G.cmp s i) (G.termE s i) (.returned (.tuple #[.agg #[.int .i64 i, .int .i64 (G.termA s i), .slice (cutP p k c 2) (s.ents.length - k) (c - k)], .int .i64 0])) u) := by
    intro k h0 hk hkl p c hv u hu
    have e : G.cmp s i = ⟨i, G.termA s i, s.ents.drop k⟩ := by unfold G.cmp G.termA; rw [if_pos h0, if_pos h0, hk, Int.toNat_natCast]
    rw [h0, e]
    rw [hv] at h
    exact ⟨_, rfl, (cutP_drop h hkl).1.below hu, hu, fun j hj => .inl (by rw [hv]; exact (cutP_drop h hkl).2 j hj)⟩
  obtain ⟨p, c, hv, hc1, hc2, hc3⟩ := h
  generalize RLogOut w v (G.cmp s i) (G.termE s i) = Q at HNo HYes ⊢
  have hlast : G.last s = s.base + (s.ents.length : Int) := rfl
  obtain ⟨n, hn⟩ : ∃ n, n = s.ents.length := ⟨_, rfl⟩
  obtain ⟨u, bx, br, hu, hbx, hbr, hBu, hX, hR⟩ := two_blocks w #[.int .i64 s.base, .int .i64 s.term, .slice p n c] #[.int .i64 0, .int .i64 0, .slice none 0 0] 30 30
  have HBu : Hid _ := hBu
  have HR : Hid _ := hR
  have HX : Hid _ := hX
  have u0 : u.cell? ⟨bx, 0, none⟩ = some (.int .i64 s.base) := hX.c 0
  have u1 : u.cell? ⟨bx, 1, none⟩ = some (.int .i64 s.term) := hX.c 1
  have u2 : u.cell? ⟨bx, 2, none⟩ = some (.slice p n c) := hX.c 2
  have hne : bx ≠ br := by omega
  have HQu : Hid (∀ X x y z, Below w.heap.size w X → Below w.heap.size w (((X.setCell ⟨br, 0, none⟩ x).setCell ⟨br, 1, none⟩ y).setCell ⟨br, 2, none⟩ z)) := fun X x y z hX => below_set3 hX hR.ge x y z
  have HQx : Hid (∀ X j x, Below w.heap.size w X → Below w.heap.size w (X.setCell ⟨bx, j, none⟩ x)) := fun X j x hX' => hX'.setCell (p := ⟨bx, j, none⟩) hX.ge x
  by_cases c1 : G.termE s i = 0
  · have hi := G.within_zero.1 c1
    obtain ⟨k, hk⟩ : ∃ k : Nat, i - s.base = (k : Int) := ⟨(i - s.base).toNat, by omega⟩
    have hkl : k ≤ s.ents.length := by omega
    have HO : Hid _ := HYes.out k c1 hk hkl p c hv
    rw [c1] at HT
    generalize G.termA s i = ta at HT HO
    unfold logV at HT ⊢
    rw [hv, ← hn] at HT ⊢
    rw [← hn] at hkl hc1 HO
    have hsl := run_cutLow p n c k hkl
    generalize cutP p k c 2 = p' at hsl HO
    obtain ⟨nk, hnk⟩ : ∃ nk, nk = n - k := ⟨_, rfl⟩
    obtain ⟨ck, hck⟩ : ∃ ck, ck = c - k := ⟨_, rfl⟩
    rw [← hnk, ← hck] at hsl HO
    obtain ⟨b, t, l⟩ := s
    dsimp only at *
    have hq : wrap64 (i - b) = (k : Int) := w64 _ (by omega) (by omega)
    clear hc3 hc2 hc1 hlast hv hlen hb hn hBu hR c1 HNo HYes hX hi hk hkl hnk hck
    go_enter Try.func24, Try.ntmps24
    go_wp2_with fail
    rw [← hu, ← hbr, ← hbx]
    clear hu hbr hbx
    refine Calls.mono (HT.out _ HBu.out) ?_
    rintro e w1 ⟨rfl, hb1⟩
    have HB1 : Hid (Below w.heap.size w w1) := HBu.out.trans (hb1.mono HBu.out.size)
    have hR1 := CellsAt.below HR.out hb1
    have x0 : w1.cell? ⟨br, 0, none⟩ = some (.int .i64 0) := hR1.c 0
    have x1 : w1.cell? ⟨br, 1, none⟩ = some (.int .i64 0) := hR1.c 1
    have x2 : w1.cell? ⟨br, 2, none⟩ = some (.slice none 0 0) := hR1.c 2
    have g0 := hR1.f 0
    have g1 := hR1.f 1
    have g2 := hR1.f 2
    have hX1 := CellsAt.below HX.out hb1
    have z0 : w1.cell? ⟨bx, 0, none⟩ = some (.int .i64 b) := hX1.c 0
    have z1 : w1.cell? ⟨bx, 1, none⟩ = some (.int .i64 t) := hX1.c 1
    have z2 : w1.cell? ⟨bx, 2, none⟩ = some (.slice p n c) := hX1.c 2
    have zf0 := hX1.f 0
    have zf1 := hX1.f 1
    have zf2 := hX1.f 2
    clear hb1 hR1 hX1 u0 u1 u2
    go_wp2
    refine bodyPost_ret (v := .tuple #[.agg #[.int .i64 i, .int .i64 ta, .slice p' nk ck], .int .i64 0]) ?qres rfl ?qpost
    case qres => simp [results, Try.results24, go_sem, x0, x1, x2]
    case qpost => exact HO.out _ (HQu.out _ _ _ _ (HQx.out _ _ _ (HQx.out _ _ _ (HQx.out _ _ _ HB1.out))))
  · have HO : Hid _ := HNo.out c1
    have t0 : (G.termE s i != 0) = true := by simpa using c1
    generalize G.termE s i = te at HT HO t0
    generalize G.termA s i = ta at HT
    unfold logV at HT HO ⊢
    rw [hv, ← hn] at HT HO ⊢
    obtain ⟨b, t, l⟩ := s
    dsimp only at *
    clear hc3 hc2 hc1 hlast hv hlen hb hn hBu hR c1 HNo HYes hX
    go_enter Try.func24, Try.ntmps24
    go_wp2_with fail
    rw [← hu, ← hbr, ← hbx]
    clear hu hbr hbx
    refine Calls.mono (HT.out _ HBu.out) ?_
    rintro e w1 ⟨rfl, hb1⟩
    have HB1 : Hid (Below w.heap.size w w1) := HBu.out.trans (hb1.mono HBu.out.size)
    have hR1 := CellsAt.below HR.out hb1
    have x0 : w1.cell? ⟨br, 0, none⟩ = some (.int .i64 0) := hR1.c 0
    have x1 : w1.cell? ⟨br, 1, none⟩ = some (.int .i64 0) := hR1.c 1
    have x2 : w1.cell? ⟨br, 2, none⟩ = some (.slice none 0 0) := hR1.c 2
    have g0 := hR1.f 0
    have g1 := hR1.f 1
    have g2 := hR1.f 2
    have hX1 := CellsAt.below HX.out hb1
    have z0 : w1.cell? ⟨bx, 0, none⟩ = some (.int .i64 b) := hX1.c 0
    have z1 : w1.cell? ⟨bx, 1, none⟩ = some (.int .i64 t) := hX1.c 1
    have z2 : w1.cell? ⟨bx, 2, none⟩ = some (.slice p n c) := hX1.c 2
    clear hb1 hR1 hX1 u0 u1 u2
    go_wp2
    refine bodyPost_ret (v := .tuple #[.agg #[.int .i64 b, .int .i64 t, .slice p n c], .int .i64 te]) ?qres rfl ?qpost
    case qres => simp [results, Try.results24, go_sem, x0, x1, x2]
    case qpost => exact HO.out _ (HQu.out _ _ _ _ HB1.out)

/-- Three blocks that were laid one behind the other. -/
theorem three_blocks (w : World) (c1 c2 c3 : Array Value) (t1 t2 t3 : TypeId) : ∃ u bx be br, u = ((w.alloc (.cells c1 t1)).alloc (.cells c2 t2)).alloc (.cells c3 t3) ∧ bx = w.heap.size ∧ be = w.heap.size + 1 ∧ br = w.heap.size + 1 + 1 ∧ Below w.heap.size w u ∧ CellsAt w u bx c1 ∧ CellsAt w u be c2 ∧ CellsAt w u br c3 := by
  obtain ⟨u, bx, be, hu, h1, h2, h3, h4, h5⟩ := two_blocks w c1 c2 t1 t2
  have hsz : u.heap.size = w.heap.size + 1 + 1 := by rw [hu]; simp
  refine ⟨u.alloc (.cells c3 t3), bx, be, u.heap.size, by rw [hu], h1, h2, hsz, h3.trans ((below_alloc _ _).mono h3.size), h4.below (below_alloc _ _), h5.below (below_alloc _ _), ⟨h3.size, by simp, fun j => World.cell?_alloc_mark u _ _ _ j, fun j => by rw [World.frozen?_alloc_mark]; simp⟩⟩

/-- The three blocks of a call of Append. -/
structure A3 (w X : World) (bx be br : Nat) (c1 c2 c3 : Array Value) : Prop where
  old : Below w.heap.size w X
  x : CellsAt w X bx c1
  e : CellsAt w X be c2
  r : CellsAt w X br c3

theorem A3.below {w X Y : World} {bx be br : Nat} {c1 c2 c3 : Array Value} (h : A3 w X bx be br c1 c2 c3) (hb : Below X.heap.size X Y) : A3 w Y bx be br c1 c2 c3 :=
  ⟨h.old.trans (hb.mono h.old.size), h.x.below hb, h.e.below hb, h.r.below hb⟩

/-- What the document's Append answers. -/
def RAppOut (w : World) (v : Value) (s : G.L) (x : Int × ByteArray) (e : Ending) (w' : World) : Prop := ∃ v', e = .returned (.tuple #[logV (G.app s x) v', .int .i64 (G.appA s x), .int .i64 (G.appE s x)]) ∧ EntR w' v' (G.app s x).ents ∧ Below w.heap.size w w' ∧ ∀ k, readBlk v' = some k → readBlk v = some k ∨ w.heap.size ≤ k

theorem EntR.rowSrc {w : World} {p : Option Addr} {n c : Nat} {l : List (Int × ByteArray)} (h : EntR w (.slice p n c) l) : Src Try.prog 2 28 (.slice p n c) n (entCells l) w := by
  obtain ⟨p0, c0, hv, h1, h2, h3⟩ := h
  injection hv with e1 e2 e3
  subst e1 e3
  have hl : (entCells l).length = n * 2 := by rw [entCells_len, e2]
  rcases h3 with e | ⟨g, off, rfl, hc⟩
  · subst e
    have hn : n = 0 := e2
    subst hn
    cases p with
    | none => exact Src.ofNil w Try.underlying28 c
    | some a => exact Src.ofSlice w Try.underlying28 _ _ _ _ (by rfl) (fun j u hu => by simp [entCells] at hu) (fun u hu => by simp [entCells] at hu)
  · refine Src.ofSlice w Try.underlying28 _ _ _ _ hl (fun j u hu => ?_) (entCells_one l)
    rw [Addr.add_lit]
    have hj := (List.getElem?_eq_some_iff.1 hu).1
    rw [entCells_len] at hj
    have hk : j / 2 < l.length := by omega
    obtain ⟨x, hx⟩ : ∃ x, l[j / 2]? = some x := ⟨_, List.getElem?_eq_getElem hk⟩
    obtain ⟨a1, a2⟩ := entCells_at l (j / 2) x hx
    obtain ⟨b1, b2⟩ := hc (j / 2) x hx
    have : j = j / 2 * 2 ∨ j = j / 2 * 2 + 1 := by omega
    rcases this with e | e
    · rw [e] at hu ⊢
      rw [a1] at hu
      injection hu with hu
      subst hu
      exact b1
    · rw [e] at hu ⊢
      rw [a2] at hu
      injection hu with hu
      subst hu
      rw [← Nat.add_assoc]
      exact b2

set_option maxHeartbeats 1600000 in
set_option maxRecDepth 20000 in
theorem rAppend_c (h : EntR w v s.ents) (ok : G.Ok s) (x : Int × ByteArray) : Calls Try.prog 22 #[logV s v, .agg #[.int .i64 x.1, .string x.2]] w (RAppOut w v s x) := by
  obtain ⟨b, t, l⟩ := s
  obtain ⟨tx, dx⟩ := x
  dsimp only at h ok ⊢
  have hb : 0 ≤ b := ok.base
  have hlen : l.length ≤ 1099511627776 ∧ b ≤ 1099511627776 := ok.len
  have hll := ok.last
  have HNo : Hid (∀ c, G.appE ⟨b, t, l⟩ (tx, dx) = c → c ≠ 0 → ∀ u, Below w.heap.size w u → RAppOut w v ⟨b, t, l⟩ (tx, dx) (.returned (.tuple #[logV ⟨b, t, l⟩ v, .int .i64 0, .int .i64 c])) u) := by
    intro c hc h0 u hu
    unfold RAppOut G.app G.appA
    rw [hc, if_neg h0, if_neg h0]
    exact ⟨v, rfl, h.below hu, hu, fun k hk => .inl hk⟩
  have HEnt : Hid (EntR w v l) := h
  obtain ⟨p, c, hv, hc1, hc2, hc3⟩ := h
  have hEq : G.appE ⟨b, t, l⟩ (tx, dx) = if 1099511627776 < tx ∨ 262144 < dx.size then 1 else if tx < G.termAt ⟨b, t, l⟩ (G.last ⟨b, t, l⟩) then 50 else if G.last ⟨b, t, l⟩ = 1099511627776 then 2 else 0 := rfl
  have hlast : G.last ⟨b, t, l⟩ = b + (l.length : Int) := rfl
  obtain ⟨n, hn⟩ : ∃ n, n = l.length := ⟨_, rfl⟩
  obtain ⟨u, bx, be, br, hu, hbx, hbe, hbr, hBu, hX, hE, hR⟩ := three_blocks w #[.int .i64 b, .int .i64 t, .slice p n c] #[.int .i64 tx, .string dx] #[.int .i64 0, .int .i64 0, .slice none 0 0] 30 34 30
  have hA3 : A3 w u bx be br #[.int .i64 b, .int .i64 t, .slice p n c] #[.int .i64 tx, .string dx] #[.int .i64 0, .int .i64 0, .slice none 0 0] := ⟨hBu, hX, hE, hR⟩
  have HL : Hid (∀ u, A3 w u bx be br #[.int .i64 b, .int .i64 t, .slice p n c] #[.int .i64 tx, .string dx] #[.int .i64 0, .int .i64 0, .slice none 0 0] → Calls Try.prog 30 #[.agg #[.int .i64 b, .int .i64 t, .slice p n c]] u fun e w' => e = .returned (.int .i64 (G.last ⟨b, t, l⟩)) ∧ A3 w w' bx be br #[.int .i64 b, .int .i64 t, .slice p n c] #[.int .i64 tx, .string dx] #[.int .i64 0, .int .i64 0, .slice none 0 0]) := by
    intro u hu
    have := rLast_c (HEnt.out.below hu.old) ok
    unfold logV at this
    rw [hv, ← hn] at this
    refine this.mono ?_
    rintro e w' ⟨he, hb⟩
    exact ⟨he, hu.below hb⟩
  have HE : Hid (∀ u, A3 w u bx be br #[.int .i64 b, .int .i64 t, .slice p n c] #[.int .i64 tx, .string dx] #[.int .i64 0, .int .i64 0, .slice none 0 0] → Calls Try.prog 38 #[.agg #[.int .i64 b, .int .i64 t, .slice p n c]] u fun e w' => e = .returned (.int .i64 (G.termAt ⟨b, t, l⟩ (G.last ⟨b, t, l⟩))) ∧ A3 w w' bx be br #[.int .i64 b, .int .i64 t, .slice p n c] #[.int .i64 tx, .string dx] #[.int .i64 0, .int .i64 0, .slice none 0 0]) := by
    intro u hu
    have := rEnd_c (HEnt.out.below hu.old) ok
    unfold logV at this
    rw [hv, ← hn] at this
    refine this.mono ?_
    rintro e w' ⟨he, hb⟩
    exact ⟨he, hu.below hb⟩
  have hne : bx ≠ br := by omega
  have hne2 : be ≠ br := by omega
  have hneb : bx ≠ be := by omega
  have HGe : Hid (w.heap.size ≤ bx ∧ w.heap.size ≤ br) := ⟨hX.ge, hR.ge⟩
  have HLen : Hid (n ≤ 1099511627776) := by rw [hn]; exact hlen.1
  have HNN : Hid (n = l.length) := hn
  have HV : Hid (v = .slice p n c) := by show _ = _; rw [hv, hn]
  have HK : Hid (∀ X, A3 w X bx be br #[.int .i64 b, .int .i64 t, .slice p n c] #[.int .i64 tx, .string dx] #[.int .i64 0, .int .i64 0, .slice none 0 0] → X.cell? ⟨be, 0, none⟩ = some (.int .i64 tx) ∧ X.cell? ⟨bx, 0, none⟩ = some (.int .i64 b) ∧ X.cell? ⟨bx, 1, none⟩ = some (.int .i64 t) ∧ X.cell? ⟨bx, 2, none⟩ = some (.slice p n c)) := fun X hX => ⟨hX.e.c 0, hX.x.c 0, hX.x.c 1, hX.x.c 2⟩
  have HOk : Hid (G.Ok ⟨b, t, l⟩) := ok
  have HSet : Hid (∀ X x y z, Below w.heap.size w X → Below w.heap.size w (((X.setCell ⟨br, 0, none⟩ x).setCell ⟨br, 1, none⟩ y).setCell ⟨br, 2, none⟩ z)) := fun X x y z hX => below_set3 hX HGe.out.2 x y z
  by_cases a1 : 1099511627776 < tx ∨ 262144 < dx.size
  · rw [if_pos a1] at hEq
    have HO : Hid _ := HNo.out 1 hEq (by decide)
    unfold logV at HO ⊢
    rw [hv, ← hn] at HO ⊢
    clear HNo hEq hv hn HL HE HK ok hll hlen hb hc1 hc2 hc3 hlast hA3 hX hE hR HOk HV HNN HEnt HLen hne hne2 hneb
    by_cases q1 : 1099511627776 < tx
    · have d1 : decide (1099511627776 < tx) = true := decide_eq_true q1
      clear a1 q1
      go_enter Try.func22, Try.ntmps22
      go_wp2
      refine bodyPost_ret (v := .tuple #[.agg #[.int .i64 b, .int .i64 t, .slice p n c], .int .i64 0, .int .i64 1]) ?qres rfl ?qpost
      case qres => simp [results, Try.results22, go_sem]
      case qpost => exact HO.out _ (((below_alloc _ _).trans ((below_alloc _ _).mono (by simp))).trans ((below_alloc _ _).mono (by simp; omega)))
    · have d1 : decide (1099511627776 < tx) = false := decide_eq_false q1
      have d2 : decide ((262144 : Int) < (dx.size : Int)) = true := decide_eq_true (by omega)
      clear a1 q1
      go_enter Try.func22, Try.ntmps22
      go_wp2
      refine bodyPost_ret (v := .tuple #[.agg #[.int .i64 b, .int .i64 t, .slice p n c], .int .i64 0, .int .i64 1]) ?qres rfl ?qpost
      case qres => simp [results, Try.results22, go_sem]
      case qpost => exact HO.out _ (((below_alloc _ _).trans ((below_alloc _ _).mono (by simp))).trans ((below_alloc _ _).mono (by simp; omega)))
  · have d1 : decide (1099511627776 < tx) = false := decide_eq_false (by omega)
    have d2 : decide ((262144 : Int) < (dx.size : Int)) = false := decide_eq_false (by omega)
    have u0 : u.cell? ⟨bx, 0, none⟩ = some (.int .i64 b) := hX.c 0
    have u1 : u.cell? ⟨bx, 1, none⟩ = some (.int .i64 t) := hX.c 1
    have u2 : u.cell? ⟨bx, 2, none⟩ = some (.slice p n c) := hX.c 2
    have e0 : u.cell? ⟨be, 0, none⟩ = some (.int .i64 tx) := hE.c 0
    have e1 : u.cell? ⟨be, 1, none⟩ = some (.string dx) := hE.c 1
    have hgd : A3 w u.drew bx be br #[.int .i64 b, .int .i64 t, .slice p n c] #[.int .i64 tx, .string dx] #[.int .i64 0, .int .i64 0, .slice none 0 0] := hA3.below (below_drewN _ 1)
    by_cases a2 : tx < G.termAt ⟨b, t, l⟩ (G.last ⟨b, t, l⟩)
    · rw [if_neg a1, if_pos a2] at hEq
      have HO : Hid _ := HNo.out 50 hEq (by decide)
      unfold logV at HO ⊢
      rw [hv, ← hn] at HO ⊢
      generalize G.termAt ⟨b, t, l⟩ (G.last ⟨b, t, l⟩) = y at HE a2
      clear HNo hEq hv hn HL ok hll hlen hb hc1 hc2 hc3 hlast hA3 hX hE hR HOk HV HNN HEnt HLen a1
      go_enter Try.func22, Try.ntmps22
      go_wp2_with fail
      rw [← hu, ← hbr, ← hbe, ← hbx]
      clear hu hbr hbx hbe
      go_region_held (fun X => X.cell? ⟨be, 0, none⟩ = some (.int .i64 tx) ∧ X.cell? ⟨bx, 0, none⟩ = some (.int .i64 b) ∧ X.cell? ⟨bx, 1, none⟩ = some (.int .i64 t) ∧ X.cell? ⟨bx, 2, none⟩ = some (.slice p n c))
        (exact HK.out _ (by assumption))
        (first | (go_at_call 38; refine (HE.out _ ?_).mono ?_; assumption; rintro e w1 ⟨rfl, hg1⟩))
      have HB1 : Hid _ := hg1.old
      have v0 : w1.cell? ⟨bx, 0, none⟩ = some (.int .i64 b) := hg1.x.c 0
      have v1 : w1.cell? ⟨bx, 1, none⟩ = some (.int .i64 t) := hg1.x.c 1
      have v2 : w1.cell? ⟨bx, 2, none⟩ = some (.slice p n c) := hg1.x.c 2
      have r0 : w1.cell? ⟨br, 0, none⟩ = some (.int .i64 0) := hg1.r.c 0
      have r1 : w1.cell? ⟨br, 1, none⟩ = some (.int .i64 0) := hg1.r.c 1
      have r2 : w1.cell? ⟨br, 2, none⟩ = some (.slice none 0 0) := hg1.r.c 2
      have f0 := hg1.r.f 0
      have f1 := hg1.r.f 1
      have f2 := hg1.r.f 2
      clear hgd hg1 u0 u1 u2 e0 e1
      go_wp2
      refine bodyPost_ret (v := .tuple #[.agg #[.int .i64 b, .int .i64 t, .slice p n c], .int .i64 0, .int .i64 50]) ?qres rfl ?qpost
      case qres => simp [results, Try.results22, go_sem, r0, r1, r2]
      case qpost => exact HO.out _ (HSet.out _ _ _ _ HB1.out)
    · by_cases a3 : G.last ⟨b, t, l⟩ = 1099511627776
      · rw [if_neg a1, if_neg a2, if_pos a3] at hEq
        have HO : Hid _ := HNo.out 2 hEq (by decide)
        unfold logV at HO ⊢
        rw [hv, ← hn] at HO ⊢
        generalize G.termAt ⟨b, t, l⟩ (G.last ⟨b, t, l⟩) = y at HE a2
        have d3 : decide (1099511627776 ≤ G.last ⟨b, t, l⟩) = true := decide_eq_true (by omega)
        generalize G.last ⟨b, t, l⟩ = ll at HL d3
        clear HNo hEq hv hn ok hll hlen hb hc1 hc2 hc3 hlast hA3 hX hE hR HOk HV HNN HEnt HLen a1 a3
        go_enter Try.func22, Try.ntmps22
        go_wp2_with fail
        rw [← hu, ← hbr, ← hbe, ← hbx]
        clear hu hbr hbx hbe
        go_region_held (fun X => X.cell? ⟨be, 0, none⟩ = some (.int .i64 tx) ∧ X.cell? ⟨bx, 0, none⟩ = some (.int .i64 b) ∧ X.cell? ⟨bx, 1, none⟩ = some (.int .i64 t) ∧ X.cell? ⟨bx, 2, none⟩ = some (.slice p n c))
          (exact HK.out _ (by assumption))
          (first | (go_at_call 38; refine (HE.out _ ?_).mono ?_; assumption; rintro e w1 ⟨rfl, hg1⟩))
        have H1 : Hid _ := hg1
        have v0 : w1.cell? ⟨bx, 0, none⟩ = some (.int .i64 b) := hg1.x.c 0
        have v1 : w1.cell? ⟨bx, 1, none⟩ = some (.int .i64 t) := hg1.x.c 1
        have v2 : w1.cell? ⟨bx, 2, none⟩ = some (.slice p n c) := hg1.x.c 2
        clear hgd hg1 u0 u1 u2 e0 e1
        go_wp2_with fail
        refine Calls.mono (HL.out _ H1.out) ?_
        rintro e w2 ⟨rfl, hg2⟩
        have HB2 : Hid _ := hg2.old
        have x0 : w2.cell? ⟨bx, 0, none⟩ = some (.int .i64 b) := hg2.x.c 0
        have x1 : w2.cell? ⟨bx, 1, none⟩ = some (.int .i64 t) := hg2.x.c 1
        have x2 : w2.cell? ⟨bx, 2, none⟩ = some (.slice p n c) := hg2.x.c 2
        have r0 : w2.cell? ⟨br, 0, none⟩ = some (.int .i64 0) := hg2.r.c 0
        have r1 : w2.cell? ⟨br, 1, none⟩ = some (.int .i64 0) := hg2.r.c 1
        have r2 : w2.cell? ⟨br, 2, none⟩ = some (.slice none 0 0) := hg2.r.c 2
        have f0 := hg2.r.f 0
        have f1 := hg2.r.f 1
        have f2 := hg2.r.f 2
        clear hg2 v0 v1 v2
        go_wp2
        refine bodyPost_ret (v := .tuple #[.agg #[.int .i64 b, .int .i64 t, .slice p n c], .int .i64 0, .int .i64 2]) ?qres rfl ?qpost
        case qres => simp [results, Try.results22, go_sem, r0, r1, r2]
        case qpost => exact HO.out _ (HSet.out _ _ _ _ HB2.out)
      · rw [if_neg a1, if_neg a2, if_neg a3] at hEq
        have HEq : Hid (G.appE ⟨b, t, l⟩ (tx, dx) = 0) := hEq
        generalize G.termAt ⟨b, t, l⟩ (G.last ⟨b, t, l⟩) = y at HE a2
        have d3 : decide (1099511627776 ≤ G.last ⟨b, t, l⟩) = false := decide_eq_false (by omega)
        generalize G.last ⟨b, t, l⟩ = ll at HL d3
        unfold logV
        rw [hv, ← hn]
        clear hc3 hc2 hc1 hlast hv hlen hb hn hBu hR HNo hX hE a1 a3 hA3 hEq ok hll
        go_enter Try.func22, Try.ntmps22
        go_wp2_with fail
        rw [← hu, ← hbr, ← hbe, ← hbx]
        clear hu hbr hbx hbe
        go_region_held (fun X => X.cell? ⟨be, 0, none⟩ = some (.int .i64 tx) ∧ X.cell? ⟨bx, 0, none⟩ = some (.int .i64 b) ∧ X.cell? ⟨bx, 1, none⟩ = some (.int .i64 t) ∧ X.cell? ⟨bx, 2, none⟩ = some (.slice p n c))
          (exact HK.out _ (by assumption))
          (first | (go_at_call 38; refine (HE.out _ ?_).mono ?_; assumption; rintro e w1 ⟨rfl, hg1⟩))
        have H1 : Hid _ := hg1
        have v0 : w1.cell? ⟨bx, 0, none⟩ = some (.int .i64 b) := hg1.x.c 0
        have v1 : w1.cell? ⟨bx, 1, none⟩ = some (.int .i64 t) := hg1.x.c 1
        have v2 : w1.cell? ⟨bx, 2, none⟩ = some (.slice p n c) := hg1.x.c 2
        clear hgd hg1 u0 u1 u2 e0 e1
        go_wp2_with fail
        refine Calls.mono (HL.out _ H1.out) ?_
        rintro e w2 ⟨rfl, hg2⟩
        have H2 : Hid _ := hg2
        have x0 : w2.cell? ⟨bx, 0, none⟩ = some (.int .i64 b) := hg2.x.c 0
        have x1 : w2.cell? ⟨bx, 1, none⟩ = some (.int .i64 t) := hg2.x.c 1
        have x2 : w2.cell? ⟨bx, 2, none⟩ = some (.slice p n c) := hg2.x.c 2
        have HS2 : Hid (Src Try.prog 2 28 (.slice p n c) n (entCells l) w2) := by
          have := HEnt.out.below (A3.old H2.out)
          rw [HV.out] at this
          exact this.rowSrc
        have hL1 : Hid ((0 + n) * 24 ≤ 140737488355328) := by have := HLen.out; show _ ≤ _; omega
        have hL2 : Hid (0 + n ≤ maxLen) := by have := HLen.out; unfold maxLen; show _ ≤ _; omega
        clear hg2 v0 v1 v2
        go_wp2_with (at_builtin; refine wpList_append_rowC rfl (.tmp 28) (.tmp 30) 28 28 34 rfl Try.underlying28 _ 2 24 infoEnt rfl (.slice none 0 0) 0 [] rfl (RowC.nil _ _ _) (.slice p n c) n (entCells l) rfl HS2.out hL1.out hL2.out ?qnext)
        case qnext =>
          intro v' w3 ho hg hlo
          obtain ⟨p1, c1, hv', _, _⟩ := ho.form
          subst hv'
          have hb3 : Below w2.heap.size w2 w3 := (Below.refl _ _).grown hg (Nat.le_refl _) (by intro k hk; simp [cBlk] at hk)
          have HO3 : Hid (RowC w3 2 (.slice p1 n c1) n (entCells l)) := by simpa [Hid] using ho
          have HK3 : Hid (∀ k, cBlk (.slice p1 n c1) = some k → w2.heap.size ≤ k) := by
            intro k hk
            rcases hlo k hk with q | q
            · simp [cBlk] at q
            · exact q
          have H3 : Hid _ := A3.below H2.out hb3
          have H32 : Hid (w2.heap.size ≤ w3.heap.size) := hb3.size
          have s0 : w3.cell? ⟨be, 0, none⟩ = some (.int .i64 tx) := H3.out.e.c 0
          have s1 : w3.cell? ⟨be, 1, none⟩ = some (.string dx) := H3.out.e.c 1
          have HB23 : Hid (Below w2.heap.size w2 w3) := hb3
          obtain ⟨W, hW⟩ : ∃ W, W = w3.alloc (.cells #[.int .i64 tx, .string dx] 34) := ⟨_, rfl⟩
          have hbW : Below w3.heap.size w3 W := by rw [hW]; exact below_alloc _ _
          have HBW : Hid (Below w2.heap.size w2 W) := hb3.trans (hbW.mono hb3.size)
          have HRW : Hid (RowC W 2 (.slice p1 n c1) n (entCells l)) := HO3.out.carry (fun k hk => hbW.block k (RowC.lt HO3.out (by omega) hk))
          have HSW : Hid (Src Try.prog 2 28 (.slice (some ⟨w3.heap.size, 0, none⟩) 1 1) 1 [.int .i64 tx, .string dx] W) := by
            refine Src.ofSlice W Try.underlying28 _ _ _ _ rfl (fun j u hu => ?_) (fun u hu => by simp at hu; rcases hu with rfl | rfl <;> rfl)
            rw [Addr.add_lit, Nat.zero_add, hW, World.cell?_alloc_mark]
            simpa using hu
          have hM1 : Hid ((n + 1) * 24 ≤ 140737488355328) := by have := HLen.out; show _ ≤ _; omega
          have hM2 : Hid (n + 1 ≤ maxLen) := by have := HLen.out; unfold maxLen; show _ ≤ _; omega
          subst hW
          clear ho hg hlo hb3 x0 x1 x2 hbW
          go_wp2_with (at_builtin; refine wpList_append_rowC rfl (.tmp 32) (.tmp 34) 28 28 34 rfl Try.underlying28 _ 2 24 infoEnt rfl (.slice p1 n c1) n (entCells l) rfl HRW.out _ 1 _ rfl HSW.out hM1.out hM2.out ?qnext2)
          case qnext2 =>
            intro v4 w4 ho hg hlo
            obtain ⟨p4, c4, hv4, _, _⟩ := ho.form
            subst hv4
            have hb4 : Below w2.heap.size w2 w4 := HBW.out.grown hg HBW.out.size (by intro k hk; exact HK3.out k hk)
            have h4 := A3.below H2.out hb4
            have HR4 : Hid (RowC w4 2 (.slice p4 (n + 1) c4) (l ++ [(tx, dx)]).length (entCells (l ++ [(tx, dx)]))) := by rw [entCells_snoc, List.length_append, ← HNN.out]; exact ho
            have HK4 : Hid (∀ k, cBlk (.slice p4 (n + 1) c4) = some k → w2.heap.size ≤ k) := by
              intro k hk
              rcases hlo k hk with q | q
              · exact HK3.out k q
              · have := HBW.out.size
                first | omega | (simp at q this; omega) | (simp at this; omega)
            have HN4 : Hid (n + 1 = (l ++ [(tx, dx)]).length) := by show _ = _; rw [List.length_append, ← HNN.out]; rfl
            have m0 : w4.cell? ⟨bx, 0, none⟩ = some (.int .i64 b) := h4.x.c 0
            have m1 : w4.cell? ⟨bx, 1, none⟩ = some (.int .i64 t) := h4.x.c 1
            have m2 : w4.cell? ⟨bx, 2, none⟩ = some (.slice p n c) := h4.x.c 2
            have mf := h4.x.f 2
            have HA4 : Hid _ := h4
            obtain ⟨w5, hw5⟩ : ∃ w5, w5 = w4.setCell ⟨bx, 2, none⟩ (.slice p4 (n + 1) c4) := ⟨_, rfl⟩
            have hlx : bx < w2.heap.size := (A3.x H2.out).lt
            have hlr : br < w2.heap.size := (A3.r H2.out).lt
            have hG := HGe.out
            have h5 : A3 w w5 bx be br #[.int .i64 b, .int .i64 t, .slice p4 (n + 1) c4] #[.int .i64 tx, .string dx] #[.int .i64 0, .int .i64 0, .slice none 0 0] := by
              have hbe : be ≠ bx := hneb.symm
              refine ⟨by rw [hw5]; exact h4.old.setCell (p := ⟨bx, 2, none⟩) hG.1 _, ⟨h4.x.ge, by rw [hw5, size_set6]; exact h4.x.lt, fun j => ?_, fun j => by rw [hw5, World.frozen?_setCell]; exact h4.x.f j⟩, ⟨h4.e.ge, by rw [hw5, size_set6]; exact h4.e.lt, fun j => ?_, fun j => by rw [hw5, World.frozen?_setCell]; exact h4.e.f j⟩, ⟨h4.r.ge, by rw [hw5, size_set6]; exact h4.r.lt, fun j => ?_, fun j => by rw [hw5, World.frozen?_setCell]; exact h4.r.f j⟩⟩
              · rw [hw5, cell_set6 _ m2]
                by_cases q : j = 2
                · subst q; rfl
                · rw [if_neg q, h4.x.c]
                  match j, q with
                  | 0, _ => rfl
                  | 1, _ => rfl
                  | j + 3, _ => rfl
              · rw [hw5, World.cell?_of_block (a := ⟨be, j, none⟩) (Below.heap_setCell _ _ _ _ hbe)]
                exact h4.e.c j
              · rw [hw5, World.cell?_of_block (a := ⟨br, j, none⟩) (Below.heap_setCell _ _ _ _ (fun e => hne (Eq.symm e)))]
                exact h4.r.c j
            have hread : ∀ k, readBlk (.slice p4 (n + 1) c4) = some k → w2.heap.size ≤ k := by
              intro k hk
              refine HK4.out k ?_
              obtain ⟨_, _, hvv, hnc, _⟩ := ho.form
              injection hvv with e1 e2 e3
              subst e3
              obtain ⟨c', hc'⟩ : ∃ c', c4 = c' + 1 := ⟨c4 - 1, by omega⟩
              rw [hc']
              cases p4 <;> simp [readBlk] at hk
              simpa [cBlk] using hk
            have HRd : Hid _ := hread
            have HE5 : Hid (EntR w5 (.slice p4 (n + 1) c4) (l ++ [(tx, dx)])) := by
              refine (RowC.read HR4.out).carry (fun k hk => ?_)
              have := hread k hk
              rw [hw5]
              exact Below.heap_setCell _ _ _ _ (show k ≠ bx by omega)
            have happ : G.app ⟨b, t, l⟩ (tx, dx) = ⟨b, t, l ++ [(tx, dx)]⟩ := by unfold G.app; rw [if_pos HEq.out]
            have hok5 : G.Ok ⟨b, t, l ++ [(tx, dx)]⟩ := by have := HOk.out.app (tx, dx); rw [happ] at this; exact this
            have HL5 : Hid (∀ X, A3 w X bx be br #[.int .i64 b, .int .i64 t, .slice p4 (n + 1) c4] #[.int .i64 tx, .string dx] #[.int .i64 0, .int .i64 0, .slice none 0 0] ∧ EntR X (.slice p4 (n + 1) c4) (l ++ [(tx, dx)]) → Calls Try.prog 30 #[.agg #[.int .i64 b, .int .i64 t, .slice p4 (n + 1) c4]] X fun e w' => e = .returned (.int .i64 (G.last ⟨b, t, l ++ [(tx, dx)]⟩)) ∧ A3 w w' bx be br #[.int .i64 b, .int .i64 t, .slice p4 (n + 1) c4] #[.int .i64 tx, .string dx] #[.int .i64 0, .int .i64 0, .slice none 0 0] ∧ EntR w' (.slice p4 (n + 1) c4) (l ++ [(tx, dx)])) := by
              intro X hX
              refine (rLast_c (s := ⟨b, t, l ++ [(tx, dx)]⟩) (v := .slice p4 (n + 1) c4) hX.2 hok5).mono ?_
              rintro e w' ⟨he, hb⟩
              exact ⟨he, hX.1.below hb, hX.2.below hb⟩
            have HO : Hid (∀ X, A3 w X bx be br #[.int .i64 b, .int .i64 t, .slice p4 (n + 1) c4] #[.int .i64 tx, .string dx] #[.int .i64 0, .int .i64 0, .slice none 0 0] ∧ EntR X (.slice p4 (n + 1) c4) (l ++ [(tx, dx)]) → ∀ x y z, RAppOut w v ⟨b, t, l⟩ (tx, dx) (.returned (.tuple #[.agg #[.int .i64 b, .int .i64 t, .slice p4 (n + 1) c4], .int .i64 (G.last ⟨b, t, l ++ [(tx, dx)]⟩), .int .i64 0])) (((X.setCell ⟨br, 0, none⟩ x).setCell ⟨br, 1, none⟩ y).setCell ⟨br, 2, none⟩ z)) := by
              intro X hX x y z
              unfold RAppOut G.appA
              rw [happ, HEq.out, if_pos rfl]
              refine ⟨.slice p4 (n + 1) c4, ?_, hX.2.carry (fun k hk => ?_), below_set3 hX.1.old hG.2 _ _ _, fun k hk => .inr (Nat.le_trans (A3.old H2.out).size (hread k hk))⟩
              · unfold logV G.last
                simp [Int.add_assoc]
              · have := hread k hk
                have hkb : k ≠ br := by omega
                rw [Below.heap_setCell _ _ _ _ hkb, Below.heap_setCell _ _ _ _ hkb, Below.heap_setCell _ _ _ _ hkb]
            have hgd5 : A3 w w5.drew bx be br #[.int .i64 b, .int .i64 t, .slice p4 (n + 1) c4] #[.int .i64 tx, .string dx] #[.int .i64 0, .int .i64 0, .slice none 0 0] ∧ EntR w5.drew (.slice p4 (n + 1) c4) (l ++ [(tx, dx)]) := ⟨h5.below (below_drewN _ 1), HE5.out.below (below_drewN _ 1)⟩
            generalize G.last ⟨b, t, l ++ [(tx, dx)]⟩ = ll5 at HL5 HO
            have HK5 : Hid (∀ X, A3 w X bx be br #[.int .i64 b, .int .i64 t, .slice p4 (n + 1) c4] #[.int .i64 tx, .string dx] #[.int .i64 0, .int .i64 0, .slice none 0 0] ∧ EntR X (.slice p4 (n + 1) c4) (l ++ [(tx, dx)]) → X.cell? ⟨bx, 0, none⟩ = some (.int .i64 b) ∧ X.cell? ⟨bx, 1, none⟩ = some (.int .i64 t) ∧ X.cell? ⟨bx, 2, none⟩ = some (.slice p4 (n + 1) c4)) := fun X hX => ⟨hX.1.x.c 0, hX.1.x.c 1, hX.1.x.c 2⟩
            have HK6 : Hid (∀ X x y z, A3 w X bx be br #[.int .i64 b, .int .i64 t, .slice p4 (n + 1) c4] #[.int .i64 tx, .string dx] #[.int .i64 0, .int .i64 0, .slice none 0 0] ∧ EntR X (.slice p4 (n + 1) c4) (l ++ [(tx, dx)]) → (((X.setCell ⟨br, 0, none⟩ x).setCell ⟨br, 1, none⟩ y).setCell ⟨br, 2, none⟩ z).cell? ⟨bx, 0, none⟩ = some (.int .i64 b) ∧ (((X.setCell ⟨br, 0, none⟩ x).setCell ⟨br, 1, none⟩ y).setCell ⟨br, 2, none⟩ z).cell? ⟨bx, 1, none⟩ = some (.int .i64 t) ∧ (((X.setCell ⟨br, 0, none⟩ x).setCell ⟨br, 1, none⟩ y).setCell ⟨br, 2, none⟩ z).cell? ⟨bx, 2, none⟩ = some (.slice p4 (n + 1) c4)) := by
              intro X x y z hX
              have hq : ∀ j, (((X.setCell ⟨br, 0, none⟩ x).setCell ⟨br, 1, none⟩ y).setCell ⟨br, 2, none⟩ z).cell? ⟨bx, j, none⟩ = X.cell? ⟨bx, j, none⟩ := fun j => by
                rw [World.cell?_of_block (a := ⟨bx, j, none⟩) (Below.heap_setCell _ _ _ _ hne), World.cell?_of_block (a := ⟨bx, j, none⟩) (Below.heap_setCell _ _ _ _ hne), World.cell?_of_block (a := ⟨bx, j, none⟩) (Below.heap_setCell _ _ _ _ hne)]
              rw [hq, hq, hq]
              exact HK5.out X hX
            clear ho hg hlo hb4 h4 hlx hlr h5 hread hok5 happ hG
            go_wp2
            rw [← hw5]
            clear hw5 m0 m1 m2 mf
            go_region_held (fun X => X.cell? ⟨bx, 0, none⟩ = some (.int .i64 b) ∧ X.cell? ⟨bx, 1, none⟩ = some (.int .i64 t) ∧ X.cell? ⟨bx, 2, none⟩ = some (.slice p4 (n + 1) c4))
              (first | exact HK5.out _ (by assumption) | exact HK6.out _ _ _ _ (by assumption))
              (first | (go_at_call 30; refine (HL5.out _ ?_).mono ?_; assumption; rintro e w6 ⟨rfl, hg6⟩; have r0 : w6.cell? ⟨br, 0, none⟩ = some (.int .i64 0) := hg6.1.r.c 0; have r1 : w6.cell? ⟨br, 1, none⟩ = some (.int .i64 0) := hg6.1.r.c 1; have r2 : w6.cell? ⟨br, 2, none⟩ = some (.slice none 0 0) := hg6.1.r.c 2; have rf0 := hg6.1.r.f 0; have rf1 := hg6.1.r.f 1; have rf2 := hg6.1.r.f 2))
            have H6 : Hid _ := hg6
            clear hg6 hgd5
            go_wp2
            refine bodyPost_ret (v := .tuple #[.agg #[.int .i64 b, .int .i64 t, .slice p4 (n + 1) c4], .int .i64 ll5, .int .i64 0]) ?qres rfl ?qpost
            case qres => simp [results, Try.results22, go_sem, r0, r1, r2]
            case qpost =>
              have hf := HO.out _ H6.out (.int .i64 b) (.int .i64 t) (.slice p4 (n + 1) c4)
              rw [HV.out] at hf
              exact hf

end
end Go.Proofs.Ytamoapbbkaagdaa
