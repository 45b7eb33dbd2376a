/-
  Find.
-/
import Derived.Test.YtepbmfjimppgcaaSeCall
namespace Go.Proofs.Ytepbmfjimppgcaa
open Go.RowKit

/-- The boxes of a call that is handed an id and answers a reply. -/
structure Fx (w u : World) (a b : Int) : Prop where
  below : Below w.heap.size w u
  size : u.heap.size = w.heap.size + 2
  id : ∀ X, Below u.heap.size u X → X.cell? ⟨w.heap.size, 0, none⟩ = some (.int .i64 a) ∧ X.cell? ⟨w.heap.size, 1, none⟩ = some (.int .i64 b)
  re : ∀ X, Below u.heap.size u X → X.cell? ⟨w.heap.size + 1, 0, none⟩ = some (.int .i64 0) ∧ X.cell? ⟨w.heap.size + 1, 1, none⟩ = some (.int .i64 0) ∧ X.cell? ⟨w.heap.size + 1, 2, none⟩ = some (.slice none 0 0) ∧ X.frozen? ⟨w.heap.size + 1, 0, none⟩ = false ∧ X.frozen? ⟨w.heap.size + 1, 1, none⟩ = false ∧ X.frozen? ⟨w.heap.size + 1, 2, none⟩ = false

theorem Fx.of (w : World) (a b : Int) {T T' : TypeId} {u0 u : World} (h0 : u0 = w.alloc (.cells #[.int .i64 a, .int .i64 b] T)) (h1 : u = u0.alloc (.cells #[.int .i64 0, .int .i64 0, .slice none 0 0] T')) : Fx w u a b := by
  have b0 : Below w.heap.size w u0 := by rw [h0]; exact below_alloc _ _
  have b1 : Below u0.heap.size u0 u := by rw [h1]; exact below_alloc _ _
  have s0 : u0.heap.size = w.heap.size + 1 := by rw [h0]; simp
  have s1 : u.heap.size = w.heap.size + 2 := by rw [h1]; simp [s0]
  have ci : ∀ j, u.cell? ⟨w.heap.size, j, none⟩ = (#[.int .i64 a, .int .i64 b] : Array Value)[j]? := fun j => by
    rw [b1.cell (p := ⟨w.heap.size, j, none⟩) (by show w.heap.size < _; omega), h0]
    exact World.cell?_alloc_mark w _ _ _ j
  have cr : ∀ j, u.cell? ⟨w.heap.size + 1, j, none⟩ = (#[.int .i64 0, .int .i64 0, .slice none 0 0] : Array Value)[j]? := fun j => by
    rw [h1, ← s0]
    exact World.cell?_alloc_mark u0 _ _ _ j
  have fr : ∀ j, u.frozen? ⟨w.heap.size + 1, j, none⟩ = false := fun j => by
    rw [h1, ← s0, World.frozen?_alloc_mark]
    simp
  refine ⟨b0.trans (b1.mono (by omega)), s1, fun X hX => ?_, fun X hX => ?_⟩
  · rw [hX.cell (p := ⟨w.heap.size, 0, none⟩) (by show w.heap.size < _; omega), hX.cell (p := ⟨w.heap.size, 1, none⟩) (by show w.heap.size < _; omega)]
    exact ⟨ci 0, ci 1⟩
  · have hc : ∀ j, X.cell? ⟨w.heap.size + 1, j, none⟩ = u.cell? ⟨w.heap.size + 1, j, none⟩ := fun j => hX.cell (p := ⟨w.heap.size + 1, j, none⟩) (by show w.heap.size + 1 < _; omega)
    have hf : ∀ j, X.frozen? ⟨w.heap.size + 1, j, none⟩ = false := fun j => (hX.frozen (p := ⟨w.heap.size + 1, j, none⟩) (by show w.heap.size + 1 < _; omega)).trans (fr j)
    rw [hc, hc, hc]
    exact ⟨cr 0, cr 1, cr 2, hf 0, hf 1, hf 2⟩

/-- A box of three cells is written. -/
def se_fin3 (X : World) (b : Nat) (v0 v1 v2 : Value) : World := ((X.setCell ⟨b, 0, none⟩ v0).setCell ⟨b, 1, none⟩ v1).setCell ⟨b, 2, none⟩ v2
theorem se_fin3_cells {X : World} {b : Nat} {x0 x1 x2 : Value} (h0 : X.cell? ⟨b, 0, none⟩ = some x0) (h1 : X.cell? ⟨b, 1, none⟩ = some x1) (h2 : X.cell? ⟨b, 2, none⟩ = some x2) (v0 v1 v2 : Value) : (se_fin3 X b v0 v1 v2).cell? ⟨b, 0, none⟩ = some v0 ∧ (se_fin3 X b v0 v1 v2).cell? ⟨b, 1, none⟩ = some v1 ∧ (se_fin3 X b v0 v1 v2).cell? ⟨b, 2, none⟩ = some v2 := by
  have ne : ∀ (Y : World) (i j : Nat) (v : Value), i ≠ j → (Y.setCell ⟨b, i, none⟩ v).cell? ⟨b, j, none⟩ = Y.cell? ⟨b, j, none⟩ := fun Y i j v hij => World.cell?_setCell_other _ _ _ _ (by intro e; injection e with _ e; exact hij e)
  unfold se_fin3
  refine ⟨?_, ?_, ?_⟩
  · rw [ne _ 2 0 _ (by omega), ne _ 1 0 _ (by omega)]
    exact World.cell?_setCell_same _ _ _ (by rw [h0])
  · rw [ne _ 2 1 _ (by omega)]
    exact World.cell?_setCell_same _ _ _ (by rw [ne _ 0 1 _ (by omega), h1])
  · exact World.cell?_setCell_same _ _ _ (by rw [ne _ 1 2 _ (by omega), ne _ 0 2 _ (by omega), h2])
theorem se_fin3_below {w X : World} {b : Nat} (hb : Below w.heap.size w X) (h1 : w.heap.size ≤ b) (v0 v1 v2 : Value) : Below w.heap.size w (se_fin3 X b v0 v1 v2) := ((hb.setCell (p := ⟨b, 0, none⟩) h1 _).setCell (p := ⟨b, 1, none⟩) h1 _).setCell (p := ⟨b, 2, none⟩) h1 _
theorem se_fin3_other {X : World} {b k : Nat} (h1 : k ≠ b) (v0 v1 v2 : Value) : (se_fin3 X b v0 v1 v2).heap[k]? = X.heap[k]? := by
  unfold se_fin3
  rw [Below.heap_setCell _ _ _ _ h1, Below.heap_setCell _ _ _ _ h1, Below.heap_setCell _ _ _ _ h1]
theorem se_fin3_size (X : World) (b : Nat) (v0 v1 v2 : Value) : (se_fin3 X b v0 v1 v2).heap.size = X.heap.size := by
  unfold se_fin3
  simp [World.setCell]

/-- What Find answers. -/
def FindOut (w : World) (s : Se.St) (a b : Int) (e : Ending) (w' : World) : Prop :=
  ∃ pv, e = .returned (.tuple #[.agg #[.int .i64 (Se.find s a b).1.err, .int .i64 (Se.find s a b).1.at_, pv], .int .i64 (Se.find s a b).2]) ∧ RowC w' 2 pv (Se.find s a b).1.posts.length (poCells (Se.find s a b).1.posts) ∧ (∀ k, cBlk pv = some k → w.heap.size ≤ k) ∧ Below w.heap.size w w'

section
variable {w : World} {B mb : Nat} {s : Se.St}

theorem Find_bad (h : Tb w B mb s) (a b : Int) (hm : Se.may a b = false) : Calls Try.prog 35 #[.pointer (some ⟨B, 0, none⟩), .agg #[.int .i64 a, .int .i64 b]] w (FindOut w s a b) := by
  obtain ⟨u, hu⟩ : ∃ u, u = (w.alloc (.cells #[.int .i64 a, .int .i64 b] 35)).alloc (.cells #[.int .i64 0, .int .i64 0, .slice none 0 0] 32) := ⟨_, rfl⟩
  have hF := Fx.of w a b rfl hu
  have HM : Hid _ := isMadeT_c (h.below hF.below)
  have HY := se_mayBe_c a b u
  rw [hm] at HY
  have HY : Hid _ := HY
  have HR : Hid _ := hF.re
  obtain ⟨bx, hbx⟩ : ∃ bx, bx = w.heap.size := ⟨_, rfl⟩
  obtain ⟨br, hbr⟩ : ∃ br, br = w.heap.size + 1 := ⟨_, rfl⟩
  obtain ⟨i0, i1⟩ := hF.id u (Below.refl _ _)
  rw [← hbx] at i0 i1
  rw [← hbr] at HR
  have HE : Hid (Below w.heap.size w u ∧ w.heap.size ≤ br) := ⟨hF.below, by omega⟩
  have HQ : Hid (∀ X, Below w.heap.size w X → FindOut w s a b (.returned (.tuple #[.agg #[.int .i64 0, .int .i64 0, .slice none 0 0], .int .i64 1])) X) := fun X hX => by
    have e : Se.find s a b = (Se.zero, 1) := by simp [Se.find, hm]
    unfold FindOut
    rw [e]
    exact ⟨_, rfl, RowC.nil _ _ _, fun k hk => by simp [cBlk] at hk, hX⟩
  generalize FindOut w s a b = Q at HQ ⊢
  clear h hF hm
  go_enter Try.func35, Try.ntmps35
  go_wp2_with fail
  rw [← hu]
  rw [← hbr, ← hbx]
  clear hu hbx hbr
  refine Calls.mono HM.out ?_
  rintro e w1 ⟨rfl, hw⟩
  subst hw
  go_wp2_with fail
  refine Calls.mono HY.out ?_
  rintro e w2 ⟨rfl, hb⟩
  have HB : Hid _ := hb
  obtain ⟨x0, x1, x2, f0, f1, f2⟩ := HR.out _ hb
  clear hb i0 i1
  go_wp2
  refine bodyPost_ret (v := .tuple #[.agg #[.int .i64 0, .int .i64 0, .slice none 0 0], .int .i64 1]) ?qres rfl ?qpost
  case qres => simp [results, Try.results35, go_sem, x0, x1, x2]
  case qpost =>
    exact HQ.out _ (se_fin3_below (HE.out.1.trans (HB.out.mono HE.out.1.size)) HE.out.2 _ _ _)


-- (laid by mksefind.py)

set_option maxHeartbeats 1000000 in
theorem Find_none (h : Tb w B mb s) (a b : Int) (hm : Se.may a b = true) (hg : Se.get s a = none) : Calls Try.prog 35 #[.pointer (some ⟨B, 0, none⟩), .agg #[.int .i64 a, .int .i64 b]] w (FindOut w s a b) := by
  obtain ⟨u, hu⟩ : ∃ u, u = (w.alloc (.cells #[.int .i64 a, .int .i64 b] 35)).alloc (.cells #[.int .i64 0, .int .i64 0, .slice none 0 0] 32) := ⟨_, rfl⟩
  have hF := Fx.of w a b rfl hu
  have h64 : se_In64 a := by have := Se.may_iff hm; unfold se_In64; omega
  have hT := h.below hF.below
  have HM : Hid _ := isMadeT_c hT
  have HY := se_mayBe_c a b u
  rw [hm] at HY
  have HY : Hid _ := HY
  have HR : Hid _ := hF.re
  obtain ⟨bx, hbx⟩ : ∃ bx, bx = w.heap.size := ⟨_, rfl⟩
  obtain ⟨br, hbr⟩ : ∃ br, br = w.heap.size + 1 := ⟨_, rfl⟩
  have HS : Hid (∀ X, Below u.heap.size u X → (X.cell? ⟨B, 0, none⟩ = some (.map (some mb)) ∧ X.cell? ⟨bx, 0, none⟩ = some (.int .i64 a) ∧ (Instr.lookup 78 (.map (some mb)) (.int .i64 a) true).run Try.prog X = .ok (.tuple #[.agg #[.int .i64 0, .int .i64 0, .int .i64 0, .slice none 0 0], .bool false]) X) ∧ X.cell? ⟨bx, 1, none⟩ = some (.int .i64 b)) := fun X hX => by
    have hTX := hT.below hX
    obtain ⟨j0, j1⟩ := hF.id X hX
    rw [hbx]
    rcases hTX.look h64 with ⟨_, hl⟩ | ⟨l, pv, hl, _⟩
    · exact ⟨⟨hTX.c0, j0, hl⟩, j1⟩
    · rw [hg] at hl; cases hl
  obtain ⟨i0, i1⟩ := hF.id u (Below.refl _ _)
  rw [← hbx] at i0 i1
  rw [← hbr] at HR
  have HE : Hid (Below w.heap.size w u ∧ w.heap.size ≤ br ∧ br < u.heap.size) := ⟨hF.below, by omega, by rw [hF.size]; omega⟩
  have HQ : Hid (∀ X, Below w.heap.size w X → FindOut w s a b (.returned (.tuple #[.agg #[.int .i64 0, .int .i64 0, .slice none 0 0], .int .i64 3])) X) := fun X hX => by
    have e : Se.find s a b = (Se.zero, 3) := by simp [Se.find, hm, hg]
    unfold FindOut
    rw [e]
    exact ⟨_, rfl, RowC.nil _ _ _, fun k hk => by simp [cBlk] at hk, hX⟩
  generalize FindOut w s a b = Q at HQ ⊢
  clear h hF hm h64 hT hg
  go_enter Try.func35, Try.ntmps35
  go_wp2_with fail
  rw [← hu]
  rw [← hbr, ← hbx]
  clear hu hbx hbr
  refine Calls.mono HM.out ?_
  rintro e w1 ⟨rfl, hw⟩
  subst hw
  go_wp2_with fail
  refine Calls.mono HY.out ?_
  rintro e w2 ⟨rfl, hb⟩
  have HB : Hid (Below w1.heap.size w1 w2) := hb
  have HK : Hid (∀ X, Below w2.heap.size w2 X → X.cell? ⟨B, 0, none⟩ = some (.map (some mb)) ∧ X.cell? ⟨bx, 0, none⟩ = some (.int .i64 a) ∧ (Instr.lookup 78 (.map (some mb)) (.int .i64 a) true).run Try.prog X = .ok (.tuple #[.agg #[.int .i64 0, .int .i64 0, .int .i64 0, .slice none 0 0], .bool false]) X) := fun X hX => (HS.out X (HB.out.trans (hX.mono HB.out.size))).1
  obtain ⟨w3, hw3⟩ : ∃ w3, w3 = (w2.alloc (.cells #[.int .i64 0, .int .i64 0, .int .i64 0, .slice none 0 0] 104)).drew := ⟨_, rfl⟩
  obtain ⟨bl, hbl⟩ : ∃ bl, bl = w2.heap.size := ⟨_, rfl⟩
  have hb3 : Below w2.heap.size w2 w3 := by rw [hw3]; exact (below_alloc _ _).drew
  have hcl : ∀ j, w3.cell? ⟨bl, j, none⟩ = (#[.int .i64 0, .int .i64 0, .int .i64 0, .slice none 0 0] : Array Value)[j]? := fun j => by
    rw [hw3, hbl]
    exact World.cell?_alloc_mark w2 _ _ _ j
  have HB3 : Hid (Below w1.heap.size w1 w3) := HB.out.trans (hb3.mono HB.out.size)
  have c0 : w3.cell? ⟨bl, 0, none⟩ = some (.int .i64 0) := hcl 0
  have c1 : w3.cell? ⟨bl, 1, none⟩ = some (.int .i64 0) := hcl 1
  have c2 : w3.cell? ⟨bl, 2, none⟩ = some (.int .i64 0) := hcl 2
  have c3 : w3.cell? ⟨bl, 3, none⟩ = some (.slice none 0 0) := hcl 3
  have d1 := (HS.out w3 HB3.out).2
  obtain ⟨x0, x1, x2, f0, f1, f2⟩ := HR.out _ HB3.out
  clear hb i0 i1 hb3 hcl
  go_wp2
  go_region_held (fun X => X.cell? ⟨B, 0, none⟩ = some (.map (some mb)) ∧ X.cell? ⟨bx, 0, none⟩ = some (.int .i64 a) ∧ (Instr.lookup 78 (.map (some mb)) (.int .i64 a) true).run Try.prog X = .ok (.tuple #[.agg #[.int .i64 0, .int .i64 0, .int .i64 0, .slice none 0 0], .bool false]) X)
    (exact HK.out _ (by first | exact (Below.refl _ _).drew | exact ((Below.refl _ _).alloc (Nat.le_refl _) _).drew))
    (fail)
  all_goals
    rw [← hw3, ← hbl]
    clear hw3 hbl
    go_wp2
    refine bodyPost_ret (v := .tuple #[.agg #[.int .i64 0, .int .i64 0, .slice none 0 0], .int .i64 3]) ?qres rfl ?qpost
    case qres => simp [results, Try.results35, go_sem, x0, x1, x2]
    case qpost => exact HQ.out _ (se_fin3_below (HE.out.1.trans (HB3.out.mono HE.out.1.size)) HE.out.2.1 _ _ _)

set_option maxHeartbeats 1000000 in
theorem Find_later (h : Tb w B mb s) (a b : Int) (hm : Se.may a b = true) {l : Se.Ls} (hg : Se.get s a = some l) (hc : l.seq < b) : Calls Try.prog 35 #[.pointer (some ⟨B, 0, none⟩), .agg #[.int .i64 a, .int .i64 b]] w (FindOut w s a b) := by
  obtain ⟨u, hu⟩ : ∃ u, u = (w.alloc (.cells #[.int .i64 a, .int .i64 b] 35)).alloc (.cells #[.int .i64 0, .int .i64 0, .slice none 0 0] 32) := ⟨_, rfl⟩
  have hF := Fx.of w a b rfl hu
  have h64 : se_In64 a := by have := Se.may_iff hm; unfold se_In64; omega
  have hT := h.below hF.below
  have HM : Hid _ := isMadeT_c hT
  have HY := se_mayBe_c a b u
  rw [hm] at HY
  have HY : Hid _ := HY
  have HR : Hid _ := hF.re
  obtain ⟨bx, hbx⟩ : ∃ bx, bx = w.heap.size := ⟨_, rfl⟩
  obtain ⟨br, hbr⟩ : ∃ br, br = w.heap.size + 1 := ⟨_, rfl⟩
  obtain ⟨pv, hpv, hp64, hlk⟩ : ∃ pv, PoR w pv l.re.posts ∧ l.re.posts.length ≤ 64 ∧ ∀ X, Below u.heap.size u X → (Instr.lookup 78 (.map (some mb)) (.int .i64 a) true).run Try.prog X = .ok (.tuple #[.agg #[.int .i64 l.seq, .int .i64 l.re.err, .int .i64 l.re.at_, pv], .bool true]) X := by
    rcases h.looks' hF.below h64 with ⟨hl, _⟩ | ⟨l', pv, hl, hp, hp', hlk⟩
    · rw [hg] at hl; cases hl
    · rw [hg] at hl
      injection hl with hl
      subst hl
      exact ⟨pv, hp, hp', hlk⟩
  generalize hq : l.seq = q at hc hlk
  generalize hre : l.re.err = re at hlk
  generalize hrt : l.re.at_ = rt at hlk
  obtain ⟨p, c, hpf, _⟩ := hpv.form
  subst hpf
  generalize hn : l.re.posts.length = n at hlk
  have HS : Hid (∀ X, Below u.heap.size u X → (X.cell? ⟨B, 0, none⟩ = some (.map (some mb)) ∧ X.cell? ⟨bx, 0, none⟩ = some (.int .i64 a) ∧ (Instr.lookup 78 (.map (some mb)) (.int .i64 a) true).run Try.prog X = .ok (.tuple #[.agg #[.int .i64 q, .int .i64 re, .int .i64 rt, .slice p n c], .bool true]) X) ∧ X.cell? ⟨bx, 1, none⟩ = some (.int .i64 b)) := fun X hX => by
    have hTX := hT.below hX
    obtain ⟨j0, j1⟩ := hF.id X hX
    rw [hbx]
    exact ⟨⟨hTX.c0, j0, hlk X hX⟩, j1⟩
  obtain ⟨i0, i1⟩ := hF.id u (Below.refl _ _)
  rw [← hbx] at i0 i1
  rw [← hbr] at HR
  have HE : Hid (Below w.heap.size w u ∧ w.heap.size ≤ br ∧ br < u.heap.size) := ⟨hF.below, by omega, by rw [hF.size]; omega⟩
  have HQ : Hid (∀ X, Below w.heap.size w X → FindOut w s a b (.returned (.tuple #[.agg #[.int .i64 0, .int .i64 0, .slice none 0 0], .int .i64 3])) X) := fun X hX => by
    have e : Se.find s a b = (Se.zero, 3) := by simp [Se.find, hm, hg, hq, hc]
    unfold FindOut
    rw [e]
    exact ⟨_, rfl, RowC.nil _ _ _, fun k hk => by simp [cBlk] at hk, hX⟩
  generalize FindOut w s a b = Q at HQ ⊢
  clear h hF hm h64 hT hg hq hlk hre hrt hpv hp64 hn
  go_enter Try.func35, Try.ntmps35
  go_wp2_with fail
  rw [← hu]
  rw [← hbr, ← hbx]
  clear hu hbx hbr
  refine Calls.mono HM.out ?_
  rintro e w1 ⟨rfl, hw⟩
  subst hw
  go_wp2_with fail
  refine Calls.mono HY.out ?_
  rintro e w2 ⟨rfl, hb⟩
  have HB : Hid (Below w1.heap.size w1 w2) := hb
  have HK : Hid (∀ X, Below w2.heap.size w2 X → X.cell? ⟨B, 0, none⟩ = some (.map (some mb)) ∧ X.cell? ⟨bx, 0, none⟩ = some (.int .i64 a) ∧ (Instr.lookup 78 (.map (some mb)) (.int .i64 a) true).run Try.prog X = .ok (.tuple #[.agg #[.int .i64 q, .int .i64 re, .int .i64 rt, .slice p n c], .bool true]) X) := fun X hX => (HS.out X (HB.out.trans (hX.mono HB.out.size))).1
  obtain ⟨w3, hw3⟩ : ∃ w3, w3 = (w2.alloc (.cells #[.int .i64 q, .int .i64 re, .int .i64 rt, .slice p n c] 104)).drew := ⟨_, rfl⟩
  obtain ⟨bl, hbl⟩ : ∃ bl, bl = w2.heap.size := ⟨_, rfl⟩
  have hb3 : Below w2.heap.size w2 w3 := by rw [hw3]; exact (below_alloc _ _).drew
  have hcl : ∀ j, w3.cell? ⟨bl, j, none⟩ = (#[.int .i64 q, .int .i64 re, .int .i64 rt, .slice p n c] : Array Value)[j]? := fun j => by
    rw [hw3, hbl]
    exact World.cell?_alloc_mark w2 _ _ _ j
  have HB3 : Hid (Below w1.heap.size w1 w3) := HB.out.trans (hb3.mono HB.out.size)
  have c0 : w3.cell? ⟨bl, 0, none⟩ = some (.int .i64 q) := hcl 0
  have c1 : w3.cell? ⟨bl, 1, none⟩ = some (.int .i64 re) := hcl 1
  have c2 : w3.cell? ⟨bl, 2, none⟩ = some (.int .i64 rt) := hcl 2
  have c3 : w3.cell? ⟨bl, 3, none⟩ = some (.slice p n c) := hcl 3
  have d1 := (HS.out w3 HB3.out).2
  obtain ⟨x0, x1, x2, f0, f1, f2⟩ := HR.out _ HB3.out
  clear hb i0 i1 hb3 hcl
  go_wp2
  go_region_held (fun X => X.cell? ⟨B, 0, none⟩ = some (.map (some mb)) ∧ X.cell? ⟨bx, 0, none⟩ = some (.int .i64 a) ∧ (Instr.lookup 78 (.map (some mb)) (.int .i64 a) true).run Try.prog X = .ok (.tuple #[.agg #[.int .i64 q, .int .i64 re, .int .i64 rt, .slice p n c], .bool true]) X)
    (exact HK.out _ (by first | exact (Below.refl _ _).drew | exact ((Below.refl _ _).alloc (Nat.le_refl _) _).drew))
    (fail)
  all_goals
    rw [← hw3, ← hbl]
    clear hw3 hbl
    go_wp2
    refine bodyPost_ret (v := .tuple #[.agg #[.int .i64 0, .int .i64 0, .slice none 0 0], .int .i64 3]) ?qres rfl ?qpost
    case qres => simp [results, Try.results35, go_sem, x0, x1, x2]
    case qpost => exact HQ.out _ (se_fin3_below (HE.out.1.trans (HB3.out.mono HE.out.1.size)) HE.out.2.1 _ _ _)

set_option maxHeartbeats 1000000 in
theorem Find_old (h : Tb w B mb s) (a b : Int) (hm : Se.may a b = true) {l : Se.Ls} (hg : Se.get s a = some l) (hc : b < l.seq) : Calls Try.prog 35 #[.pointer (some ⟨B, 0, none⟩), .agg #[.int .i64 a, .int .i64 b]] w (FindOut w s a b) := by
  obtain ⟨u, hu⟩ : ∃ u, u = (w.alloc (.cells #[.int .i64 a, .int .i64 b] 35)).alloc (.cells #[.int .i64 0, .int .i64 0, .slice none 0 0] 32) := ⟨_, rfl⟩
  have hF := Fx.of w a b rfl hu
  have h64 : se_In64 a := by have := Se.may_iff hm; unfold se_In64; omega
  have hT := h.below hF.below
  have HM : Hid _ := isMadeT_c hT
  have HY := se_mayBe_c a b u
  rw [hm] at HY
  have HY : Hid _ := HY
  have HR : Hid _ := hF.re
  obtain ⟨bx, hbx⟩ : ∃ bx, bx = w.heap.size := ⟨_, rfl⟩
  obtain ⟨br, hbr⟩ : ∃ br, br = w.heap.size + 1 := ⟨_, rfl⟩
  obtain ⟨pv, hpv, hp64, hlk⟩ : ∃ pv, PoR w pv l.re.posts ∧ l.re.posts.length ≤ 64 ∧ ∀ X, Below u.heap.size u X → (Instr.lookup 78 (.map (some mb)) (.int .i64 a) true).run Try.prog X = .ok (.tuple #[.agg #[.int .i64 l.seq, .int .i64 l.re.err, .int .i64 l.re.at_, pv], .bool true]) X := by
    rcases h.looks' hF.below h64 with ⟨hl, _⟩ | ⟨l', pv, hl, hp, hp', hlk⟩
    · rw [hg] at hl; cases hl
    · rw [hg] at hl
      injection hl with hl
      subst hl
      exact ⟨pv, hp, hp', hlk⟩
  generalize hq : l.seq = q at hc hlk
  generalize hre : l.re.err = re at hlk
  generalize hrt : l.re.at_ = rt at hlk
  obtain ⟨p, c, hpf, _⟩ := hpv.form
  subst hpf
  generalize hn : l.re.posts.length = n at hlk
  have HS : Hid (∀ X, Below u.heap.size u X → (X.cell? ⟨B, 0, none⟩ = some (.map (some mb)) ∧ X.cell? ⟨bx, 0, none⟩ = some (.int .i64 a) ∧ (Instr.lookup 78 (.map (some mb)) (.int .i64 a) true).run Try.prog X = .ok (.tuple #[.agg #[.int .i64 q, .int .i64 re, .int .i64 rt, .slice p n c], .bool true]) X) ∧ X.cell? ⟨bx, 1, none⟩ = some (.int .i64 b)) := fun X hX => by
    have hTX := hT.below hX
    obtain ⟨j0, j1⟩ := hF.id X hX
    rw [hbx]
    exact ⟨⟨hTX.c0, j0, hlk X hX⟩, j1⟩
  obtain ⟨i0, i1⟩ := hF.id u (Below.refl _ _)
  rw [← hbx] at i0 i1
  rw [← hbr] at HR
  have HE : Hid (Below w.heap.size w u ∧ w.heap.size ≤ br ∧ br < u.heap.size) := ⟨hF.below, by omega, by rw [hF.size]; omega⟩
  have HQ : Hid (∀ X, Below w.heap.size w X → FindOut w s a b (.returned (.tuple #[.agg #[.int .i64 0, .int .i64 0, .slice none 0 0], .int .i64 110])) X) := fun X hX => by
    have e : Se.find s a b = (Se.zero, 110) := by simp [Se.find, hm, hg, hq, hc, Int.not_lt.2 (Int.le_of_lt hc)]
    unfold FindOut
    rw [e]
    exact ⟨_, rfl, RowC.nil _ _ _, fun k hk => by simp [cBlk] at hk, hX⟩
  generalize FindOut w s a b = Q at HQ ⊢
  clear h hF hm h64 hT hg hq hlk hre hrt hpv hp64 hn
  have hc' : ¬ q < b := by omega
  go_enter Try.func35, Try.ntmps35
  go_wp2_with fail
  rw [← hu]
  rw [← hbr, ← hbx]
  clear hu hbx hbr
  refine Calls.mono HM.out ?_
  rintro e w1 ⟨rfl, hw⟩
  subst hw
  go_wp2_with fail
  refine Calls.mono HY.out ?_
  rintro e w2 ⟨rfl, hb⟩
  have HB : Hid (Below w1.heap.size w1 w2) := hb
  have HK : Hid (∀ X, Below w2.heap.size w2 X → X.cell? ⟨B, 0, none⟩ = some (.map (some mb)) ∧ X.cell? ⟨bx, 0, none⟩ = some (.int .i64 a) ∧ (Instr.lookup 78 (.map (some mb)) (.int .i64 a) true).run Try.prog X = .ok (.tuple #[.agg #[.int .i64 q, .int .i64 re, .int .i64 rt, .slice p n c], .bool true]) X) := fun X hX => (HS.out X (HB.out.trans (hX.mono HB.out.size))).1
  obtain ⟨w3, hw3⟩ : ∃ w3, w3 = (w2.alloc (.cells #[.int .i64 q, .int .i64 re, .int .i64 rt, .slice p n c] 104)).drew := ⟨_, rfl⟩
  obtain ⟨bl, hbl⟩ : ∃ bl, bl = w2.heap.size := ⟨_, rfl⟩
  have hb3 : Below w2.heap.size w2 w3 := by rw [hw3]; exact (below_alloc _ _).drew
  have hcl : ∀ j, w3.cell? ⟨bl, j, none⟩ = (#[.int .i64 q, .int .i64 re, .int .i64 rt, .slice p n c] : Array Value)[j]? := fun j => by
    rw [hw3, hbl]
    exact World.cell?_alloc_mark w2 _ _ _ j
  have HB3 : Hid (Below w1.heap.size w1 w3) := HB.out.trans (hb3.mono HB.out.size)
  have c0 : w3.cell? ⟨bl, 0, none⟩ = some (.int .i64 q) := hcl 0
  have c1 : w3.cell? ⟨bl, 1, none⟩ = some (.int .i64 re) := hcl 1
  have c2 : w3.cell? ⟨bl, 2, none⟩ = some (.int .i64 rt) := hcl 2
  have c3 : w3.cell? ⟨bl, 3, none⟩ = some (.slice p n c) := hcl 3
  have d1 := (HS.out w3 HB3.out).2
  obtain ⟨x0, x1, x2, f0, f1, f2⟩ := HR.out _ HB3.out
  clear hb i0 i1 hb3 hcl
  go_wp2
  go_region_held (fun X => X.cell? ⟨B, 0, none⟩ = some (.map (some mb)) ∧ X.cell? ⟨bx, 0, none⟩ = some (.int .i64 a) ∧ (Instr.lookup 78 (.map (some mb)) (.int .i64 a) true).run Try.prog X = .ok (.tuple #[.agg #[.int .i64 q, .int .i64 re, .int .i64 rt, .slice p n c], .bool true]) X)
    (exact HK.out _ (by first | exact (Below.refl _ _).drew | exact ((Below.refl _ _).alloc (Nat.le_refl _) _).drew))
    (fail)
  all_goals
    rw [← hw3, ← hbl]
    clear hw3 hbl
    go_wp2
    refine bodyPost_ret (v := .tuple #[.agg #[.int .i64 0, .int .i64 0, .slice none 0 0], .int .i64 110]) ?qres rfl ?qpost
    case qres => simp [results, Try.results35, go_sem, x0, x1, x2]
    case qpost => exact HQ.out _ (se_fin3_below (HE.out.1.trans (HB3.out.mono HE.out.1.size)) HE.out.2.1 _ _ _)

set_option maxHeartbeats 1000000 in
theorem Find_yes (h : Tb w B mb s) (a b : Int) (hm : Se.may a b = true) {l : Se.Ls} (hg : Se.get s a = some l) (hc : l.seq = b) : Calls Try.prog 35 #[.pointer (some ⟨B, 0, none⟩), .agg #[.int .i64 a, .int .i64 b]] w (FindOut w s a b) := by
  obtain ⟨u, hu⟩ : ∃ u, u = (w.alloc (.cells #[.int .i64 a, .int .i64 b] 35)).alloc (.cells #[.int .i64 0, .int .i64 0, .slice none 0 0] 32) := ⟨_, rfl⟩
  have hF := Fx.of w a b rfl hu
  have h64 : se_In64 a := by have := Se.may_iff hm; unfold se_In64; omega
  have hT := h.below hF.below
  have HM : Hid _ := isMadeT_c hT
  have HY := se_mayBe_c a b u
  rw [hm] at HY
  have HY : Hid _ := HY
  have HR : Hid _ := hF.re
  obtain ⟨bx, hbx⟩ : ∃ bx, bx = w.heap.size := ⟨_, rfl⟩
  obtain ⟨br, hbr⟩ : ∃ br, br = w.heap.size + 1 := ⟨_, rfl⟩
  obtain ⟨pv, hpv, hp64, hlk⟩ : ∃ pv, PoR w pv l.re.posts ∧ l.re.posts.length ≤ 64 ∧ ∀ X, Below u.heap.size u X → (Instr.lookup 78 (.map (some mb)) (.int .i64 a) true).run Try.prog X = .ok (.tuple #[.agg #[.int .i64 l.seq, .int .i64 l.re.err, .int .i64 l.re.at_, pv], .bool true]) X := by
    rcases h.looks' hF.below h64 with ⟨hl, _⟩ | ⟨l', pv, hl, hp, hp', hlk⟩
    · rw [hg] at hl; cases hl
    · rw [hg] at hl
      injection hl with hl
      subst hl
      exact ⟨pv, hp, hp', hlk⟩
  generalize hq : l.seq = q at hc hlk
  generalize hre : l.re.err = re at hlk
  generalize hrt : l.re.at_ = rt at hlk
  obtain ⟨p, c, hpf, _⟩ := hpv.form
  subst hpf
  have HC : Hid (∀ X, Below w.heap.size w X → Calls Try.prog 54 #[.slice p l.re.posts.length c] X (CloneOut X l.re.posts.length (poCells l.re.posts))) := fun X hX => PCloneR_c (hpv.below hX) (by omega)
  have HQ : Hid (∀ X pv', RowC X 2 pv' l.re.posts.length (poCells l.re.posts) → (∀ k, cBlk pv' = some k → w.heap.size ≤ k) → Below w.heap.size w X → FindOut w s a b (.returned (.tuple #[.agg #[.int .i64 re, .int .i64 rt, pv'], .int .i64 0])) X) := fun X pv' h1 h2 h3 => by
    have e : Se.find s a b = (l.re, 0) := by simp [Se.find, hm, hg, hq, hc]
    unfold FindOut
    rw [e, hre, hrt]
    exact ⟨_, rfl, h1, h2, h3⟩
  have hn1 : ¬ q < b := by omega
  have hn2 : ¬ b < q := by omega
  clear hpv hp64
  generalize l.re.posts.length = n at HC HQ hlk
  generalize poCells l.re.posts = xs at HC HQ
  have HS : Hid (∀ X, Below u.heap.size u X → (X.cell? ⟨B, 0, none⟩ = some (.map (some mb)) ∧ X.cell? ⟨bx, 0, none⟩ = some (.int .i64 a) ∧ (Instr.lookup 78 (.map (some mb)) (.int .i64 a) true).run Try.prog X = .ok (.tuple #[.agg #[.int .i64 q, .int .i64 re, .int .i64 rt, .slice p n c], .bool true]) X) ∧ X.cell? ⟨bx, 1, none⟩ = some (.int .i64 b)) := fun X hX => by
    have hTX := hT.below hX
    obtain ⟨j0, j1⟩ := hF.id X hX
    rw [hbx]
    exact ⟨⟨hTX.c0, j0, hlk X hX⟩, j1⟩
  obtain ⟨i0, i1⟩ := hF.id u (Below.refl _ _)
  rw [← hbx] at i0 i1
  rw [← hbr] at HR
  have HE : Hid (Below w.heap.size w u ∧ w.heap.size ≤ br ∧ br < u.heap.size) := ⟨hF.below, by omega, by rw [hF.size]; omega⟩

  generalize FindOut w s a b = Q at HQ ⊢
  clear h hF hm h64 hT hg hlk hre hrt hc hq
  go_enter Try.func35, Try.ntmps35
  go_wp2_with fail
  rw [← hu]
  rw [← hbr, ← hbx]
  clear hu hbx hbr
  refine Calls.mono HM.out ?_
  rintro e w1 ⟨rfl, hw⟩
  subst hw
  go_wp2_with fail
  refine Calls.mono HY.out ?_
  rintro e w2 ⟨rfl, hb⟩
  have HB : Hid (Below w1.heap.size w1 w2) := hb
  have HK : Hid (∀ X, Below w2.heap.size w2 X → X.cell? ⟨B, 0, none⟩ = some (.map (some mb)) ∧ X.cell? ⟨bx, 0, none⟩ = some (.int .i64 a) ∧ (Instr.lookup 78 (.map (some mb)) (.int .i64 a) true).run Try.prog X = .ok (.tuple #[.agg #[.int .i64 q, .int .i64 re, .int .i64 rt, .slice p n c], .bool true]) X) := fun X hX => (HS.out X (HB.out.trans (hX.mono HB.out.size))).1
  obtain ⟨w3, hw3⟩ : ∃ w3, w3 = (w2.alloc (.cells #[.int .i64 q, .int .i64 re, .int .i64 rt, .slice p n c] 104)).drew := ⟨_, rfl⟩
  obtain ⟨bl, hbl⟩ : ∃ bl, bl = w2.heap.size := ⟨_, rfl⟩
  have hb3 : Below w2.heap.size w2 w3 := by rw [hw3]; exact (below_alloc _ _).drew
  have hcl : ∀ j, w3.cell? ⟨bl, j, none⟩ = (#[.int .i64 q, .int .i64 re, .int .i64 rt, .slice p n c] : Array Value)[j]? := fun j => by
    rw [hw3, hbl]
    exact World.cell?_alloc_mark w2 _ _ _ j
  have HB3 : Hid (Below w1.heap.size w1 w3) := HB.out.trans (hb3.mono HB.out.size)
  have c0 : w3.cell? ⟨bl, 0, none⟩ = some (.int .i64 q) := hcl 0
  have c1 : w3.cell? ⟨bl, 1, none⟩ = some (.int .i64 re) := hcl 1
  have c2 : w3.cell? ⟨bl, 2, none⟩ = some (.int .i64 rt) := hcl 2
  have c3 : w3.cell? ⟨bl, 3, none⟩ = some (.slice p n c) := hcl 3
  have d1 := (HS.out w3 HB3.out).2
  obtain ⟨x0, x1, x2, f0, f1, f2⟩ := HR.out _ HB3.out
  clear hb i0 i1 hb3 hcl
  go_wp2
  go_region_held (fun X => X.cell? ⟨B, 0, none⟩ = some (.map (some mb)) ∧ X.cell? ⟨bx, 0, none⟩ = some (.int .i64 a) ∧ (Instr.lookup 78 (.map (some mb)) (.int .i64 a) true).run Try.prog X = .ok (.tuple #[.agg #[.int .i64 q, .int .i64 re, .int .i64 rt, .slice p n c], .bool true]) X)
    (exact HK.out _ (by first | exact (Below.refl _ _).drew | exact ((Below.refl _ _).alloc (Nat.le_refl _) _).drew))
    (fail)
  all_goals
    rw [← hw3, ← hbl]
    clear hw3 hbl
    obtain ⟨w4, hw4⟩ : ∃ w4, w4 = w3.alloc (.cells #[.int .i64 re, .int .i64 rt, .slice p n c] 32) := ⟨_, rfl⟩
    obtain ⟨bs, hbs⟩ : ∃ bs, bs = w3.heap.size := ⟨_, rfl⟩
    have hb4 : Below w3.heap.size w3 w4 := by rw [hw4]; exact below_alloc _ _
    have hs4 : bs < w4.heap.size := by rw [hw4, hbs]; simp
    have hc4 : ∀ j, w4.cell? ⟨bs, j, none⟩ = (#[.int .i64 re, .int .i64 rt, .slice p n c] : Array Value)[j]? := fun j => by
      rw [hw4, hbs]
      exact World.cell?_alloc_mark w3 _ _ _ j
    have hf4 : ∀ j, w4.frozen? ⟨bs, j, none⟩ = false := fun j => by
      rw [hw4, hbs, World.frozen?_alloc_mark]
      simp
    have hW3 : Below w.heap.size w w3 := HE.out.1.trans (HB3.out.mono HE.out.1.size)
    have hW4 : Below w.heap.size w w4 := hW3.trans (hb4.mono hW3.size)
    have HB4 : Hid (Below w1.heap.size w1 w4) := HB3.out.trans (hb4.mono HB3.out.size)
    have HW : Hid (Below w.heap.size w w4 ∧ w.heap.size ≤ bs ∧ bs ≠ br ∧ br < w4.heap.size) := ⟨hW4, by have := hW3.size; omega, by have := HE.out.2.2; have := HB3.out.size; omega, by have := HE.out.2.2; have := HB4.out.size; omega⟩
    have HCC : Hid _ := HC.out w4 hW4
    have HX : Hid (bs < w4.heap.size ∧ (∀ j, w4.cell? ⟨bs, j, none⟩ = (#[.int .i64 re, .int .i64 rt, .slice p n c] : Array Value)[j]?) ∧ ∀ j, w4.frozen? ⟨bs, j, none⟩ = false) := ⟨hs4, hc4, hf4⟩
    have g2 : w4.cell? ⟨bs, 2, none⟩ = some (.slice p n c) := hc4 2
    clear hb4 hs4 hc4 hf4 hW3 hW4
    go_wp2_with fail
    rw [← hw4, ← hbs]
    clear hw4 hbs x0 x1 x2 f0 f1 f2 c0 c1 c2 c3 d1 g2
    refine Calls.mono HCC.out ?_
    rintro e w5 ⟨pv', rfl, hrow, hb5, hfr⟩
    obtain ⟨p', c', hv', _⟩ := hrow.form
    subst hv'
    have hX := HX.out
    have g0 : w5.cell? ⟨bs, 0, none⟩ = some (.int .i64 re) := (hb5.cell (p := ⟨bs, 0, none⟩) hX.1).trans (hX.2.1 0)
    have g1 : w5.cell? ⟨bs, 1, none⟩ = some (.int .i64 rt) := (hb5.cell (p := ⟨bs, 1, none⟩) hX.1).trans (hX.2.1 1)
    have g2 : w5.cell? ⟨bs, 2, none⟩ = some (.slice p n c) := (hb5.cell (p := ⟨bs, 2, none⟩) hX.1).trans (hX.2.1 2)
    have g3 : w5.frozen? ⟨bs, 2, none⟩ = false := (hb5.frozen (p := ⟨bs, 2, none⟩) hX.1).trans (hX.2.2 2)
    have HB5 : Hid (Below w1.heap.size w1 w5) := HB4.out.trans (hb5.mono HB4.out.size)
    obtain ⟨x0, x1, x2, f0, f1, f2⟩ := HR.out _ HB5.out
    have hne : bs ≠ br := HW.out.2.2.1
    have hne' : br ≠ bs := Ne.symm hne
    have HO : Hid (RowC (se_fin3 (w5.setCell ⟨bs, 2, none⟩ (.slice p' n c')) br (.int .i64 re) (.int .i64 rt) (.slice p' n c')) 2 (.slice p' n c') n xs ∧ (∀ k, cBlk (.slice p' n c') = some k → w.heap.size ≤ k) ∧ Below w.heap.size w (se_fin3 (w5.setCell ⟨bs, 2, none⟩ (.slice p' n c')) br (.int .i64 re) (.int .i64 rt) (.slice p' n c'))) := by
      have hs := HW.out.1.size
      refine ⟨hrow.carry (fun k hk => ?_), fun k hk => Nat.le_trans hs (hfr k hk), ?_⟩
      · have := hfr k hk
        have hk1 : k ≠ br := by have := HW.out.2.2.2; omega
        have hk2 : k ≠ bs := by omega
        rw [se_fin3_other hk1, Below.heap_setCell _ _ _ _ hk2]
      · exact se_fin3_below ((HW.out.1.trans (hb5.mono hs)).setCell (p := ⟨bs, 2, none⟩) HW.out.2.1 _) HE.out.2.1 _ _ _
    clear hX hrow hb5 hfr
    go_wp2
    refine bodyPost_ret (v := .tuple #[.agg #[.int .i64 re, .int .i64 rt, .slice p' n c'], .int .i64 0]) ?qres rfl ?qpost
    case qres => simp [results, Try.results35, go_sem, x0, x1, x2]
    case qpost => exact HQ.out _ _ HO.out.1 HO.out.2.1 HO.out.2.2

theorem Find_c (h : Tb w B mb s) (a b : Int) : Calls Try.prog 35 #[.pointer (some ⟨B, 0, none⟩), .agg #[.int .i64 a, .int .i64 b]] w (FindOut w s a b) := by
  cases hm : Se.may a b with
  | false => exact Find_bad h a b hm
  | true =>
    cases hg : Se.get s a with
    | none => exact Find_none h a b hm hg
    | some l =>
      by_cases h1 : l.seq < b
      · exact Find_later h a b hm hg h1
      · by_cases h2 : b < l.seq
        · exact Find_old h a b hm hg h2
        · exact Find_yes h a b hm hg (by omega)

end
end Go.Proofs.Ytepbmfjimppgcaa
