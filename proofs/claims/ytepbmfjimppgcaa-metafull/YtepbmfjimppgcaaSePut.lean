/-
  Put.
-/
import Derived.Test.YtepbmfjimppgcaaSeKept
namespace Go.Proofs.Ytepbmfjimppgcaa
open Go.RowKit

theorem se_grown_below {w w' : World} {row : Option Nat} (h : Below w.heap.size w w') : w.grownBy w' row := ⟨h.os, h.tape, h.output, h.size, fun k hk _ => h.block k hk⟩
theorem grown_trans {w u w' : World} {row : Option Nat} (h : w.grownBy u row) (k : u.grownBy w' row) : w.grownBy w' row := ⟨k.os.trans h.os, k.tape.trans h.tape, k.output.trans h.output, Nat.le_trans h.size k.size, fun i hi hr => (k.block i (Nat.lt_of_lt_of_le hi h.size) hr).trans (h.block i hi hr)⟩

/-- The boxes of a call that is handed an id and a reply. -/
structure Px (w u : World) (a b e t : Int) (pv : Value) : Prop where
  below : Below w.heap.size w u
  size : u.heap.size = w.heap.size + 2
  id : ∀ X, Below u.heap.size u X → X.cell? ⟨w.heap.size, 0, none⟩ = some (.int .i64 a) ∧ X.cell? ⟨w.heap.size, 1, none⟩ = some (.int .i64 b)
  re : ∀ X, Below u.heap.size u X → X.cell? ⟨w.heap.size + 1, 0, none⟩ = some (.int .i64 e) ∧ X.cell? ⟨w.heap.size + 1, 1, none⟩ = some (.int .i64 t) ∧ X.cell? ⟨w.heap.size + 1, 2, none⟩ = some pv ∧ X.frozen? ⟨w.heap.size + 1, 2, none⟩ = false

theorem Px.of (w : World) (a b e t : Int) (pv : Value) {T T' : TypeId} {u0 u : World} (h0 : u0 = w.alloc (.cells #[.int .i64 a, .int .i64 b] T)) (h1 : u = u0.alloc (.cells #[.int .i64 e, .int .i64 t, pv] T')) : Px w u a b e t pv := by
  have b0 : Below w.heap.size w u0 := by rw [h0]; exact below_alloc _ _
  have b1 : Below u0.heap.size u0 u := by rw [h1]; exact below_alloc _ _
  have s0 : u0.heap.size = w.heap.size + 1 := by rw [h0]; simp
  have s1 : u.heap.size = w.heap.size + 2 := by rw [h1]; simp [s0]
  have ci : ∀ j, u.cell? ⟨w.heap.size, j, none⟩ = (#[.int .i64 a, .int .i64 b] : Array Value)[j]? := fun j => by
    rw [b1.cell (p := ⟨w.heap.size, j, none⟩) (by show w.heap.size < _; omega), h0]
    exact World.cell?_alloc_mark w _ _ _ j
  have cr : ∀ j, u.cell? ⟨w.heap.size + 1, j, none⟩ = (#[.int .i64 e, .int .i64 t, pv] : Array Value)[j]? := fun j => by
    rw [h1, ← s0]
    exact World.cell?_alloc_mark u0 _ _ _ j
  have fr : ∀ j, u.frozen? ⟨w.heap.size + 1, j, none⟩ = false := fun j => by
    rw [h1, ← s0, World.frozen?_alloc_mark]
    simp
  refine ⟨b0.trans (b1.mono (by omega)), s1, fun X hX => ?_, fun X hX => ?_⟩
  · rw [hX.cell (p := ⟨w.heap.size, 0, none⟩) (by show w.heap.size < _; omega), hX.cell (p := ⟨w.heap.size, 1, none⟩) (by show w.heap.size < _; omega)]
    exact ⟨ci 0, ci 1⟩
  · have hc : ∀ j, X.cell? ⟨w.heap.size + 1, j, none⟩ = u.cell? ⟨w.heap.size + 1, j, none⟩ := fun j => hX.cell (p := ⟨w.heap.size + 1, j, none⟩) (by show w.heap.size + 1 < _; omega)
    have hf : ∀ j, X.frozen? ⟨w.heap.size + 1, j, none⟩ = false := fun j => (hX.frozen (p := ⟨w.heap.size + 1, j, none⟩) (by show w.heap.size + 1 < _; omega)).trans (fr j)
    rw [hc, hc, hc]
    exact ⟨cr 0, cr 1, cr 2, hf 2⟩

/-- What Put answers, and leaves. -/
def PutOut (w : World) (B mb : Nat) (s : Se.St) (a b : Int) (r : Mo.Re) (e : Ending) (w' : World) : Prop :=
  e = .returned (.int .i64 (Se.putE s a b r)) ∧ Tb w' B mb (Se.put s a b r) ∧ w.grownBy w' (some mb) ∧ ∀ lo, lo ≤ w.heap.size → Far lo w mb → Far lo w' mb

theorem PutOut.no {w : World} {B mb : Nat} {s : Se.St} (h : Tb w B mb s) {a b : Int} {r : Mo.Re} {c : Int} (he : Se.putE s a b r = c) (hc : c ≠ 0) (X : World) (hX : Below w.heap.size w X) : PutOut w B mb s a b r (.returned (.int .i64 c)) X := by
  have e : Se.put s a b r = s := by unfold Se.put; rw [he, if_neg hc]
  exact ⟨by rw [he], by rw [e]; exact h.below hX, se_grown_below hX, fun lo _ hf => hf.carry (hX.block mb h.lt.2)⟩

section
variable {w : World} {B mb : Nat} {s : Se.St}

set_option maxHeartbeats 1000000 in
set_option maxRecDepth 20000 in
theorem Put_bad (h : Tb w B mb s) (a b : Int) (r : Mo.Re) {pv : Value} (hp : PoR w pv r.posts) (hm : Se.may a b = false) : Calls Try.prog 40 #[.pointer (some ⟨B, 0, none⟩), .agg #[.int .i64 a, .int .i64 b], .agg #[.int .i64 r.err, .int .i64 r.at_, pv]] w (PutOut w B mb s a b r) := by
  obtain ⟨p0, c0, hpf, _⟩ := hp.form
  subst hpf
  generalize he : r.err = e0
  generalize ht : r.at_ = t0
  obtain ⟨u, hu⟩ : ∃ u, u = (w.alloc (.cells #[.int .i64 a, .int .i64 b] 35)).alloc (.cells #[.int .i64 e0, .int .i64 t0, .slice p0 r.posts.length c0] 32) := ⟨_, rfl⟩
  have hF := Px.of w a b e0 t0 _ rfl hu
  have hT := h.below hF.below
  have HM : Hid _ := isMadeT_c hT
  have HY := se_mayBe_c a b u
  rw [hm] at HY
  have HY : Hid _ := HY
  have HR : Hid _ := hF.re
  obtain ⟨bx, hbx⟩ : ∃ bx, bx = w.heap.size := ⟨_, rfl⟩
  obtain ⟨br, hbr⟩ : ∃ br, br = w.heap.size + 1 := ⟨_, rfl⟩
  obtain ⟨i0, i1⟩ := hF.id u (Below.refl _ _)
  rw [← hbx] at i0 i1
  rw [← hbr] at HR
  have HE : Hid (Below w.heap.size w u ∧ w.heap.size ≤ br ∧ br < u.heap.size) := ⟨hF.below, by omega, by rw [hF.size]; omega⟩
  have HQ : Hid (∀ X, Below w.heap.size w X → PutOut w B mb s a b r (.returned (.int .i64 1)) X) := PutOut.no h (by simp [Se.putE, hm]) (by decide)
  generalize PutOut w B mb s a b r = Q at HQ ⊢
  generalize r.posts.length = n at HR hu hF ⊢
  clear h hF hm hT hp
  go_enter Try.func40, Try.ntmps40
  go_wp2_with fail
  rw [← hu]
  rw [← hbr, ← hbx]
  clear hu hbx hbr
  refine Calls.mono HM.out ?_
  rintro e w1 ⟨rfl, hw⟩
  subst hw
  go_wp2_with fail
  refine Calls.mono HY.out ?_
  rintro e w2 ⟨rfl, hb⟩
  have HB : Hid (Below w1.heap.size w1 w2) := hb
  clear hb i0 i1
  go_wp2

  exact HQ.out _ (HE.out.1.trans (HB.out.mono HE.out.1.size))

set_option maxHeartbeats 1000000 in
set_option maxRecDepth 20000 in
theorem Put_long (h : Tb w B mb s) (a b : Int) (r : Mo.Re) {pv : Value} (hp : PoR w pv r.posts) (hm : Se.may a b = true) (hl : 64 < r.posts.length) : Calls Try.prog 40 #[.pointer (some ⟨B, 0, none⟩), .agg #[.int .i64 a, .int .i64 b], .agg #[.int .i64 r.err, .int .i64 r.at_, pv]] w (PutOut w B mb s a b r) := by
  obtain ⟨p0, c0, hpf, _⟩ := hp.form
  subst hpf
  generalize he : r.err = e0
  generalize ht : r.at_ = t0
  obtain ⟨u, hu⟩ : ∃ u, u = (w.alloc (.cells #[.int .i64 a, .int .i64 b] 35)).alloc (.cells #[.int .i64 e0, .int .i64 t0, .slice p0 r.posts.length c0] 32) := ⟨_, rfl⟩
  have hF := Px.of w a b e0 t0 _ rfl hu
  have hT := h.below hF.below
  have HM : Hid _ := isMadeT_c hT
  have HY := se_mayBe_c a b u
  rw [hm] at HY
  have HY : Hid _ := HY
  have HR : Hid _ := hF.re
  obtain ⟨bx, hbx⟩ : ∃ bx, bx = w.heap.size := ⟨_, rfl⟩
  obtain ⟨br, hbr⟩ : ∃ br, br = w.heap.size + 1 := ⟨_, rfl⟩
  obtain ⟨i0, i1⟩ := hF.id u (Below.refl _ _)
  rw [← hbx] at i0 i1
  rw [← hbr] at HR
  have HE : Hid (Below w.heap.size w u ∧ w.heap.size ≤ br ∧ br < u.heap.size) := ⟨hF.below, by omega, by rw [hF.size]; omega⟩
  have HQ : Hid (∀ X, Below w.heap.size w X → PutOut w B mb s a b r (.returned (.int .i64 1)) X) := PutOut.no h (by simp [Se.putE, hm, hl]) (by decide)
  generalize PutOut w B mb s a b r = Q at HQ ⊢
  generalize r.posts.length = n at HR hu hF hl ⊢
  have hl1 : (n : Int) > 64 := by omega
  clear h hF hm hT hp hl
  go_enter Try.func40, Try.ntmps40
  go_wp2_with fail
  rw [← hu]
  rw [← hbr, ← hbx]
  clear hu hbx hbr
  refine Calls.mono HM.out ?_
  rintro e w1 ⟨rfl, hw⟩
  subst hw
  go_wp2_with fail
  refine Calls.mono HY.out ?_
  rintro e w2 ⟨rfl, hb⟩
  have HB : Hid (Below w1.heap.size w1 w2) := hb
  obtain ⟨x0, x1, x2, f2⟩ := HR.out _ hb
  clear hb i0 i1
  go_wp2

  exact HQ.out _ (HE.out.1.trans (HB.out.mono HE.out.1.size))

set_option maxHeartbeats 1000000 in
set_option maxRecDepth 20000 in
theorem Put_old (h : Tb w B mb s) (a b : Int) (r : Mo.Re) {pv : Value} (hp : PoR w pv r.posts) (hm : Se.may a b = true) (hl : r.posts.length ≤ 64) {l : Se.Ls} (hg : Se.get s a = some l) (hc : b ≤ l.seq) : Calls Try.prog 40 #[.pointer (some ⟨B, 0, none⟩), .agg #[.int .i64 a, .int .i64 b], .agg #[.int .i64 r.err, .int .i64 r.at_, pv]] w (PutOut w B mb s a b r) := by
  obtain ⟨p0, c0, hpf, _⟩ := hp.form
  subst hpf
  generalize he : r.err = e0
  generalize ht : r.at_ = t0
  obtain ⟨u, hu⟩ : ∃ u, u = (w.alloc (.cells #[.int .i64 a, .int .i64 b] 35)).alloc (.cells #[.int .i64 e0, .int .i64 t0, .slice p0 r.posts.length c0] 32) := ⟨_, rfl⟩
  have hF := Px.of w a b e0 t0 _ rfl hu
  have hT := h.below hF.below
  have HM : Hid _ := isMadeT_c hT
  have HY := se_mayBe_c a b u
  rw [hm] at HY
  have HY : Hid _ := HY
  have HR : Hid _ := hF.re
  obtain ⟨bx, hbx⟩ : ∃ bx, bx = w.heap.size := ⟨_, rfl⟩
  obtain ⟨br, hbr⟩ : ∃ br, br = w.heap.size + 1 := ⟨_, rfl⟩
  obtain ⟨i0, i1⟩ := hF.id u (Below.refl _ _)
  rw [← hbx] at i0 i1
  rw [← hbr] at HR
  have HE : Hid (Below w.heap.size w u ∧ w.heap.size ≤ br ∧ br < u.heap.size) := ⟨hF.below, by omega, by rw [hF.size]; omega⟩
  have h64 : se_In64 a := by have := Se.may_iff hm; unfold se_In64; omega
  obtain ⟨pv, hpv, hlk⟩ : ∃ pv, PoR w pv l.re.posts ∧ ∀ X, Below u.heap.size u X → (Instr.lookup 78 (.map (some mb)) (.int .i64 a) true).run Try.prog X = .ok (.tuple #[.agg #[.int .i64 l.seq, .int .i64 l.re.err, .int .i64 l.re.at_, pv], .bool true]) X := by
    rcases h.looks' hF.below h64 with ⟨hl, _⟩ | ⟨l', pv, hl, hp, hp', hlk⟩
    · rw [hg] at hl; cases hl
    · rw [hg] at hl
      injection hl with hl
      subst hl
      exact ⟨pv, hp, hlk⟩
  obtain ⟨p, c, hpf, _⟩ := hpv.form
  subst hpf
  generalize hq : l.seq = q at hc hlk
  generalize l.re.err = re at hlk
  generalize l.re.at_ = rt at hlk
  generalize l.re.posts.length = n1 at hlk
  have HS : Hid (∀ X, Below u.heap.size u X → (X.cell? ⟨B, 0, none⟩ = some (.map (some mb)) ∧ X.cell? ⟨bx, 0, none⟩ = some (.int .i64 a) ∧ (Instr.lookup 78 (.map (some mb)) (.int .i64 a) true).run Try.prog X = .ok (.tuple #[.agg #[.int .i64 q, .int .i64 re, .int .i64 rt, .slice p n1 c], .bool true]) X) ∧ X.cell? ⟨bx, 1, none⟩ = some (.int .i64 b) ∧ (Builtin.len_ #[78] 3 #[.map (some mb)]).run Try.prog X = .ok (.int .i64 (s.length : Int)) X) := fun X hX => by
    have hTX := hT.below hX
    obtain ⟨j0, j1⟩ := hF.id X hX
    rw [hbx]
    exact ⟨⟨hTX.c0, j0, hlk X hX⟩, j1, hTX.lenC _⟩
  have HQ : Hid (∀ X, Below w.heap.size w X → PutOut w B mb s a b r (.returned (.int .i64 110)) X) := PutOut.no h (by simp [Se.putE, hm, Nat.not_lt.2 hl, hg, hq, hc]) (by decide)
  generalize PutOut w B mb s a b r = Q at HQ ⊢
  generalize r.posts.length = n at HR hu hF hl ⊢
  have hl1 : ¬ (n : Int) > 64 := by omega
  have hc1 : q ≥ b := hc
  clear h hF hm hT hp hl hg h64 hlk hq hpv hc
  go_enter Try.func40, Try.ntmps40
  go_wp2_with fail
  rw [← hu]
  rw [← hbr, ← hbx]
  clear hu hbx hbr
  refine Calls.mono HM.out ?_
  rintro e w1 ⟨rfl, hw⟩
  subst hw
  go_wp2_with fail
  refine Calls.mono HY.out ?_
  rintro e w2 ⟨rfl, hb⟩
  have HB : Hid (Below w1.heap.size w1 w2) := hb
  have HK : Hid (∀ X, Below w2.heap.size w2 X → X.cell? ⟨B, 0, none⟩ = some (.map (some mb)) ∧ X.cell? ⟨bx, 0, none⟩ = some (.int .i64 a) ∧ (Instr.lookup 78 (.map (some mb)) (.int .i64 a) true).run Try.prog X = .ok (.tuple #[.agg #[.int .i64 q, .int .i64 re, .int .i64 rt, .slice p n1 c], .bool true]) X) := fun X hX => (HS.out X (HB.out.trans (hX.mono HB.out.size))).1
  obtain ⟨w3, hw3⟩ : ∃ w3, w3 = (w2.alloc (.cells #[.int .i64 q, .int .i64 re, .int .i64 rt, .slice p n1 c] 104)).drew := ⟨_, rfl⟩
  obtain ⟨bl, hbl⟩ : ∃ bl, bl = w2.heap.size := ⟨_, rfl⟩
  have hb3 : Below w2.heap.size w2 w3 := by rw [hw3]; exact (below_alloc _ _).drew
  have hcl : ∀ j, w3.cell? ⟨bl, j, none⟩ = (#[.int .i64 q, .int .i64 re, .int .i64 rt, .slice p n1 c] : Array Value)[j]? := fun j => by
    rw [hw3, hbl]
    exact World.cell?_alloc_mark w2 _ _ _ j
  have HB3 : Hid (Below w1.heap.size w1 w3) := HB.out.trans (hb3.mono HB.out.size)
  have c0 : w3.cell? ⟨bl, 0, none⟩ = some (.int .i64 q) := hcl 0
  obtain ⟨⟨d0, d2, _⟩, d1, d3⟩ := HS.out w3 HB3.out
  obtain ⟨y0, y1, y2, g2⟩ := HR.out _ HB3.out
  obtain ⟨x0, x1, x2, f2⟩ := HR.out _ hb
  clear hb i0 i1 hb3 hcl
  go_wp2
  go_region_held (fun X => X.cell? ⟨B, 0, none⟩ = some (.map (some mb)) ∧ X.cell? ⟨bx, 0, none⟩ = some (.int .i64 a) ∧ (Instr.lookup 78 (.map (some mb)) (.int .i64 a) true).run Try.prog X = .ok (.tuple #[.agg #[.int .i64 q, .int .i64 re, .int .i64 rt, .slice p n1 c], .bool true]) X)
    (exact HK.out _ (by first | exact (Below.refl _ _).drew | exact ((Below.refl _ _).alloc (Nat.le_refl _) _).drew))
    (fail)
  all_goals
    rw [← hw3, ← hbl]
    clear hw3 hbl
    go_wp2

    exact HQ.out _ (HE.out.1.trans (HB3.out.mono HE.out.1.size))

set_option maxHeartbeats 1000000 in
set_option maxRecDepth 20000 in
theorem Put_full (h : Tb w B mb s) (a b : Int) (r : Mo.Re) {pv : Value} (hp : PoR w pv r.posts) (hm : Se.may a b = true) (hl : r.posts.length ≤ 64) (hg : Se.get s a = none) (hc : 64 ≤ s.length) : Calls Try.prog 40 #[.pointer (some ⟨B, 0, none⟩), .agg #[.int .i64 a, .int .i64 b], .agg #[.int .i64 r.err, .int .i64 r.at_, pv]] w (PutOut w B mb s a b r) := by
  obtain ⟨p0, c0, hpf, _⟩ := hp.form
  subst hpf
  generalize he : r.err = e0
  generalize ht : r.at_ = t0
  obtain ⟨u, hu⟩ : ∃ u, u = (w.alloc (.cells #[.int .i64 a, .int .i64 b] 35)).alloc (.cells #[.int .i64 e0, .int .i64 t0, .slice p0 r.posts.length c0] 32) := ⟨_, rfl⟩
  have hF := Px.of w a b e0 t0 _ rfl hu
  have hT := h.below hF.below
  have HM : Hid _ := isMadeT_c hT
  have HY := se_mayBe_c a b u
  rw [hm] at HY
  have HY : Hid _ := HY
  have HR : Hid _ := hF.re
  obtain ⟨bx, hbx⟩ : ∃ bx, bx = w.heap.size := ⟨_, rfl⟩
  obtain ⟨br, hbr⟩ : ∃ br, br = w.heap.size + 1 := ⟨_, rfl⟩
  obtain ⟨i0, i1⟩ := hF.id u (Below.refl _ _)
  rw [← hbx] at i0 i1
  rw [← hbr] at HR
  have HE : Hid (Below w.heap.size w u ∧ w.heap.size ≤ br ∧ br < u.heap.size) := ⟨hF.below, by omega, by rw [hF.size]; omega⟩
  have h64 : se_In64 a := by have := Se.may_iff hm; unfold se_In64; omega
  have hlk : ∀ X, Below u.heap.size u X → (Instr.lookup 78 (.map (some mb)) (.int .i64 a) true).run Try.prog X = .ok (.tuple #[.agg #[.int .i64 0, .int .i64 0, .int .i64 0, .slice none 0 0], .bool false]) X := by
    rcases h.looks' hF.below h64 with ⟨_, hl⟩ | ⟨l', pv, hl, _⟩
    · exact hl
    · rw [hg] at hl; cases hl
  have HS : Hid (∀ X, Below u.heap.size u X → (X.cell? ⟨B, 0, none⟩ = some (.map (some mb)) ∧ X.cell? ⟨bx, 0, none⟩ = some (.int .i64 a) ∧ (Instr.lookup 78 (.map (some mb)) (.int .i64 a) true).run Try.prog X = .ok (.tuple #[.agg #[.int .i64 0, .int .i64 0, .int .i64 0, .slice none 0 0], .bool false]) X) ∧ X.cell? ⟨bx, 1, none⟩ = some (.int .i64 b) ∧ (Builtin.len_ #[78] 3 #[.map (some mb)]).run Try.prog X = .ok (.int .i64 (s.length : Int)) X) := fun X hX => by
    have hTX := hT.below hX
    obtain ⟨j0, j1⟩ := hF.id X hX
    rw [hbx]
    exact ⟨⟨hTX.c0, j0, hlk X hX⟩, j1, hTX.lenC _⟩
  have HQ : Hid (∀ X, Below w.heap.size w X → PutOut w B mb s a b r (.returned (.int .i64 2)) X) := PutOut.no h (by simp [Se.putE, hm, Nat.not_lt.2 hl, hg, hc]) (by decide)
  generalize PutOut w B mb s a b r = Q at HQ ⊢
  generalize r.posts.length = n at HR hu hF hl ⊢
  have hl1 : ¬ (n : Int) > 64 := by omega
  have hc1 : (s.length : Int) ≥ 64 := by omega
  clear h hF hm hT hp hl hg h64 hlk hc
  go_enter Try.func40, Try.ntmps40
  go_wp2_with fail
  rw [← hu]
  rw [← hbr, ← hbx]
  clear hu hbx hbr
  refine Calls.mono HM.out ?_
  rintro e w1 ⟨rfl, hw⟩
  subst hw
  go_wp2_with fail
  refine Calls.mono HY.out ?_
  rintro e w2 ⟨rfl, hb⟩
  have HB : Hid (Below w1.heap.size w1 w2) := hb
  have HK : Hid (∀ X, Below w2.heap.size w2 X → X.cell? ⟨B, 0, none⟩ = some (.map (some mb)) ∧ X.cell? ⟨bx, 0, none⟩ = some (.int .i64 a) ∧ (Instr.lookup 78 (.map (some mb)) (.int .i64 a) true).run Try.prog X = .ok (.tuple #[.agg #[.int .i64 0, .int .i64 0, .int .i64 0, .slice none 0 0], .bool false]) X) := fun X hX => (HS.out X (HB.out.trans (hX.mono HB.out.size))).1
  obtain ⟨w3, hw3⟩ : ∃ w3, w3 = (w2.alloc (.cells #[.int .i64 0, .int .i64 0, .int .i64 0, .slice none 0 0] 104)).drew := ⟨_, rfl⟩
  obtain ⟨bl, hbl⟩ : ∃ bl, bl = w2.heap.size := ⟨_, rfl⟩
  have hb3 : Below w2.heap.size w2 w3 := by rw [hw3]; exact (below_alloc _ _).drew
  have hcl : ∀ j, w3.cell? ⟨bl, j, none⟩ = (#[.int .i64 0, .int .i64 0, .int .i64 0, .slice none 0 0] : Array Value)[j]? := fun j => by
    rw [hw3, hbl]
    exact World.cell?_alloc_mark w2 _ _ _ j
  have HB3 : Hid (Below w1.heap.size w1 w3) := HB.out.trans (hb3.mono HB.out.size)
  have c0 : w3.cell? ⟨bl, 0, none⟩ = some (.int .i64 0) := hcl 0
  obtain ⟨⟨d0, d2, _⟩, d1, d3⟩ := HS.out w3 HB3.out
  obtain ⟨y0, y1, y2, g2⟩ := HR.out _ HB3.out
  obtain ⟨x0, x1, x2, f2⟩ := HR.out _ hb
  clear hb i0 i1 hb3 hcl
  go_wp2
  go_region_held (fun X => X.cell? ⟨B, 0, none⟩ = some (.map (some mb)) ∧ X.cell? ⟨bx, 0, none⟩ = some (.int .i64 a) ∧ (Instr.lookup 78 (.map (some mb)) (.int .i64 a) true).run Try.prog X = .ok (.tuple #[.agg #[.int .i64 0, .int .i64 0, .int .i64 0, .slice none 0 0], .bool false]) X)
    (exact HK.out _ (by first | exact (Below.refl _ _).drew | exact ((Below.refl _ _).alloc (Nat.le_refl _) _).drew))
    (fail)
  all_goals
    rw [← hw3, ← hbl]
    clear hw3 hbl
    go_wp2

    exact HQ.out _ (HE.out.1.trans (HB3.out.mono HE.out.1.size))

set_option maxHeartbeats 1000000 in
set_option maxRecDepth 20000 in
theorem Put_next (h : Tb w B mb s) (a b : Int) (r : Mo.Re) {pv : Value} (hp : PoR w pv r.posts) (hm : Se.may a b = true) (hl : r.posts.length ≤ 64) (hsz : ∀ p ∈ r.posts, p.user.size ≤ 140737488351232 ∧ p.text.size ≤ 140737488351232) {l : Se.Ls} (hg : Se.get s a = some l) (hc : l.seq < b) : Calls Try.prog 40 #[.pointer (some ⟨B, 0, none⟩), .agg #[.int .i64 a, .int .i64 b], .agg #[.int .i64 r.err, .int .i64 r.at_, pv]] w (PutOut w B mb s a b r) := by
  obtain ⟨p0, c0, hpf, _⟩ := hp.form
  subst hpf
  generalize he : r.err = e0
  generalize ht : r.at_ = t0
  obtain ⟨u, hu⟩ : ∃ u, u = (w.alloc (.cells #[.int .i64 a, .int .i64 b] 35)).alloc (.cells #[.int .i64 e0, .int .i64 t0, .slice p0 r.posts.length c0] 32) := ⟨_, rfl⟩
  have hF := Px.of w a b e0 t0 _ rfl hu
  have hT := h.below hF.below
  have HM : Hid _ := isMadeT_c hT
  have HY := se_mayBe_c a b u
  rw [hm] at HY
  have HY : Hid _ := HY
  have HR : Hid _ := hF.re
  obtain ⟨bx, hbx⟩ : ∃ bx, bx = w.heap.size := ⟨_, rfl⟩
  obtain ⟨br, hbr⟩ : ∃ br, br = w.heap.size + 1 := ⟨_, rfl⟩
  obtain ⟨i0, i1⟩ := hF.id u (Below.refl _ _)
  rw [← hbx] at i0 i1
  rw [← hbr] at HR
  have HE : Hid (Below w.heap.size w u ∧ w.heap.size ≤ br ∧ br < u.heap.size) := ⟨hF.below, by omega, by rw [hF.size]; omega⟩
  have h64 : se_In64 a := by have := Se.may_iff hm; unfold se_In64; omega
  obtain ⟨pv, hpv, hlk⟩ : ∃ pv, PoR w pv l.re.posts ∧ ∀ X, Below u.heap.size u X → (Instr.lookup 78 (.map (some mb)) (.int .i64 a) true).run Try.prog X = .ok (.tuple #[.agg #[.int .i64 l.seq, .int .i64 l.re.err, .int .i64 l.re.at_, pv], .bool true]) X := by
    rcases h.looks' hF.below h64 with ⟨hl, _⟩ | ⟨l', pv, hl, hp, hp', hlk⟩
    · rw [hg] at hl; cases hl
    · rw [hg] at hl
      injection hl with hl
      subst hl
      exact ⟨pv, hp, hlk⟩
  obtain ⟨p, c, hpf, _⟩ := hpv.form
  subst hpf
  generalize hq : l.seq = q at hc hlk
  generalize l.re.err = re at hlk
  generalize l.re.at_ = rt at hlk
  generalize l.re.posts.length = n1 at hlk
  have HS : Hid (∀ X, Below u.heap.size u X → (X.cell? ⟨B, 0, none⟩ = some (.map (some mb)) ∧ X.cell? ⟨bx, 0, none⟩ = some (.int .i64 a) ∧ (Instr.lookup 78 (.map (some mb)) (.int .i64 a) true).run Try.prog X = .ok (.tuple #[.agg #[.int .i64 q, .int .i64 re, .int .i64 rt, .slice p n1 c], .bool true]) X) ∧ X.cell? ⟨bx, 1, none⟩ = some (.int .i64 b) ∧ (Builtin.len_ #[78] 3 #[.map (some mb)]).run Try.prog X = .ok (.int .i64 (s.length : Int)) X) := fun X hX => by
    have hTX := hT.below hX
    obtain ⟨j0, j1⟩ := hF.id X hX
    rw [hbx]
    exact ⟨⟨hTX.c0, j0, hlk X hX⟩, j1, hTX.lenC _⟩
  have hpe : Se.putE s a b r = 0 := by simp [Se.putE, hm, Nat.not_lt.2 hl, hg, hq, Int.not_le.2 hc]
  have HQ : Hid (∀ X Y pv', Below w.heap.size w X → RowC X 2 pv' r.posts.length (poCells r.posts) → (∀ k, cBlk pv' = some k → w.heap.size ≤ k) → (∀ lo, FarV lo (.agg #[.int .i64 b, .int .i64 e0, .int .i64 t0, pv']) → Far lo X mb → Far lo Y mb) → Tb Y B mb (Se.ins a ⟨b, r⟩ s) → X.grownBy Y (some mb) → PutOut w B mb s a b r (.returned (.int .i64 0)) Y) := fun X Y pv' hX _ hfr hfar hY hg => by
    have e : Se.put s a b r = Se.ins a ⟨b, r⟩ s := by unfold Se.put; rw [if_pos hpe]
    refine ⟨by rw [hpe], by rw [e]; exact hY, grown_trans (se_grown_below hX) hg, fun lo hlo hf => hfar lo (fun q e2 t pv hv k hk => ?_) (hf.carry (hX.block mb h.lt.2))⟩
    have hpv : pv = pv' := by simp at hv; exact hv.2.2.2.symm
    rw [hpv] at hk
    exact Nat.le_trans hlo (hfr k hk)
  have HU : Hid (∀ X pv', Below w.heap.size w X → RowC X 2 pv' r.posts.length (poCells r.posts) → ∃ Y, (Instr.mapUpdate 78 (.map (some mb)) (.int .i64 a) (.agg #[.int .i64 b, .int .i64 e0, .int .i64 t0, pv'])).run Try.prog X = .ok () Y ∧ X.grownBy Y (some mb) ∧ Y.heap.size = X.heap.size ∧ Tb Y B mb (Se.ins a ⟨b, r⟩ s) ∧ Tb X B mb s ∧ ∀ lo, FarV lo (.agg #[.int .i64 b, .int .i64 e0, .int .i64 t0, pv']) → Far lo X mb → Far lo Y mb) := fun X pv' hX hr => by
    have hTX := h.below hX
    have hv : LsV X (.agg #[.int .i64 b, .int .i64 e0, .int .i64 t0, pv']) ⟨b, r⟩ := ⟨pv', by rw [← he, ← ht], PoR.ofRow hr, hl⟩
    have hle := Se.put_len (a := a) (b := b) (r := r) h.rise h.len
    unfold Se.put at hle
    rw [if_pos hpe] at hle
    obtain ⟨Y, q1, q2, q3, q4, q5⟩ := hTX.put h64 hv hle
    exact ⟨Y, q1, q2, q3, q4, hTX, q5⟩
  have HC : Hid (∀ X, Below w.heap.size w X → Calls Try.prog 59 #[.slice p0 r.posts.length c0] X (CloneOut X r.posts.length (poCells r.posts))) := fun X hX => keptPosts_c (hp.below hX) hl hsz
  have HX : Hid (bx ≠ br) := by show bx ≠ br; omega
  generalize PutOut w B mb s a b r = Q at HQ ⊢
  generalize poCells r.posts = xs at HQ HU HC
  generalize r.posts.length = n at HR hu hF hl HQ HU HC ⊢
  have hl1 : ¬ (n : Int) > 64 := by omega
  have hc1 : ¬ q ≥ b := by omega
  clear h hF hm hT hp hl hg h64 hlk hsz hpe hq hpv hc he ht
  go_enter Try.func40, Try.ntmps40
  go_wp2_with fail
  rw [← hu]
  rw [← hbr, ← hbx]
  clear hu hbx hbr
  refine Calls.mono HM.out ?_
  rintro e w1 ⟨rfl, hw⟩
  subst hw
  go_wp2_with fail
  refine Calls.mono HY.out ?_
  rintro e w2 ⟨rfl, hb⟩
  have HB : Hid (Below w1.heap.size w1 w2) := hb
  have HK : Hid (∀ X, Below w2.heap.size w2 X → X.cell? ⟨B, 0, none⟩ = some (.map (some mb)) ∧ X.cell? ⟨bx, 0, none⟩ = some (.int .i64 a) ∧ (Instr.lookup 78 (.map (some mb)) (.int .i64 a) true).run Try.prog X = .ok (.tuple #[.agg #[.int .i64 q, .int .i64 re, .int .i64 rt, .slice p n1 c], .bool true]) X) := fun X hX => (HS.out X (HB.out.trans (hX.mono HB.out.size))).1
  obtain ⟨w3, hw3⟩ : ∃ w3, w3 = (w2.alloc (.cells #[.int .i64 q, .int .i64 re, .int .i64 rt, .slice p n1 c] 104)).drew := ⟨_, rfl⟩
  obtain ⟨bl, hbl⟩ : ∃ bl, bl = w2.heap.size := ⟨_, rfl⟩
  have hb3 : Below w2.heap.size w2 w3 := by rw [hw3]; exact (below_alloc _ _).drew
  have hcl : ∀ j, w3.cell? ⟨bl, j, none⟩ = (#[.int .i64 q, .int .i64 re, .int .i64 rt, .slice p n1 c] : Array Value)[j]? := fun j => by
    rw [hw3, hbl]
    exact World.cell?_alloc_mark w2 _ _ _ j
  have HB3 : Hid (Below w1.heap.size w1 w3) := HB.out.trans (hb3.mono HB.out.size)
  have c0 : w3.cell? ⟨bl, 0, none⟩ = some (.int .i64 q) := hcl 0
  obtain ⟨⟨d0, d2, _⟩, d1, d3⟩ := HS.out w3 HB3.out
  obtain ⟨y0, y1, y2, g2⟩ := HR.out _ HB3.out
  obtain ⟨x0, x1, x2, f2⟩ := HR.out _ hb
  clear hb i0 i1 hb3 hcl
  go_wp2
  go_region_held (fun X => X.cell? ⟨B, 0, none⟩ = some (.map (some mb)) ∧ X.cell? ⟨bx, 0, none⟩ = some (.int .i64 a) ∧ (Instr.lookup 78 (.map (some mb)) (.int .i64 a) true).run Try.prog X = .ok (.tuple #[.agg #[.int .i64 q, .int .i64 re, .int .i64 rt, .slice p n1 c], .bool true]) X)
    (exact HK.out _ (by first | exact (Below.refl _ _).drew | exact ((Below.refl _ _).alloc (Nat.le_refl _) _).drew))
    (fail)
  all_goals
    rw [← hw3, ← hbl]
    clear hw3 hbl
    have hW3 : Below w.heap.size w w3 := HE.out.1.trans (HB3.out.mono HE.out.1.size)
    have HCC : Hid _ := HC.out w3 hW3
    have HW3 : Hid (Below w.heap.size w w3 ∧ br < w3.heap.size) := ⟨hW3, by have := HE.out.2.2; have := HB3.out.size; omega⟩
    clear hW3
    go_wp2_with fail
    clear x0 x1 x2 f2 y0 y1 y2 g2 c0 d1 d2 d0 d3
    refine Calls.mono HCC.out ?_
    rintro e w4 ⟨pv', rfl, hrow, hb4, hfr⟩
    obtain ⟨p', c', hv', _⟩ := hrow.form
    subst hv'
    have HB4 : Hid (Below w1.heap.size w1 w4) := HB3.out.trans (hb4.mono HB3.out.size)
    obtain ⟨x0, x1, x2, f2⟩ := HR.out _ HB4.out
    obtain ⟨w5, hw5⟩ : ∃ w5, w5 = w4.setCell ⟨br, 2, none⟩ (.slice p' n c') := ⟨_, rfl⟩
    have hW5 : Below w.heap.size w w5 := by
      rw [hw5]
      exact (HW3.out.1.trans (hb4.mono HW3.out.1.size)).setCell (p := ⟨br, 2, none⟩) HE.out.2.1 _
    have hr5 : RowC w5 2 (.slice p' n c') n xs := hrow.carry (fun k hk => by
      have := hfr k hk
      rw [hw5, Below.heap_setCell _ _ _ _ (by have := HW3.out.2; show k ≠ br; omega)])
    have cB : w5.cell? ⟨bx, 0, none⟩ = some (.int .i64 a) ∧ w5.cell? ⟨bx, 1, none⟩ = some (.int .i64 b) ∧ w5.cell? ⟨br, 0, none⟩ = some (.int .i64 e0) ∧ w5.cell? ⟨br, 1, none⟩ = some (.int .i64 t0) ∧ w5.cell? ⟨br, 2, none⟩ = some (.slice p' n c') := by
      obtain ⟨⟨_, q0, _⟩, q1, _⟩ := HS.out w4 HB4.out
      have ne : ∀ (p : Addr), p ≠ ⟨br, 2, none⟩ → w5.cell? p = w4.cell? p := fun p hp => by rw [hw5]; exact World.cell?_setCell_other _ _ _ _ (fun e => hp e.symm)
      have hbb : bx ≠ br := HX.out
      rw [ne ⟨bx, 0, none⟩ (by intro e; injection e with e; exact hbb e), ne ⟨bx, 1, none⟩ (by intro e; injection e with e; exact hbb e), ne ⟨br, 0, none⟩ (by intro e; injection e with _ e; cases e), ne ⟨br, 1, none⟩ (by intro e; injection e with _ e; cases e)]
      refine ⟨q0, q1, x0, x1, ?_⟩
      rw [hw5]
      exact World.cell?_setCell_same _ _ _ x2
    obtain ⟨Y, hY, hgY, hsY, hTY, hTX, hFY⟩ := HU.out w5.drew _ hW5.drew hr5
    have HS5 : Hid (w5.drew.cell? ⟨B, 0, none⟩ = some (.map (some mb)) ∧ w5.drew.cell? ⟨bx, 0, none⟩ = some (.int .i64 a) ∧ w5.drew.cell? ⟨bx, 1, none⟩ = some (.int .i64 b) ∧ w5.drew.cell? ⟨br, 0, none⟩ = some (.int .i64 e0) ∧ w5.drew.cell? ⟨br, 1, none⟩ = some (.int .i64 t0) ∧ w5.drew.cell? ⟨br, 2, none⟩ = some (.slice p' n c')) := ⟨hTX.c0, cB.1, cB.2.1, cB.2.2.1, cB.2.2.2.1, cB.2.2.2.2⟩
    have HSY : Hid (Y.cell? ⟨B, 0, none⟩ = some (.map (some mb)) ∧ Y.cell? ⟨bx, 0, none⟩ = some (.int .i64 a) ∧ Y.cell? ⟨bx, 1, none⟩ = some (.int .i64 b) ∧ Y.cell? ⟨br, 0, none⟩ = some (.int .i64 e0) ∧ Y.cell? ⟨br, 1, none⟩ = some (.int .i64 t0) ∧ Y.cell? ⟨br, 2, none⟩ = some (.slice p' n c')) := ⟨hTX.cell hgY hTX.c0, hTX.cell hgY cB.1, hTX.cell hgY cB.2.1, hTX.cell hgY cB.2.2.1, hTX.cell hgY cB.2.2.2.1, hTX.cell hgY cB.2.2.2.2⟩
    have HF : Hid (Q (.returned (.int .i64 0)) Y) := HQ.out w5.drew Y _ hW5.drew hr5 (fun k hk => by have := hfr k hk; have := HW3.out.1.size; omega) hFY hTY hgY
    clear hrow hb4 hfr hW5 hr5 cB hgY hsY hTY hTX hFY
    go_wp2
    rw [← hw5]
    clear hw5 x0 x1 x2 f2
    go_region_held (fun X => X.cell? ⟨B, 0, none⟩ = some (.map (some mb)) ∧ X.cell? ⟨bx, 0, none⟩ = some (.int .i64 a) ∧ X.cell? ⟨bx, 1, none⟩ = some (.int .i64 b) ∧ X.cell? ⟨br, 0, none⟩ = some (.int .i64 e0) ∧ X.cell? ⟨br, 1, none⟩ = some (.int .i64 t0) ∧ X.cell? ⟨br, 2, none⟩ = some (.slice p' n c'))
      (first | exact HS5.out | exact HSY.out)
      (fail)
    all_goals
      go_wp2

      exact HF.out

set_option maxHeartbeats 1000000 in
set_option maxRecDepth 20000 in
theorem Put_new (h : Tb w B mb s) (a b : Int) (r : Mo.Re) {pv : Value} (hp : PoR w pv r.posts) (hm : Se.may a b = true) (hl : r.posts.length ≤ 64) (hsz : ∀ p ∈ r.posts, p.user.size ≤ 140737488351232 ∧ p.text.size ≤ 140737488351232) (hg : Se.get s a = none) (hc : s.length < 64) : Calls Try.prog 40 #[.pointer (some ⟨B, 0, none⟩), .agg #[.int .i64 a, .int .i64 b], .agg #[.int .i64 r.err, .int .i64 r.at_, pv]] w (PutOut w B mb s a b r) := by
  obtain ⟨p0, c0, hpf, _⟩ := hp.form
  subst hpf
  generalize he : r.err = e0
  generalize ht : r.at_ = t0
  obtain ⟨u, hu⟩ : ∃ u, u = (w.alloc (.cells #[.int .i64 a, .int .i64 b] 35)).alloc (.cells #[.int .i64 e0, .int .i64 t0, .slice p0 r.posts.length c0] 32) := ⟨_, rfl⟩
  have hF := Px.of w a b e0 t0 _ rfl hu
  have hT := h.below hF.below
  have HM : Hid _ := isMadeT_c hT
  have HY := se_mayBe_c a b u
  rw [hm] at HY
  have HY : Hid _ := HY
  have HR : Hid _ := hF.re
  obtain ⟨bx, hbx⟩ : ∃ bx, bx = w.heap.size := ⟨_, rfl⟩
  obtain ⟨br, hbr⟩ : ∃ br, br = w.heap.size + 1 := ⟨_, rfl⟩
  obtain ⟨i0, i1⟩ := hF.id u (Below.refl _ _)
  rw [← hbx] at i0 i1
  rw [← hbr] at HR
  have HE : Hid (Below w.heap.size w u ∧ w.heap.size ≤ br ∧ br < u.heap.size) := ⟨hF.below, by omega, by rw [hF.size]; omega⟩
  have h64 : se_In64 a := by have := Se.may_iff hm; unfold se_In64; omega
  have hlk : ∀ X, Below u.heap.size u X → (Instr.lookup 78 (.map (some mb)) (.int .i64 a) true).run Try.prog X = .ok (.tuple #[.agg #[.int .i64 0, .int .i64 0, .int .i64 0, .slice none 0 0], .bool false]) X := by
    rcases h.looks' hF.below h64 with ⟨_, hl⟩ | ⟨l', pv, hl, _⟩
    · exact hl
    · rw [hg] at hl; cases hl
  have HS : Hid (∀ X, Below u.heap.size u X → (X.cell? ⟨B, 0, none⟩ = some (.map (some mb)) ∧ X.cell? ⟨bx, 0, none⟩ = some (.int .i64 a) ∧ (Instr.lookup 78 (.map (some mb)) (.int .i64 a) true).run Try.prog X = .ok (.tuple #[.agg #[.int .i64 0, .int .i64 0, .int .i64 0, .slice none 0 0], .bool false]) X) ∧ X.cell? ⟨bx, 1, none⟩ = some (.int .i64 b) ∧ (Builtin.len_ #[78] 3 #[.map (some mb)]).run Try.prog X = .ok (.int .i64 (s.length : Int)) X) := fun X hX => by
    have hTX := hT.below hX
    obtain ⟨j0, j1⟩ := hF.id X hX
    rw [hbx]
    exact ⟨⟨hTX.c0, j0, hlk X hX⟩, j1, hTX.lenC _⟩
  have hpe : Se.putE s a b r = 0 := by simp [Se.putE, hm, Nat.not_lt.2 hl, hg, Nat.not_le.2 hc]
  have HQ : Hid (∀ X Y pv', Below w.heap.size w X → RowC X 2 pv' r.posts.length (poCells r.posts) → (∀ k, cBlk pv' = some k → w.heap.size ≤ k) → (∀ lo, FarV lo (.agg #[.int .i64 b, .int .i64 e0, .int .i64 t0, pv']) → Far lo X mb → Far lo Y mb) → Tb Y B mb (Se.ins a ⟨b, r⟩ s) → X.grownBy Y (some mb) → PutOut w B mb s a b r (.returned (.int .i64 0)) Y) := fun X Y pv' hX _ hfr hfar hY hg => by
    have e : Se.put s a b r = Se.ins a ⟨b, r⟩ s := by unfold Se.put; rw [if_pos hpe]
    refine ⟨by rw [hpe], by rw [e]; exact hY, grown_trans (se_grown_below hX) hg, fun lo hlo hf => hfar lo (fun q e2 t pv hv k hk => ?_) (hf.carry (hX.block mb h.lt.2))⟩
    have hpv : pv = pv' := by simp at hv; exact hv.2.2.2.symm
    rw [hpv] at hk
    exact Nat.le_trans hlo (hfr k hk)
  have HU : Hid (∀ X pv', Below w.heap.size w X → RowC X 2 pv' r.posts.length (poCells r.posts) → ∃ Y, (Instr.mapUpdate 78 (.map (some mb)) (.int .i64 a) (.agg #[.int .i64 b, .int .i64 e0, .int .i64 t0, pv'])).run Try.prog X = .ok () Y ∧ X.grownBy Y (some mb) ∧ Y.heap.size = X.heap.size ∧ Tb Y B mb (Se.ins a ⟨b, r⟩ s) ∧ Tb X B mb s ∧ ∀ lo, FarV lo (.agg #[.int .i64 b, .int .i64 e0, .int .i64 t0, pv']) → Far lo X mb → Far lo Y mb) := fun X pv' hX hr => by
    have hTX := h.below hX
    have hv : LsV X (.agg #[.int .i64 b, .int .i64 e0, .int .i64 t0, pv']) ⟨b, r⟩ := ⟨pv', by rw [← he, ← ht], PoR.ofRow hr, hl⟩
    have hle := Se.put_len (a := a) (b := b) (r := r) h.rise h.len
    unfold Se.put at hle
    rw [if_pos hpe] at hle
    obtain ⟨Y, q1, q2, q3, q4, q5⟩ := hTX.put h64 hv hle
    exact ⟨Y, q1, q2, q3, q4, hTX, q5⟩
  have HC : Hid (∀ X, Below w.heap.size w X → Calls Try.prog 59 #[.slice p0 r.posts.length c0] X (CloneOut X r.posts.length (poCells r.posts))) := fun X hX => keptPosts_c (hp.below hX) hl hsz
  have HX : Hid (bx ≠ br) := by show bx ≠ br; omega
  generalize PutOut w B mb s a b r = Q at HQ ⊢
  generalize poCells r.posts = xs at HQ HU HC
  generalize r.posts.length = n at HR hu hF hl HQ HU HC ⊢
  have hl1 : ¬ (n : Int) > 64 := by omega
  have hc1 : ¬ (s.length : Int) ≥ 64 := by omega
  clear h hF hm hT hp hl hg h64 hlk hsz hpe hc he ht
  go_enter Try.func40, Try.ntmps40
  go_wp2_with fail
  rw [← hu]
  rw [← hbr, ← hbx]
  clear hu hbx hbr
  refine Calls.mono HM.out ?_
  rintro e w1 ⟨rfl, hw⟩
  subst hw
  go_wp2_with fail
  refine Calls.mono HY.out ?_
  rintro e w2 ⟨rfl, hb⟩
  have HB : Hid (Below w1.heap.size w1 w2) := hb
  have HK : Hid (∀ X, Below w2.heap.size w2 X → X.cell? ⟨B, 0, none⟩ = some (.map (some mb)) ∧ X.cell? ⟨bx, 0, none⟩ = some (.int .i64 a) ∧ (Instr.lookup 78 (.map (some mb)) (.int .i64 a) true).run Try.prog X = .ok (.tuple #[.agg #[.int .i64 0, .int .i64 0, .int .i64 0, .slice none 0 0], .bool false]) X) := fun X hX => (HS.out X (HB.out.trans (hX.mono HB.out.size))).1
  obtain ⟨w3, hw3⟩ : ∃ w3, w3 = (w2.alloc (.cells #[.int .i64 0, .int .i64 0, .int .i64 0, .slice none 0 0] 104)).drew := ⟨_, rfl⟩
  obtain ⟨bl, hbl⟩ : ∃ bl, bl = w2.heap.size := ⟨_, rfl⟩
  have hb3 : Below w2.heap.size w2 w3 := by rw [hw3]; exact (below_alloc _ _).drew
  have hcl : ∀ j, w3.cell? ⟨bl, j, none⟩ = (#[.int .i64 0, .int .i64 0, .int .i64 0, .slice none 0 0] : Array Value)[j]? := fun j => by
    rw [hw3, hbl]
    exact World.cell?_alloc_mark w2 _ _ _ j
  have HB3 : Hid (Below w1.heap.size w1 w3) := HB.out.trans (hb3.mono HB.out.size)
  have c0 : w3.cell? ⟨bl, 0, none⟩ = some (.int .i64 0) := hcl 0
  obtain ⟨⟨d0, d2, _⟩, d1, d3⟩ := HS.out w3 HB3.out
  obtain ⟨y0, y1, y2, g2⟩ := HR.out _ HB3.out
  obtain ⟨x0, x1, x2, f2⟩ := HR.out _ hb
  clear hb i0 i1 hb3 hcl
  go_wp2
  go_region_held (fun X => X.cell? ⟨B, 0, none⟩ = some (.map (some mb)) ∧ X.cell? ⟨bx, 0, none⟩ = some (.int .i64 a) ∧ (Instr.lookup 78 (.map (some mb)) (.int .i64 a) true).run Try.prog X = .ok (.tuple #[.agg #[.int .i64 0, .int .i64 0, .int .i64 0, .slice none 0 0], .bool false]) X)
    (exact HK.out _ (by first | exact (Below.refl _ _).drew | exact ((Below.refl _ _).alloc (Nat.le_refl _) _).drew))
    (fail)
  all_goals
    rw [← hw3, ← hbl]
    clear hw3 hbl
    have hW3 : Below w.heap.size w w3 := HE.out.1.trans (HB3.out.mono HE.out.1.size)
    have HCC : Hid _ := HC.out w3 hW3
    have HW3 : Hid (Below w.heap.size w w3 ∧ br < w3.heap.size) := ⟨hW3, by have := HE.out.2.2; have := HB3.out.size; omega⟩
    clear hW3
    go_wp2_with fail
    clear x0 x1 x2 f2 y0 y1 y2 g2 c0 d1 d2 d0 d3
    refine Calls.mono HCC.out ?_
    rintro e w4 ⟨pv', rfl, hrow, hb4, hfr⟩
    obtain ⟨p', c', hv', _⟩ := hrow.form
    subst hv'
    have HB4 : Hid (Below w1.heap.size w1 w4) := HB3.out.trans (hb4.mono HB3.out.size)
    obtain ⟨x0, x1, x2, f2⟩ := HR.out _ HB4.out
    obtain ⟨w5, hw5⟩ : ∃ w5, w5 = w4.setCell ⟨br, 2, none⟩ (.slice p' n c') := ⟨_, rfl⟩
    have hW5 : Below w.heap.size w w5 := by
      rw [hw5]
      exact (HW3.out.1.trans (hb4.mono HW3.out.1.size)).setCell (p := ⟨br, 2, none⟩) HE.out.2.1 _
    have hr5 : RowC w5 2 (.slice p' n c') n xs := hrow.carry (fun k hk => by
      have := hfr k hk
      rw [hw5, Below.heap_setCell _ _ _ _ (by have := HW3.out.2; show k ≠ br; omega)])
    have cB : w5.cell? ⟨bx, 0, none⟩ = some (.int .i64 a) ∧ w5.cell? ⟨bx, 1, none⟩ = some (.int .i64 b) ∧ w5.cell? ⟨br, 0, none⟩ = some (.int .i64 e0) ∧ w5.cell? ⟨br, 1, none⟩ = some (.int .i64 t0) ∧ w5.cell? ⟨br, 2, none⟩ = some (.slice p' n c') := by
      obtain ⟨⟨_, q0, _⟩, q1, _⟩ := HS.out w4 HB4.out
      have ne : ∀ (p : Addr), p ≠ ⟨br, 2, none⟩ → w5.cell? p = w4.cell? p := fun p hp => by rw [hw5]; exact World.cell?_setCell_other _ _ _ _ (fun e => hp e.symm)
      have hbb : bx ≠ br := HX.out
      rw [ne ⟨bx, 0, none⟩ (by intro e; injection e with e; exact hbb e), ne ⟨bx, 1, none⟩ (by intro e; injection e with e; exact hbb e), ne ⟨br, 0, none⟩ (by intro e; injection e with _ e; cases e), ne ⟨br, 1, none⟩ (by intro e; injection e with _ e; cases e)]
      refine ⟨q0, q1, x0, x1, ?_⟩
      rw [hw5]
      exact World.cell?_setCell_same _ _ _ x2
    obtain ⟨Y, hY, hgY, hsY, hTY, hTX, hFY⟩ := HU.out w5.drew _ hW5.drew hr5
    have HS5 : Hid (w5.drew.cell? ⟨B, 0, none⟩ = some (.map (some mb)) ∧ w5.drew.cell? ⟨bx, 0, none⟩ = some (.int .i64 a) ∧ w5.drew.cell? ⟨bx, 1, none⟩ = some (.int .i64 b) ∧ w5.drew.cell? ⟨br, 0, none⟩ = some (.int .i64 e0) ∧ w5.drew.cell? ⟨br, 1, none⟩ = some (.int .i64 t0) ∧ w5.drew.cell? ⟨br, 2, none⟩ = some (.slice p' n c')) := ⟨hTX.c0, cB.1, cB.2.1, cB.2.2.1, cB.2.2.2.1, cB.2.2.2.2⟩
    have HSY : Hid (Y.cell? ⟨B, 0, none⟩ = some (.map (some mb)) ∧ Y.cell? ⟨bx, 0, none⟩ = some (.int .i64 a) ∧ Y.cell? ⟨bx, 1, none⟩ = some (.int .i64 b) ∧ Y.cell? ⟨br, 0, none⟩ = some (.int .i64 e0) ∧ Y.cell? ⟨br, 1, none⟩ = some (.int .i64 t0) ∧ Y.cell? ⟨br, 2, none⟩ = some (.slice p' n c')) := ⟨hTX.cell hgY hTX.c0, hTX.cell hgY cB.1, hTX.cell hgY cB.2.1, hTX.cell hgY cB.2.2.1, hTX.cell hgY cB.2.2.2.1, hTX.cell hgY cB.2.2.2.2⟩
    have HF : Hid (Q (.returned (.int .i64 0)) Y) := HQ.out w5.drew Y _ hW5.drew hr5 (fun k hk => by have := hfr k hk; have := HW3.out.1.size; omega) hFY hTY hgY
    clear hrow hb4 hfr hW5 hr5 cB hgY hsY hTY hTX hFY
    go_wp2
    rw [← hw5]
    clear hw5 x0 x1 x2 f2
    go_region_held (fun X => X.cell? ⟨B, 0, none⟩ = some (.map (some mb)) ∧ X.cell? ⟨bx, 0, none⟩ = some (.int .i64 a) ∧ X.cell? ⟨bx, 1, none⟩ = some (.int .i64 b) ∧ X.cell? ⟨br, 0, none⟩ = some (.int .i64 e0) ∧ X.cell? ⟨br, 1, none⟩ = some (.int .i64 t0) ∧ X.cell? ⟨br, 2, none⟩ = some (.slice p' n c'))
      (first | exact HS5.out | exact HSY.out)
      (fail)
    all_goals
      go_wp2

      exact HF.out

theorem Put_c (h : Tb w B mb s) (a b : Int) (r : Mo.Re) {pv : Value} (hp : PoR w pv r.posts) (hsz : ∀ p ∈ r.posts, p.user.size ≤ 140737488351232 ∧ p.text.size ≤ 140737488351232) : Calls Try.prog 40 #[.pointer (some ⟨B, 0, none⟩), .agg #[.int .i64 a, .int .i64 b], .agg #[.int .i64 r.err, .int .i64 r.at_, pv]] w (PutOut w B mb s a b r) := by
  cases hm : Se.may a b with
  | false => exact Put_bad h a b r hp hm
  | true =>
    by_cases hl : 64 < r.posts.length
    · exact Put_long h a b r hp hm hl
    · cases hg : Se.get s a with
      | none =>
        by_cases hc : 64 ≤ s.length
        · exact Put_full h a b r hp hm (by omega) hg hc
        · exact Put_new h a b r hp hm (by omega) hsz hg (by omega)
      | some l =>
        by_cases hc : b ≤ l.seq
        · exact Put_old h a b r hp hm (by omega) hg hc
        · exact Put_next h a b r hp hm (by omega) hsz hg (by omega)

end
end Go.Proofs.Ytepbmfjimppgcaa
