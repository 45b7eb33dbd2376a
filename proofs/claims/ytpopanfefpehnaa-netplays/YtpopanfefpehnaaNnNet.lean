/-
  A net in memory: its block, its letters' row, its map of ways; what of the world stays as it was while it is used; its small functions.
-/
import Derived.Test.YtpopanfefpehnaaNnRow
import Derived.Test.YtpopanfefpehnaaNnMap
namespace Go.Proofs.Ytpopanfefpehnaa
open Go.RowKit

/-- What is neither block b nor owned is as it was. -/
structure KeptB (b : Nat) (own : Nat → Prop) (w w' : World) : Prop where
  os : w'.os = w.os
  tape : w'.tape = w.tape
  output : w'.output = w.output
  size : w.heap.size ≤ w'.heap.size
  block : ∀ k, k < w.heap.size → k ≠ b → ¬ own k → w'.heap[k]? = w.heap[k]?

/-- What was owned, and what was made since. -/
def sinceB (own : Nat → Prop) (w w' : World) : Nat → Prop := fun k => own k ∨ (w.heap.size ≤ k ∧ k < w'.heap.size)

theorem KeptB.refl (b : Nat) (own : Nat → Prop) (w : World) : KeptB b own w w := ⟨rfl, rfl, rfl, Nat.le_refl _, fun _ _ _ _ => rfl⟩
theorem KeptB.trans {b : Nat} {own own' : Nat → Prop} {a w w' : World} (h : KeptB b own a w) (k : KeptB b own' w w') (ho : ∀ k, k < a.heap.size → own' k → own k) : KeptB b own a w' :=
  ⟨k.os.trans h.os, k.tape.trans h.tape, k.output.trans h.output, Nat.le_trans h.size k.size, fun i hi hb hn => (k.block i (Nat.lt_of_lt_of_le hi h.size) hb (fun e => hn (ho i hi e))).trans (h.block i hi hb hn)⟩
theorem KeptB.ofBelow {b : Nat} {own : Nat → Prop} {w w' : World} (h : Below w.heap.size w w') : KeptB b own w w' := ⟨h.os, h.tape, h.output, h.size, fun k hk _ _ => h.block k hk⟩
theorem KeptB.below {b B : Nat} {own : Nat → Prop} {w w' : World} (h : KeptB b own w w') (hb : B ≤ b) (ho : ∀ k, own k → B ≤ k) (hB : B ≤ w.heap.size) : Below B w w' :=
  ⟨h.os, h.tape, h.output, h.size, fun k hk => h.block k (by omega) (by omega) (fun e => by have := ho k e; omega)⟩
theorem KeptB.setCell {b : Nat} {own : Nat → Prop} {a w : World} (h : KeptB b own a w) (p : Addr) (hp : p.block = b ∨ own p.block ∨ a.heap.size ≤ p.block) (u : Value) : KeptB b own a (w.setCell p u) :=
  ⟨h.os, h.tape, h.output, by simpa [World.setCell] using h.size, fun k hk hb hn => by
    rw [Below.heap_setCell _ _ _ _ (by rintro rfl; rcases hp with e | e | e; exact hb e; exact hn e; omega)]
    exact h.block k hk hb hn⟩
theorem KeptB.grown {b : Nat} {own : Nat → Prop} {a w w' : World} {row : Option Nat} (h : KeptB b own a w) (hg : w.grownBy w' row) (hr : ∀ k, row = some k → k = b ∨ own k ∨ a.heap.size ≤ k) : KeptB b own a w' :=
  ⟨hg.os.trans h.os, hg.tape.trans h.tape, hg.output.trans h.output, Nat.le_trans h.size hg.size, fun k hk hb hn => by
    rw [hg.block k (Nat.lt_of_lt_of_le hk h.size) (fun e => by rcases hr k e.symm with q | q | q; exact hb q; exact hn q; omega)]
    exact h.block k hk hb hn⟩

/-- Block B holds a net, whose letters' slice is v, whose map is block mb; em places were emptied. -/
structure NnV (w : World) (B : Nat) (s : Q.St) (own : Nat → Prop) (n : Nat) (v : Value) (mb em : Nat) : Prop where
  lt : B < w.heap.size
  c0 : w.cell? ⟨B, 0, none⟩ = some (.int .i64 s.most)
  c1 : w.cell? ⟨B, 1, none⟩ = some v
  c2 : w.cell? ⟨B, 2, none⟩ = some (.map (some mb))
  c3 : w.cell? ⟨B, 3, none⟩ = some (.int .i64 (em : Int))
  fz : ∀ j, j < 4 → w.frozen? ⟨B, j, none⟩ = false
  row : RowC w 3 v s.ls.length (ltCells s.ls)
  map : Mp w mb n (fun a b => (Q.cnt s.ls a b : Int))
  mine : ∀ k, cBlk v = some k → own k
  mmine : own mb
  here : ∀ k, own k → k < w.heap.size ∧ k ≠ B
  few : em ≤ n
  len : s.ls.length ≤ n
  ok : Q.Ok s

/-- Block B holds a net; n calls were made of it at most. -/
def Nn (w : World) (B : Nat) (s : Q.St) (own : Nat → Prop) (n : Nat) : Prop := ∃ v mb em, NnV w B s own n v mb em

theorem NnV.carry {w w' : World} {B : Nat} {s : Q.St} {own : Nat → Prop} {n : Nat} {v : Value} {mb em : Nat} (h : NnV w B s own n v mb em) (hs : w.heap.size ≤ w'.heap.size) (hb : w'.heap[B]? = w.heap[B]?) (ho : ∀ k, own k → w'.heap[k]? = w.heap[k]?) : NnV w' B s own n v mb em := by
  have hc : ∀ p, w'.cell? ⟨B, p, none⟩ = w.cell? ⟨B, p, none⟩ := fun p => World.cell?_of_block (a := ⟨B, p, none⟩) hb
  have hf : ∀ p, w'.frozen? ⟨B, p, none⟩ = w.frozen? ⟨B, p, none⟩ := fun p => World.frozen?_of_block (a := ⟨B, p, none⟩) hb
  exact ⟨Nat.lt_of_lt_of_le h.lt hs, by rw [hc]; exact h.c0, by rw [hc]; exact h.c1, by rw [hc]; exact h.c2, by rw [hc]; exact h.c3, fun j hj => by rw [hf]; exact h.fz j hj, h.row.carry (fun k hk => ho k (h.mine k hk)), h.map.carry (ho mb h.mmine), h.mine, h.mmine, fun k hk => ⟨Nat.lt_of_lt_of_le (h.here k hk).1 hs, (h.here k hk).2⟩, h.few, h.len, h.ok⟩
theorem Nn.carry {w w' : World} {B : Nat} {s : Q.St} {own : Nat → Prop} {n : Nat} (h : Nn w B s own n) (hs : w.heap.size ≤ w'.heap.size) (hb : w'.heap[B]? = w.heap[B]?) (ho : ∀ k, own k → w'.heap[k]? = w.heap[k]?) : Nn w' B s own n := by
  obtain ⟨v, mb, em, h⟩ := h
  exact ⟨v, mb, em, h.carry hs hb ho⟩
theorem Nn.lt {w : World} {B : Nat} {s : Q.St} {own : Nat → Prop} {n : Nat} (h : Nn w B s own n) : B < w.heap.size := by obtain ⟨v, mb, em, h⟩ := h; exact h.lt
theorem Nn.len {w : World} {B : Nat} {s : Q.St} {own : Nat → Prop} {n : Nat} (h : Nn w B s own n) : s.ls.length ≤ n := by obtain ⟨v, mb, em, h⟩ := h; exact h.len
theorem Nn.here {w : World} {B : Nat} {s : Q.St} {own : Nat → Prop} {n : Nat} (h : Nn w B s own n) : ∀ k, own k → k < w.heap.size ∧ k ≠ B := by obtain ⟨v, mb, em, h⟩ := h; exact h.here
theorem Nn.ok {w : World} {B : Nat} {s : Q.St} {own : Nat → Prop} {n : Nat} (h : Nn w B s own n) : Q.Ok s := by obtain ⟨v, mb, em, h⟩ := h; exact h.ok
theorem NnV.below {w w' : World} {B : Nat} {s : Q.St} {own : Nat → Prop} {n : Nat} {v : Value} {mb em : Nat} (h : NnV w B s own n v mb em) (hb : Below w.heap.size w w') : NnV w' B s own n v mb em := h.carry hb.size (hb.block B h.lt) (fun k hk => hb.block k (h.here k hk).1)
theorem Nn.below {w w' : World} {B : Nat} {s : Q.St} {own : Nat → Prop} {n : Nat} (h : Nn w B s own n) (hb : Below w.heap.size w w') : Nn w' B s own n := h.carry hb.size (hb.block B h.lt) (fun k hk => hb.block k (h.here k hk).1)
theorem Nn.more {w : World} {B : Nat} {s : Q.St} {own : Nat → Prop} {n m : Nat} (h : Nn w B s own n) (hm : n ≤ m) : Nn w B s own m := by
  obtain ⟨v, mb, em, h⟩ := h
  exact ⟨v, mb, em, h.lt, h.c0, h.c1, h.c2, h.c3, h.fz, h.row, h.map.mono hm, h.mine, h.mmine, h.here, Nat.le_trans h.few hm, Nat.le_trans h.len hm, h.ok⟩
theorem Nn.wider {w : World} {B : Nat} {s : Q.St} {own own' : Nat → Prop} {n : Nat} (h : Nn w B s own n) (ho : ∀ k, own k → own' k) (hh : ∀ k, own' k → k < w.heap.size ∧ k ≠ B) : Nn w B s own' n := by
  obtain ⟨v, mb, em, h⟩ := h
  exact ⟨v, mb, em, h.lt, h.c0, h.c1, h.c2, h.c3, h.fz, h.row, h.map, fun k hk => ho k (h.mine k hk), ho mb h.mmine, hh, h.few, h.len, h.ok⟩
/-- The map is not the letters' row. -/
theorem NnV.apart {w : World} {B : Nat} {s : Q.St} {own : Nat → Prop} {n : Nat} {v : Value} {mb em : Nat} (h : NnV w B s own n v mb em) : cBlk v ≠ some mb := fun e => by
  obtain ⟨_, p, c, hv, _, _, hd⟩ := h.row
  rcases hd with hd | ⟨g, off, hp, hR, _⟩
  · subst hv hd
    cases p <;> simp [cBlk] at e
  · subst hv hp
    cases c with
    | zero => simp [cBlk] at e
    | succ c =>
      simp [cBlk] at e
      subst e
      have := (hR 0 (by omega)).1
      rw [h.map.noCell] at this
      cases this

/-- What a call of a net leaves. -/
def AftQ (own : Nat → Prop) (w w' : World) (B : Nat) (s : Q.St) (n : Nat) : Prop := Nn w' B s (sinceB own w w') n ∧ KeptB B own w w'

theorem AftQ.same {w w' : World} {B : Nat} {s : Q.St} {own : Nat → Prop} {n : Nat} (h : Nn w B s own n) (hb : Below w.heap.size w w') : AftQ own w w' B s n := by
  have hh := h.here
  have hl := h.lt
  refine ⟨(h.below hb).wider (fun k hk => .inl hk) (fun k hk => ?_), KeptB.ofBelow hb⟩
  rcases hk with e | e
  · exact ⟨Nat.lt_of_lt_of_le (hh k e).1 hb.size, (hh k e).2⟩
  · exact ⟨e.2, by omega⟩
theorem AftQ.more {w w' : World} {B : Nat} {s : Q.St} {own : Nat → Prop} {n m : Nat} (h : AftQ own w w' B s n) (hm : n ≤ m) : AftQ own w w' B s m := ⟨h.1.more hm, h.2⟩
/-- A call behind worlds that only grew. -/
theorem AftQ.from {w u w' : World} {B : Nat} {s : Q.St} {own : Nat → Prop} {n : Nat} (hb : Below w.heap.size w u) (hB : B < w.heap.size) (ho : ∀ k, own k → k < w.heap.size ∧ k ≠ B) (h : AftQ own u w' B s n) : AftQ own w w' B s n := by
  have hs := hb.size
  have hs' := h.2.size
  refine ⟨h.1.wider (fun k hk => ?_) (fun k hk => ?_), (KeptB.ofBelow hb).trans h.2 (fun _ _ e => e)⟩
  · rcases hk with e | e
    · exact .inl e
    · exact .inr ⟨by omega, e.2⟩
  · rcases hk with e | e
    · exact ⟨by have := (ho k e).1; omega, (ho k e).2⟩
    · exact ⟨e.2, by omega⟩
theorem AftQ.then {w u w' : World} {B : Nat} {s : Q.St} {own : Nat → Prop} {n : Nat} (hk1 : KeptB B own w u) (hB : B < w.heap.size) (ho : ∀ k, own k → k < w.heap.size ∧ k ≠ B) (h : AftQ (sinceB own w u) u w' B s n) : AftQ own w w' B s n := by
  have hs := hk1.size
  have hs' := h.2.size
  refine ⟨h.1.wider (fun k hk => ?_) (fun k hk => ?_), hk1.trans h.2 (fun k hk e => ?_)⟩
  · rcases hk with (e | e) | e
    · exact .inl e
    · exact .inr ⟨e.1, by omega⟩
    · exact .inr ⟨by omega, e.2⟩
  · rcases hk with e | e
    · exact ⟨by have := (ho k e).1; omega, (ho k e).2⟩
    · exact ⟨e.2, by omega⟩
  · rcases e with e | e
    · exact e
    · omega
/-- Behind it, worlds that only grew. -/
theorem AftQ.on {w u w' : World} {B : Nat} {s : Q.St} {own : Nat → Prop} {n : Nat} (h : AftQ own w u B s n) (hb : Below u.heap.size u w') : AftQ own w w' B s n := by
  have hs := hb.size
  have hs' := h.2.size
  refine ⟨(h.1.below hb).wider (fun k hk => ?_) (fun k hk => ?_), h.2.trans (KeptB.ofBelow hb (own := own)) (fun _ _ e => e)⟩
  · rcases hk with e | e
    · exact .inl e
    · exact .inr ⟨e.1, by omega⟩
  · have hh := h.1.here
    rcases hk with e | e
    · exact ⟨by have := (hh k (.inl e)).1; omega, (hh k (.inl e)).2⟩
    · refine ⟨e.2, fun q => ?_⟩
      by_cases hx : k < u.heap.size
      · exact (hh k (.inr ⟨e.1, hx⟩)).2 q
      · have := h.1.lt
        omega

section
variable {w : World} {B : Nat} {s : Q.St} {own : Nat → Prop} {n : Nat}

/-- A letter as a value. -/
def ltV (l : Q.Lt) : Value := .agg #[.int .i64 l.fr, .int .i64 l.tt, .string l.tx]

theorem isMade_c (h : Nn w B s own n) : Calls Try.prog 39 #[.pointer (some ⟨B, 0, none⟩)] w fun e w' => e = .returned (.bool true) ∧ w' = w := by
  obtain ⟨v, mb, em, h⟩ := h
  have h0 := h.c0
  have hm : (0 : Int) < s.most := by have := h.ok.most; omega
  clear h
  go_enter Try.func39, Try.ntmps39
  go_wp2
  go_ret
  exact ⟨by simp, rfl⟩

theorem isNumber_c (x : Int) (w : World) : Calls Try.prog 63 #[.int .i64 x] w fun e w' => e = .returned (.bool (decide (0 ≤ x) && decide (x ≤ 255))) ∧ w' = w := by
  by_cases h0 : 0 ≤ x
  · go_enter Try.func63, Try.ntmps63
    go_wp2
    go_ret
    exact ⟨by simp [h0], rfl⟩
  · go_enter Try.func63, Try.ntmps63
    go_wp2
    go_ret
    have hx : decide (0 ≤ x) = false := by simp; omega
    exact ⟨by rw [hx]; rfl, rfl⟩

theorem way_c (l : Q.Lt) (w : World) : Calls Try.prog 94 #[.agg #[.int .i64 l.fr, .int .i64 l.tt, .string l.tx]] w fun e w' => e = .returned (.agg #[.int .i64 l.fr, .int .i64 l.tt]) ∧ Below w.heap.size w w' := by
  go_enter Try.func94, Try.ntmps94
  go_wp2
  refine bodyPost_ret (v := .agg #[.int .i64 l.fr, .int .i64 l.tt]) ?qres rfl ?qpost
  case qres => simp [results, Try.results94, go_sem]
  case qpost =>
    refine ⟨rfl, ?_⟩
    have hb : ∀ o o', Below w.heap.size w ((w.alloc o).alloc o') := fun o o' => (below_alloc w o).trans ((below_alloc _ o').mono (by simp))
    exact hb _ _

theorem Len_c (h : Nn w B s own n) : Calls Try.prog 13 #[.pointer (some ⟨B, 0, none⟩)] w fun e w' => e = .returned (.int .i64 (s.ls.length : Int)) ∧ w' = w := by
  have HM : Hid _ := isMade_c h
  obtain ⟨v, mb, em, h⟩ := h
  have h1 := h.c1
  obtain ⟨p, c, hv, _⟩ := h.row.form
  subst hv
  clear h
  go_enter Try.func13, Try.ntmps13
  go_wp2_with fail
  refine Calls.mono HM.out ?_
  rintro e w1 ⟨rfl, hw⟩
  subst hw
  go_wp2
  go_ret
  exact ⟨rfl, rfl⟩

theorem isFull_c (h : Nn w B s own n) (l : Q.Lt) (h1 : In64 l.fr) (h2 : In64 l.tt) : Calls Try.prog 64 #[.pointer (some ⟨B, 0, none⟩), .agg #[.int .i64 l.fr, .int .i64 l.tt, .string l.tx]] w fun e w' => e = .returned (.bool (decide ((Q.cnt s.ls l.fr l.tt : Int) ≥ s.most))) ∧ Below w.heap.size w w' := by
  obtain ⟨v, mb, em, h⟩ := h
  obtain ⟨fr, tt, tx⟩ := l
  dsimp only at h1 h2 ⊢
  obtain ⟨c, hc⟩ : ∃ c : Int, c = (Q.cnt s.ls fr tt : Int) := ⟨_, rfl⟩
  obtain ⟨u, hu⟩ : ∃ u, u = w.alloc (.cells #[.int .i64 fr, .int .i64 tt, .string tx] 78) := ⟨_, rfl⟩
  obtain ⟨bx, hbx⟩ : ∃ bx, bx = w.heap.size := ⟨_, rfl⟩
  have HU : Hid (Below w.heap.size w u) := by rw [hu]; exact below_alloc w _
  have HS : Hid (∀ X, Below u.heap.size u X → X.cell? ⟨B, 0, none⟩ = some (.int .i64 s.most) ∧ X.cell? ⟨B, 2, none⟩ = some (.map (some mb)) ∧ X.cell? ⟨bx, 0, none⟩ = some (.int .i64 fr) ∧ X.cell? ⟨bx, 1, none⟩ = some (.int .i64 tt) ∧ X.cell? ⟨bx, 2, none⟩ = some (.string tx) ∧ (Instr.lookup 72 (.map (some mb)) (.agg #[.int .i64 fr, .int .i64 tt]) false).run Try.prog X = .ok (.int .i64 c) X) := by
    intro X hX
    have hV := (h.below HU.out).below hX
    have hl : bx < u.heap.size := by rw [hu, hbx]; simp
    have hcs : ∀ j, X.cell? ⟨bx, j, none⟩ = (#[.int .i64 fr, .int .i64 tt, .string tx] : Array Value)[j]? := fun j => by
      rw [hX.cell (p := ⟨bx, j, none⟩) hl, hu, hbx]
      exact World.cell?_alloc_mark w _ _ _ j
    exact ⟨hV.c0, hV.c2, hcs 0, hcs 1, hcs 2, by rw [hc]; exact hV.map.look h1 h2⟩
  have hd : Below u.heap.size u u.drew := (Below.refl _ _).drew
  have KW : Hid (∀ X, Below u.heap.size u X → Calls Try.prog 94 #[.agg #[.int .i64 fr, .int .i64 tt, .string tx]] X fun e w' => e = .returned (.agg #[.int .i64 fr, .int .i64 tt]) ∧ Below u.heap.size u w') := by
    intro X hX
    refine (way_c ⟨fr, tt, tx⟩ X).mono ?_
    rintro e w' ⟨rfl, hb⟩
    exact ⟨rfl, hX.trans (hb.mono hX.size)⟩
  rw [← hc]
  clear h h1 h2 hc
  go_enter Try.func64, Try.ntmps64
  go_wp2
  rw [← hu, ← hbx]
  clear hu hbx
  go_region_held (fun X => X.cell? ⟨B, 0, none⟩ = some (.int .i64 s.most) ∧ X.cell? ⟨B, 2, none⟩ = some (.map (some mb)) ∧ X.cell? ⟨bx, 0, none⟩ = some (.int .i64 fr) ∧ X.cell? ⟨bx, 1, none⟩ = some (.int .i64 tt) ∧ X.cell? ⟨bx, 2, none⟩ = some (.string tx) ∧ (Instr.lookup 72 (.map (some mb)) (.agg #[.int .i64 fr, .int .i64 tt]) false).run Try.prog X = .ok (.int .i64 c) X)
    (exact HS.out _ (by assumption))
    (first | (go_at_call 94; refine (KW.out _ ?_).mono ?_; assumption; rintro e w6 ⟨rfl, hg6⟩))
  go_wp2
  go_ret
  exact ⟨rfl, HU.out.trans (hg6.mono HU.out.size)⟩

theorem place_c (h : Nn w B s own n) (hn : n ≤ 1099511627776) (hl : 0 < s.ls.length) (k : Int) : Calls Try.prog 67 #[.pointer (some ⟨B, 0, none⟩), .int .i64 k] w fun e w' => e = .returned (.int .i64 (Q.place k s.ls.length : Int)) ∧ w' = w := by
  obtain ⟨v, mb, em, h⟩ := h
  have h1 := h.c1
  have hln := h.len
  obtain ⟨p, c, hv, _⟩ := h.row.form
  subst hv
  generalize s.ls.length = m at *
  clear h
  have hm0 : ¬ ((m : Int) % 18446744073709551616 = 0) := by omega
  go_enter Try.func67, Try.ntmps67
  go_wp2
  go_ret
  refine ⟨?_, rfl⟩
  have e1 : IntKind.u64.wrap k = k % 18446744073709551616 := by
    have : (2 : Int) ^ 64 = 18446744073709551616 := by decide
    simp [IntKind.wrap, IntKind.bits, IntKind.signed, this]
  have e2 : (k % 18446744073709551616).tmod (m : Int) = (Q.place k m : Int) := by
    have h0 : 0 ≤ k % 18446744073709551616 := Int.emod_nonneg _ (by decide)
    obtain ⟨a, ha⟩ := Int.eq_ofNat_of_zero_le h0
    unfold Q.place
    rw [ha, Int.tmod_eq_emod_of_nonneg (Int.natCast_nonneg a)]
    simp
  have e3 : Q.place k m < m := Q.place_lt k hl
  have e4 : wrap64 (Q.place k m : Int) = (Q.place k m : Int) := IntWalk.wrap64_in _ ⟨by omega, by omega⟩
  show Ending.returned (.int .i64 (wrap64 ((IntKind.u64.wrap k).tmod (m : Int)))) = _
  rw [e1, e2, e4]

end
end Go.Proofs.Ytpopanfefpehnaa
