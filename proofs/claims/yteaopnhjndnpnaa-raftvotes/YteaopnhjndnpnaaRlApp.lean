/-
  A raft log's Append.
-/
import Derived.Test.YteaopnhjndnpnaaRlRead
import Derived.Test.YteaopnhjndnpnaaClone
namespace Go.Proofs.Yteaopnhjndnpnaa
open Go.RowKit

theorem infoEnt : (Try.prog.info? 79).map (fun i => (i.zero, i.size, i.bytes)) = some (some (.agg #[.int .i64 0, .string ⟨#[]⟩]), 2, 24) := by kernel_rfl

theorem cell_set6 {w : World} {B o : Nat} {x : Value} (v : Value) (h : w.cell? ⟨B, o, none⟩ = some x) (p : Nat) : (w.setCell ⟨B, o, none⟩ v).cell? ⟨B, p, none⟩ = if p = o then some v else w.cell? ⟨B, p, none⟩ := by
  by_cases e : p = o
  · subst e; rw [if_pos rfl]; exact World.cell?_setCell_same _ _ _ h
  · rw [if_neg e]; exact World.cell?_setCell_other _ _ _ _ (by intro q; injection q; omega)

theorem size_set6 (w : World) (a : Addr) (v : Value) : (w.setCell a v).heap.size = w.heap.size := by simp [World.setCell]

theorem Aft.from {w u w' : World} {B : Nat} {s : G.L} {own : Nat → Prop} (hb : Below w.heap.size w u) (hB : B < w.heap.size) (hh : ∀ k, own k → k < w.heap.size ∧ k ≠ B) (h : Aft own u w' B s) : Aft own w w' B s := by
  refine ⟨h.1.wider (fun k hk => ?_) (fun k hk => ?_), ?_⟩
  · rcases hk with e | e
    · exact .inl e
    · exact .inr ⟨Nat.le_trans hb.size e.1, e.2⟩
  · rcases hk with e | e
    · exact ⟨Nat.lt_of_lt_of_le (Nat.lt_of_lt_of_le (hh k e).1 hb.size) h.2.size, (hh k e).2⟩
    · exact ⟨e.2, by omega⟩
  · exact (KeptB.ofBelow hb).trans h.2 (fun k hk e => e)

theorem Aft.trans {w u w' : World} {B : Nat} {s s' : G.L} {own : Nat → Prop} (h1 : Aft own w u B s') (hB : B < w.heap.size) (h2 : Aft (sinceB own w u) u w' B s) : Aft own w w' B s := by
  have hh := h1.1.here
  refine ⟨h2.1.wider (fun k hk => ?_) (fun k hk => ?_), ?_⟩
  · rcases hk with (e | e) | e
    · exact .inl e
    · exact .inr ⟨e.1, Nat.lt_of_lt_of_le e.2 h2.2.size⟩
    · exact .inr ⟨Nat.le_trans h1.2.size e.1, e.2⟩
  · rcases hk with e | e
    · have := hh k (.inl e)
      exact ⟨Nat.lt_of_lt_of_le this.1 h2.2.size, this.2⟩
    · exact ⟨e.2, by omega⟩
  · refine h1.2.trans h2.2 (fun k hk e => ?_)
    rcases e with e | e
    · exact e
    · omega

/-- An entry behind the entries: what the store leaves. -/
theorem appGo {X W w1 : World} {B n c m : Nat} {s : G.L} {own : Nat → Prop} {p : Option Addr} {v v' : Value} {x : Int × ByteArray} (h : LgV X B s own v m) (hv : v = .slice p n c) (hn : n = s.ents.length) (he : G.appE s x = 0)
    (hG : Below X.heap.size X W) (ho : RowC w1 2 v' (n + 1) (entCells s.ents ++ [.int .i64 x.1, .string x.2])) (hg : W.grownBy w1 (cBlk (.slice p n c))) (hl : ∀ k, cBlk v' = some k → cBlk (.slice p n c) = some k ∨ W.heap.size ≤ k) :
    Hid (Aft own X (w1.setCell ⟨B, 3, none⟩ v') B (G.app s x)) ∧ w1.cell? ⟨B, 3, none⟩ = some (.slice p n c) ∧ w1.frozen? ⟨B, 3, none⟩ = false ∧ ∃ p' c', v' = .slice p' (n + 1) c' := by
  subst hv
  have hB := h.lt
  have hne : cBlk (.slice p n c) ≠ some B := fun e => (h.here B (h.mine B e)).2 rfl
  have hW1 : w1.heap[B]? = X.heap[B]? := (hg.block B (Nat.lt_of_lt_of_le hB hG.size) (fun e => hne e.symm)).trans (hG.block B hB)
  have hsz : X.heap.size ≤ w1.heap.size := Nat.le_trans hG.size hg.size
  have hc : ∀ q, w1.cell? ⟨B, q, none⟩ = X.cell? ⟨B, q, none⟩ := fun q => World.cell?_of_block (a := ⟨B, q, none⟩) hW1
  have hf : ∀ q, w1.frozen? ⟨B, q, none⟩ = X.frozen? ⟨B, q, none⟩ := fun q => World.frozen?_of_block (a := ⟨B, q, none⟩) hW1
  have k3 : w1.cell? ⟨B, 3, none⟩ = some (.slice p n c) := (hc 3).trans h.c3
  have hs : ∀ q, (w1.setCell ⟨B, 3, none⟩ v').cell? ⟨B, q, none⟩ = if q = 3 then some v' else X.cell? ⟨B, q, none⟩ := fun q => by rw [cell_set6 v' k3, hc]
  have hl2 : ∀ k, cBlk v' = some k → own k ∨ (X.heap.size ≤ k ∧ k < w1.heap.size) := fun k hk => by
    have hlt := ho.lt (by omega) hk
    rcases hl k hk with q | q
    · exact .inl (h.mine k q)
    · exact .inr ⟨Nat.le_trans hG.size q, hlt⟩
  have happ : G.app s x = { s with ents := s.ents ++ [x] } := by unfold G.app; rw [if_pos he]
  obtain ⟨p', c', hv', _⟩ := ho.form
  refine ⟨⟨⟨v', m, ?_⟩, ?_⟩, k3, (hf 3).trans (h.fz 3 (by omega)), p', c', hv'⟩
  · rw [happ]
    refine ⟨by rw [size_set6]; omega, by rw [hs, if_neg (by omega)]; exact h.c0, by rw [hs, if_neg (by omega)]; exact h.c1, by rw [hs, if_neg (by omega)]; exact h.c2, by rw [hs, if_pos rfl], by rw [hs, if_neg (by omega)]; exact h.c4, fun j hj => by rw [World.frozen?_setCell, hf]; exact h.fz j hj, ?_, ?_, ?_, ?_, ?_⟩
    · have : RowC w1 2 v' (s.ents ++ [x]).length (entCells (s.ents ++ [x])) := by
        rw [entCells_snoc, List.length_append, ← hn]
        exact ho
      refine this.carry fun k hk => Below.heap_setCell _ _ _ _ (fun e => ?_)
      rcases hl2 k hk with q | q
      · exact (h.here k q).2 e
      · have e' : k = B := e
        omega
    · intro k hk
      rcases hl2 k hk with q | q
      · exact .inl q
      · exact .inr ⟨q.1, by rw [size_set6]; exact q.2⟩
    · intro k hk
      rcases hk with q | q
      · exact ⟨by rw [size_set6]; exact Nat.lt_of_lt_of_le (h.here k q).1 hsz, (h.here k q).2⟩
      · exact ⟨q.2, by omega⟩
    · show m ≤ (s.ents ++ [x]).length
      rw [List.length_append]
      have := h.few
      omega
    · rw [← happ]
      exact h.ok.app x
  · exact KeptB.setCell (b := B) (KeptB.grown (KeptB.ofBelow hG) hg (fun k hk => .inr (.inl (h.mine k hk)))) ⟨B, 3, none⟩ (.inl rfl) _

section
variable {w : World} {B : Nat} {s : G.L} {own : Nat → Prop}

/-- What an append answers. -/
def AppOut (own : Nat → Prop) (w : World) (B : Nat) (s : G.L) (x : Int × ByteArray) (e : Ending) (w' : World) : Prop :=
  e = .returned (.tuple #[.int .i64 (G.appA s x), .int .i64 (G.appE s x)]) ∧ Aft own w w' B (G.app s x)

theorem AppOut.no (h : Lg w B s own) (x : Int × ByteArray) (c : Int) (hc : G.appE s x = c) (h0 : c ≠ 0) : Hid (∀ u, Below w.heap.size w u → AppOut own w B s x (.returned (.tuple #[.int .i64 0, .int .i64 c])) u) := by
  intro u hu
  unfold AppOut G.appA G.app
  rw [hc, if_neg h0, if_neg h0]
  exact ⟨rfl, Aft.same h hu⟩

theorem Append_arg1 (h : Lg w B s own) (x : Int × ByteArray) (hx : 1099511627776 < x.1) :
    Calls Try.prog 57 #[.pointer (some ⟨B, 0, none⟩), .agg #[.int .i64 x.1, .string x.2]] w (AppOut own w B s x) := by
  have HO := AppOut.no h x 1 (by unfold G.appE; rw [if_pos (.inl hx)]) (by decide)
  generalize AppOut own w B s x = Q at HO ⊢
  have HM : Hid (∀ u, Below w.heap.size w u → Calls Try.prog 49 #[.pointer (some ⟨B, 0, none⟩)] u fun e w' => e = .returned (.bool true) ∧ w' = u) := fun u hu => isMade_c (h.below hu)
  obtain ⟨t, d⟩ := x
  dsimp only at hx ⊢
  have d1 : decide (1099511627776 < t) = true := decide_eq_true hx
  clear h hx
  go_enter Try.func57, Try.ntmps57
  go_wp2_with fail
  refine Calls.mono (HM.out _ (below_alloc _ _)) ?_
  rintro e w1 ⟨rfl, hw⟩
  subst hw
  go_wp2
  exact HO.out _ (below_alloc _ _)

theorem Append_arg2 (h : Lg w B s own) (x : Int × ByteArray) (hx : ¬ 1099511627776 < x.1) (hy : 262144 < x.2.size) :
    Calls Try.prog 57 #[.pointer (some ⟨B, 0, none⟩), .agg #[.int .i64 x.1, .string x.2]] w (AppOut own w B s x) := by
  have HO := AppOut.no h x 1 (by unfold G.appE; rw [if_pos (.inr hy)]) (by decide)
  generalize AppOut own w B s x = Q at HO ⊢
  have HM : Hid (∀ u, Below w.heap.size w u → Calls Try.prog 49 #[.pointer (some ⟨B, 0, none⟩)] u fun e w' => e = .returned (.bool true) ∧ w' = u) := fun u hu => isMade_c (h.below hu)
  obtain ⟨t, d⟩ := x
  dsimp only at hx hy ⊢
  have d1 : decide (1099511627776 < t) = false := decide_eq_false hx
  have d2 : decide ((262144 : Int) < (d.size : Int)) = true := decide_eq_true (by omega)
  clear h hx hy
  go_enter Try.func57, Try.ntmps57
  go_wp2_with fail
  refine Calls.mono (HM.out _ (below_alloc _ _)) ?_
  rintro e w1 ⟨rfl, hw⟩
  subst hw
  go_wp2
  exact HO.out _ (below_alloc _ _)

/-- The test of the term. -/
theorem Append_order (h : Lg w B s own) (x : Int × ByteArray) (hx : ¬ 1099511627776 < x.1) (hy : ¬ 262144 < x.2.size) (hz : x.1 < G.termAt s (G.last s)) :
    Calls Try.prog 57 #[.pointer (some ⟨B, 0, none⟩), .agg #[.int .i64 x.1, .string x.2]] w (AppOut own w B s x) := by
  have HO := AppOut.no h x 50 (by unfold G.appE; rw [if_neg (by omega), if_pos hz]) (by decide)
  generalize AppOut own w B s x = Q at HO ⊢
  have hb := h.ok.base
  obtain ⟨t, d⟩ := x
  dsimp only at hx hy hz ⊢
  obtain ⟨u, hu⟩ : ∃ u, u = w.alloc (.cells #[.int .i64 t, .string d] 79) := ⟨_, rfl⟩
  have HU : Hid (Below w.heap.size w u) := by rw [hu]; exact below_alloc w _
  have hlu : Lg u B s own := h.below HU.out
  have HM : Hid _ := isMade_c hlu
  have HL : Hid (∀ n, Calls Try.prog 32 #[.pointer (some ⟨B, 0, none⟩)] (u.drewN n) fun e w' => e = .returned (.int .i64 (G.last s)) ∧ ∃ m, w' = u.drewN m) := fun n => (Last_c (hlu.drewN n)).mono (by rintro e w' ⟨rfl, hw⟩; exact ⟨rfl, n + 1, hw⟩)
  have HT : Hid (∀ n, Calls Try.prog 73 #[.pointer (some ⟨B, 0, none⟩), .int .i64 (G.last s)] (u.drewN n) fun e w' => e = .returned (.int .i64 (G.termAt s (G.last s))) ∧ ∃ m, w' = u.drewN m) := fun n => (termAt_c (hlu.drewN n) _ ⟨by unfold G.last; omega, Int.le_refl _⟩).mono (by rintro e w' ⟨rfl, m, hw⟩; exact ⟨rfl, n + m, by rw [hw, World.drewN_drewN]⟩)
  generalize G.termAt s (G.last s) = y at HT hz
  generalize G.last s = l at HL HT
  have d1 : decide (1099511627776 < t) = false := decide_eq_false hx
  have d2 : decide ((262144 : Int) < (d.size : Int)) = false := decide_eq_false (by omega)
  obtain ⟨bx, hbx⟩ : ∃ bx, bx = w.heap.size := ⟨_, rfl⟩
  have u0 : u.cell? ⟨bx, 0, none⟩ = some (.int .i64 t) := by rw [hu, hbx]; exact World.cell?_alloc_mark w _ _ _ 0
  have u1 : u.cell? ⟨bx, 1, none⟩ = some (.string d) := by rw [hu, hbx]; exact World.cell?_alloc_mark w _ _ _ 1
  clear h hx hy hb hlu
  go_enter Try.func57, Try.ntmps57
  go_wp2_with fail
  rw [← hu, ← hbx]
  clear hu hbx
  refine Calls.mono HM.out ?_
  rintro e w1 ⟨rfl, hw⟩
  subst hw
  go_wp2
  go_quiet (first | (go_at_call 32; exact HL.out _) | (go_at_call 73; exact HT.out _))
  go_wp2
  exact HO.out _ (HU.out.trans (Below.mono (below_drewN _ _) HU.out.size))

theorem Append_full (h : Lg w B s own) (x : Int × ByteArray) (hx : ¬ 1099511627776 < x.1) (hy : ¬ 262144 < x.2.size) (hz : ¬ x.1 < G.termAt s (G.last s)) (hq : G.last s = 1099511627776) :
    Calls Try.prog 57 #[.pointer (some ⟨B, 0, none⟩), .agg #[.int .i64 x.1, .string x.2]] w (AppOut own w B s x) := by
  have HO := AppOut.no h x 2 (by unfold G.appE; rw [if_neg (by omega), if_neg hz, if_pos hq]) (by decide)
  generalize AppOut own w B s x = Q at HO ⊢
  have hb := h.ok.base
  obtain ⟨t, d⟩ := x
  dsimp only at hx hy hz ⊢
  obtain ⟨u, hu⟩ : ∃ u, u = w.alloc (.cells #[.int .i64 t, .string d] 79) := ⟨_, rfl⟩
  have HU : Hid (Below w.heap.size w u) := by rw [hu]; exact below_alloc w _
  have hlu : Lg u B s own := h.below HU.out
  have HM : Hid _ := isMade_c hlu
  have HL : Hid (∀ n, Calls Try.prog 32 #[.pointer (some ⟨B, 0, none⟩)] (u.drewN n) fun e w' => e = .returned (.int .i64 (G.last s)) ∧ ∃ m, w' = u.drewN m) := fun n => (Last_c (hlu.drewN n)).mono (by rintro e w' ⟨rfl, hw⟩; exact ⟨rfl, n + 1, hw⟩)
  have HT : Hid (∀ n, Calls Try.prog 73 #[.pointer (some ⟨B, 0, none⟩), .int .i64 (G.last s)] (u.drewN n) fun e w' => e = .returned (.int .i64 (G.termAt s (G.last s))) ∧ ∃ m, w' = u.drewN m) := fun n => (termAt_c (hlu.drewN n) _ ⟨by unfold G.last; omega, Int.le_refl _⟩).mono (by rintro e w' ⟨rfl, m, hw⟩; exact ⟨rfl, n + m, by rw [hw, World.drewN_drewN]⟩)
  generalize G.termAt s (G.last s) = y at HT hz
  have t3 : (G.last s == 1099511627776) = true := by simpa using hq
  generalize G.last s = l at HL HT t3
  have d1 : decide (1099511627776 < t) = false := decide_eq_false hx
  have d2 : decide ((262144 : Int) < (d.size : Int)) = false := decide_eq_false (by omega)
  obtain ⟨bx, hbx⟩ : ∃ bx, bx = w.heap.size := ⟨_, rfl⟩
  have u0 : u.cell? ⟨bx, 0, none⟩ = some (.int .i64 t) := by rw [hu, hbx]; exact World.cell?_alloc_mark w _ _ _ 0
  have u1 : u.cell? ⟨bx, 1, none⟩ = some (.string d) := by rw [hu, hbx]; exact World.cell?_alloc_mark w _ _ _ 1
  clear h hx hy hb hlu hq
  go_enter Try.func57, Try.ntmps57
  go_wp2_with fail
  rw [← hu, ← hbx]
  clear hu hbx
  refine Calls.mono HM.out ?_
  rintro e w1 ⟨rfl, hw⟩
  subst hw
  go_wp2
  go_quiet (first | (go_at_call 32; exact HL.out _) | (go_at_call 73; exact HT.out _))
  go_wp2_with fail
  refine Calls.mono (HL.out _) ?_
  rintro e w2 ⟨rfl, m, hw⟩
  subst hw
  go_wp2
  exact HO.out _ (HU.out.trans (Below.mono (below_drewN _ _) HU.out.size))

set_option maxHeartbeats 800000 in
theorem Append_yes (h : Lg w B s own) (x : Int × ByteArray) (hx : ¬ 1099511627776 < x.1) (hy : ¬ 262144 < x.2.size) (hz : ¬ x.1 < G.termAt s (G.last s)) (hq : ¬ G.last s = 1099511627776) :
    Calls Try.prog 57 #[.pointer (some ⟨B, 0, none⟩), .agg #[.int .i64 x.1, .string x.2]] w (AppOut own w B s x) := by
  have hb := h.ok.base
  obtain ⟨t, d⟩ := x
  dsimp only at hx hy hz ⊢
  obtain ⟨u, hu⟩ : ∃ u, u = w.alloc (.cells #[.int .i64 t, .string d] 79) := ⟨_, rfl⟩
  have HU : Hid (Below w.heap.size w u) := by rw [hu]; exact below_alloc w _
  have hlu : Lg u B s own := h.below HU.out
  have HM : Hid _ := isMade_c hlu
  have HL : Hid (∀ n, Calls Try.prog 32 #[.pointer (some ⟨B, 0, none⟩)] (u.drewN n) fun e w' => e = .returned (.int .i64 (G.last s)) ∧ ∃ m, w' = u.drewN m) := fun n => (Last_c (hlu.drewN n)).mono (by rintro e w' ⟨rfl, hw⟩; exact ⟨rfl, n + 1, hw⟩)
  have HT : Hid (∀ n, Calls Try.prog 73 #[.pointer (some ⟨B, 0, none⟩), .int .i64 (G.last s)] (u.drewN n) fun e w' => e = .returned (.int .i64 (G.termAt s (G.last s))) ∧ ∃ m, w' = u.drewN m) := fun n => (termAt_c (hlu.drewN n) _ ⟨by unfold G.last; omega, Int.le_refl _⟩).mono (by rintro e w' ⟨rfl, m, hw⟩; exact ⟨rfl, n + m, by rw [hw, World.drewN_drewN]⟩)
  have HCl : Hid _ := fun u => Clone_any d u (by omega)
  have d1 : decide (1099511627776 < t) = false := decide_eq_false hx
  have d2 : decide ((262144 : Int) < (d.size : Int)) = false := decide_eq_false (by omega)
  have t3 : (G.last s == 1099511627776) = false := by simpa using hq
  obtain ⟨y, hyy⟩ : ∃ y, y = G.termAt s (G.last s) := ⟨_, rfl⟩
  obtain ⟨l, hll⟩ : ∃ l, l = G.last s := ⟨_, rfl⟩
  rw [← hyy] at HT hz
  rw [← hll] at HL HT t3
  obtain ⟨bx, hbx⟩ : ∃ bx, bx = w.heap.size := ⟨_, rfl⟩
  have u0 : u.cell? ⟨bx, 0, none⟩ = some (.int .i64 t) := by rw [hu, hbx]; exact World.cell?_alloc_mark w _ _ _ 0
  have u1 : u.cell? ⟨bx, 1, none⟩ = some (.string d) := by rw [hu, hbx]; exact World.cell?_alloc_mark w _ _ _ 1
  have f1 : u.frozen? ⟨bx, 1, none⟩ = false := by rw [hu, hbx, World.frozen?_alloc_mark]; simp
  have hbu : bx < u.heap.size := World.block_lt_of_cell? _ _ u0
  have HX : Hid (G.appE s (t, d) = 0) := by unfold G.appE; rw [if_neg (by show ¬ _; dsimp only; omega), if_neg (by rw [← hyy]; exact hz), if_neg hq]; rfl
  have HH : Hid (Lg w B s own) := h
  have HO : Hid (∀ u, Aft own w u B (G.app s (t, d)) → AppOut own w B s (t, d) (.returned (.tuple #[.int .i64 (G.last (G.app s (t, d))), .int .i64 0])) u) := by
    intro u hu
    refine ⟨?_, hu⟩
    unfold G.appA G.app G.last
    rw [if_pos HX.out, if_pos HX.out, HX.out]
    simp [Int.add_assoc]
  generalize AppOut own w B s (t, d) = Q at HO ⊢
  have HBX : Hid (bx = w.heap.size) := hbx
  clear h hx hy hb hlu hq hyy hll
  go_enter Try.func57, Try.ntmps57
  go_wp2_with fail
  rw [← hu, ← hbx]
  clear hu hbx
  refine Calls.mono HM.out ?_
  rintro e w1 ⟨rfl, hw⟩
  subst hw
  go_wp2
  go_quiet (first | (go_at_call 32; exact HL.out _) | (go_at_call 73; exact HT.out _))
  go_wp2_with fail
  refine Calls.mono (HL.out _) ?_
  rintro e w2 ⟨rfl, m, hw⟩
  subst hw
  go_wp2_with fail
  refine Calls.mono (HCl.out _) ?_
  rintro e w3 ⟨rfl, hb3⟩
  have y0 : w3.cell? ⟨bx, 0, none⟩ = some (.int .i64 t) := (hb3.cell (p := ⟨bx, 0, none⟩) hbu).trans u0
  have y1 : w3.cell? ⟨bx, 1, none⟩ = some (.string d) := (hb3.cell (p := ⟨bx, 1, none⟩) hbu).trans u1
  have yf : w3.frozen? ⟨bx, 1, none⟩ = false := (hb3.frozen (p := ⟨bx, 1, none⟩) hbu).trans f1
  have HB3 : Hid (Below w.heap.size w w3) := (HU.out.trans (Below.mono (below_drewN _ m) HU.out.size)).trans (hb3.mono HU.out.size)
  obtain ⟨X, hX⟩ : ∃ X, X = w3.setCell ⟨bx, 1, none⟩ (.string d) := ⟨_, rfl⟩
  have HBX3 : Hid (Below w.heap.size w X) := by rw [hX]; exact HB3.out.setCell (p := ⟨bx, 1, none⟩) (by show _ ≤ bx; rw [HBX.out]; exact Nat.le_refl _) _
  obtain ⟨v, m0, hv0⟩ := HH.out.below HBX3.out
  obtain ⟨p, c, hvf, _, _⟩ := hv0.row.form
  obtain ⟨n, hn⟩ : ∃ n, n = s.ents.length := ⟨_, rfl⟩
  rw [← hn] at hvf
  have h3 := hv0.c3
  rw [hvf] at h3
  have z0 : X.cell? ⟨bx, 0, none⟩ = some (.int .i64 t) := by rw [hX, cell_set6 _ y1, if_neg (by omega)]; exact y0
  have z1 : X.cell? ⟨bx, 1, none⟩ = some (.string d) := by rw [hX, cell_set6 _ y1, if_pos rfl]
  have HLV : Hid (LgV X B s own v m0) := hv0
  have HVF : Hid (v = .slice p n c) := hvf
  have HNN : Hid (n = s.ents.length) := hn
  have hlen := hv0.ok.len
  rw [← hn] at hlen
  have hL1 : Hid ((n + 1) * 24 ≤ 140737488355328) := by show _ ≤ _; omega
  have hL2 : Hid (n + 1 ≤ maxLen) := by unfold maxLen; show _ ≤ _; omega
  obtain ⟨W, hW⟩ : ∃ W, W = (X.alloc (.cells #[.int .i64 t, .string d] 79)).drew := ⟨_, rfl⟩
  have HG : Hid (Below X.heap.size X W) := by rw [hW]; exact (below_alloc X _).drew
  have HR : Hid (RowC W 2 (.slice p n c) n (entCells s.ents)) := by
    have := hv0.row.carry (w' := W) (fun k hk => HG.out.block k (hv0.here k (hv0.mine k hk)).1)
    rw [hvf, ← hn] at this
    exact this
  have HSrc : Hid (Src Try.prog 2 28 (.slice (some ⟨X.heap.size, 0, none⟩) 1 1) 1 [.int .i64 t, .string d] W) := by
    refine Src.ofSlice W Try.underlying28 _ _ _ _ rfl (fun j u hu => ?_) (fun u hu => by simp at hu; rcases hu with rfl | rfl <;> rfl)
    rw [Addr.add_lit, Nat.zero_add, hW]
    show (X.alloc _).cell? _ = _
    rw [World.cell?_alloc_mark]
    simpa using hu
  subst hW
  have hbX : bx < X.heap.size := World.block_lt_of_cell? _ _ z0
  have hBX : B < X.heap.size := hv0.lt
  clear hb3 u0 u1 f1 hvf hv0 hn hlen
  go_wp2
  rw [← hX]
  clear hX y0 y1 yf
  go_region_law (refine step_append_rowC rfl (.tmp 38) (.tmp 40) 28 28 79 rfl Try.underlying28 _ 2 24 infoEnt rfl (.slice p n c) n (entCells s.ents) (by simp [Act.eval]) HR.out _ 1 _ (by simp [Act.eval]) HSrc.out hL1.out hL2.out ?_; intro v' w4 ho hg hl; obtain ⟨H1, c1, g1, ⟨p', c', hv'⟩⟩ := appGo (x := (t, d)) HLV.out HVF.out HNN.out HX.out HG.out ho hg hl; subst hv'; clear ho hg hl)
  all_goals
    have HA : Hid (Aft own w (w4.setCell ⟨B, 3, none⟩ (.slice p' (n + 1) c')) B (G.app s (t, d))) := Aft.from HBX3.out HH.out.lt HH.out.here H1.out
    have HLast : Hid _ := Last_c HA.out.1
    generalize G.app s (t, d) = s' at HO H1 HA HLast
    clear H1
    go_wp2_with fail
    refine Calls.mono HLast.out ?_
    rintro e w5 ⟨rfl, hw⟩
    subst hw
    go_wp2
    refine HO.out _ ?_
    exact ⟨HA.out.1.below (below_drewN _ 1), HA.out.2.os, HA.out.2.tape, HA.out.2.output, HA.out.2.size, HA.out.2.block⟩

/-- Append, in all ways. -/
theorem Append_c (h : Lg w B s own) (x : Int × ByteArray) :
    Calls Try.prog 57 #[.pointer (some ⟨B, 0, none⟩), .agg #[.int .i64 x.1, .string x.2]] w (AppOut own w B s x) := by
  by_cases hx : 1099511627776 < x.1
  · exact Append_arg1 h x hx
  · by_cases hy : 262144 < x.2.size
    · exact Append_arg2 h x hx hy
    · by_cases hz : x.1 < G.termAt s (G.last s)
      · exact Append_order h x hx hy hz
      · by_cases hq : G.last s = 1099511627776
        · exact Append_full h x hx hy hz hq
        · exact Append_yes h x hx hy hz hq

end
end Go.Proofs.Yteaopnhjndnpnaa
