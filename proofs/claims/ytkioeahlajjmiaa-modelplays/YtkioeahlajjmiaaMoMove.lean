/-
  A channel is moved.
-/
import Derived.Test.YtkioeahlajjmiaaMoRd
namespace Go.Proofs.Ytkioeahlajjmiaa
open Go.RowKit

section
variable {w W W' : World} {B : Nat} {s : Mo.St} {who : Nat → Nat} {n bc bo : Nat} {f : ByteArray → ByteArray → Option Nat} {cs : Nat → Mo.Ch}

/-- The map of channels is another one. -/
theorem MdV.remap (h : MdV W B s who n bc bo f cs) {f' : ByteArray → ByteArray → Option Nat} {n' : Nat} (hn : n ≤ n') (hg : W.grownBy W' (some bc)) (hM : Mc W' bc n' f') (hone : ∀ x y k, f' x y = some k → ChW W who k (cs k) n) (hinj : ∀ x y x' y' k, f' x y = some k → f' x' y' = some k → x = x' ∧ y = y') (hdom : ∀ x y k, f' x y = some k → Ok x ∧ Ok y) :
    MdV W' B ⟨fun a b => (f' a b).map cs, s.off⟩ who n' bc bo f' cs := by
  have hbl : ∀ i, who i ≠ 0 → who i ≠ 2 → W'.heap[i]? = W.heap[i]? := fun i h0 h2 => hg.block i (h.here i h0) (fun e => by injection e with e; exact h2 (by rw [e]; exact h.wc))
  have hB := hbl B (by rw [h.wB]; decide) (by rw [h.wB]; decide)
  refine ⟨(World.cell?_of_block (a := ⟨B, 0, none⟩) hB).trans h.c0, (World.cell?_of_block (a := ⟨B, 1, none⟩) hB).trans h.c1, hM, (h.off.mono hn).carry (hbl bo (by rw [h.wo]; decide) (by rw [h.wo]; decide)), fun _ _ => rfl, fun x y k hk => ?_, hinj, hdom, h.wB, h.wc, h.wo, fun k hk => Nat.lt_of_lt_of_le (h.here k hk) hg.size⟩
  obtain ⟨bm, v, q1, q2, q3, q4⟩ := hone x y k hk
  exact ⟨bm, v, (q1.mono hn).carry (hbl k (by rw [q2]; decide) (by rw [q2]; decide)) (hbl bm (by rw [q3]; omega) (by rw [q3]; omega)) (fun g hg' => hbl g (by rw [q4 g hg']; omega) (by rw [q4 g hg']; omega)), q2, q3, q4⟩

/-- A channel loses its name. -/
theorem MdV.unname (h : MdV W B s who n bc bo f cs) {x y : ByteArray} (hx : Ok x) (hy : Ok y) (ty : TypeId) :
    ∃ w3, (Builtin.delete_ #[60, 78] ty #[.map (some bc), .agg #[.string x, .string y]]).run Try.prog W = .ok (.tuple #[]) w3 ∧ W.grownBy w3 (some bc) ∧ MdV w3 B ⟨fun a b => (setNm f x y none a b).map cs, s.off⟩ who n bc bo (setNm f x y none) cs := by
  obtain ⟨w3, hr, ht, hM⟩ := h.chs.del hx hy ty
  have old : ∀ a b k, setNm f x y none a b = some k → f a b = some k := fun a b k e => by
    unfold setNm at e
    split at e
    · cases e
    · exact e
  exact ⟨w3, hr, ht.grown, h.remap (Nat.le_refl _) ht.grown hM (fun a b k e => h.one a b k (old a b k e)) (fun a b a' b' k e e' => h.inj a b a' b' k (old a b k e) (old a' b' k e')) (fun a b k e => h.dom a b k (old a b k e))⟩

/-- It gets another one. -/
theorem MdV.rename (h : MdV W B s who n bc bo f cs) (hn : n < maxLen) {x y : ByteArray} (hx : Ok x) (hy : Ok y) {k : Nat} (hk : ChW W who k (cs k) n) (hno : ∀ a b, f a b ≠ some k) :
    ∃ w3, (Instr.mapUpdate 60 (.map (some bc)) (.agg #[.string x, .string y]) (.pointer (some ⟨k, 0, none⟩))).run Try.prog W = .ok () w3 ∧ W.grownBy w3 (some bc) ∧ MdV w3 B ⟨fun a b => (setNm f x y (some k) a b).map cs, s.off⟩ who (n + 1) bc bo (setNm f x y (some k)) cs := by
  obtain ⟨w3, hr, ht, hM⟩ := h.chs.put hn hx hy k
  have old : ∀ a b i, setNm f x y (some k) a b = some i → (a = x ∧ b = y ∧ i = k) ∨ f a b = some i := fun a b i e => by
    unfold setNm at e
    split at e
    · rename_i q
      injection e with e
      exact .inl ⟨q.1, q.2, e.symm⟩
    · exact .inr e
  refine ⟨w3, hr, ht.grown, h.remap (Nat.le_succ _) ht.grown hM (fun a b i e => ?_) (fun a b a' b' i e e' => ?_) (fun a b i e => ?_)⟩
  · rcases old a b i e with ⟨_, _, rfl⟩ | q
    · exact hk
    · exact h.one a b i q
  · rcases old a b i e with ⟨e1, e2, e3⟩ | q
    · rcases old a' b' i e' with ⟨d1, d2, _⟩ | q'
      · exact ⟨by rw [e1, d1], by rw [e2, d2]⟩
      · exact absurd (by rw [← e3]; exact q') (hno a' b')
    · rcases old a' b' i e' with ⟨_, _, d3⟩ | q'
      · exact absurd (by rw [← d3]; exact q) (hno a b)
      · exact h.inj a b a' b' i q q'
  · rcases old a b i e with ⟨e1, e2, _⟩ | q
    · rw [e1, e2]
      exact ⟨hx, hy⟩
    · exact h.dom a b i q

set_option maxHeartbeats 1600000 in
set_option maxRecDepth 20000 in
theorem move_none (h : MdV w B s who n bc bo f cs) (o : Mo.Op) (ho : OpOk o) (hf : f o.space o.channel = none) :
    Calls Try.prog 30 #[.pointer (some ⟨B, 0, none⟩), .agg #[.int .i64 o.kind, .string o.space, .string o.channel, .string o.user, .string o.text, .string o.toSpace, .string o.to, .int .i64 o.frm, .int .i64 o.most]] w fun e w' => e = .returned (.int .i64 3) ∧ Below w.heap.size w w' := by
  obtain ⟨u, hu⟩ : ∃ u, u = w.alloc (.cells #[.int .i64 o.kind, .string o.space, .string o.channel, .string o.user, .string o.text, .string o.toSpace, .string o.to, .int .i64 o.frm, .int .i64 o.most] 32) := ⟨_, rfl⟩
  have hbu : Below w.heap.size w u := by rw [hu]; exact below_alloc w _
  have hV := h.below hbu
  have hlx : w.heap.size < u.heap.size := by rw [hu]; simp
  have hcu : ∀ j, u.cell? ⟨w.heap.size, j, none⟩ = (#[.int .i64 o.kind, .string o.space, .string o.channel, .string o.user, .string o.text, .string o.toSpace, .string o.to, .int .i64 o.frm, .int .i64 o.most] : Array Value)[j]? := fun j => by rw [hu]; exact World.cell?_alloc_mark w _ _ _ j
  have HBx : Hid (∀ X, Below u.heap.size u X → X.cell? ⟨w.heap.size, 1, none⟩ = some (.string o.space) ∧ X.cell? ⟨w.heap.size, 2, none⟩ = some (.string o.channel) ∧ X.cell? ⟨w.heap.size, 3, none⟩ = some (.string o.user) ∧ X.cell? ⟨w.heap.size, 4, none⟩ = some (.string o.text) ∧ X.cell? ⟨w.heap.size, 5, none⟩ = some (.string o.toSpace) ∧ X.cell? ⟨w.heap.size, 6, none⟩ = some (.string o.to) ∧ X.cell? ⟨w.heap.size, 7, none⟩ = some (.int .i64 o.frm) ∧ X.cell? ⟨w.heap.size, 8, none⟩ = some (.int .i64 o.most)) := fun X hX => by
    have e : ∀ j, X.cell? ⟨w.heap.size, j, none⟩ = (#[.int .i64 o.kind, .string o.space, .string o.channel, .string o.user, .string o.text, .string o.toSpace, .string o.to, .int .i64 o.frm, .int .i64 o.most] : Array Value)[j]? := fun j => (hX.cell (p := ⟨w.heap.size, j, none⟩) hlx).trans (hcu j)
    exact ⟨e 1, e 2, e 3, e 4, e 5, e 6, e 7, e 8⟩
  have HB : Hid (Below w.heap.size w u) := hbu
  have HFi : Hid _ := find_none hV ho.1 ho.2.1 hf
  obtain ⟨u1, u2, u3, u4, u5, u6, u7, u8⟩ := HBx.out u (Below.refl _ _)
  clear h hV ho hf hlx hcu hbu
  go_enter Try.func30, Try.ntmps30
  go_wp2_with fail
  rw [← hu]
  refine Calls.mono HFi.out ?_
  rintro e w1 ⟨rfl, hw1⟩
  have hw1 := hw1.symm
  subst hw1
  clear hu
  go_wp2
  go_ret
  exact ⟨rfl, HB.out⟩

set_option maxHeartbeats 1600000 in
set_option maxRecDepth 20000 in
theorem move_there (h : MdV w B s who n bc bo f cs) (o : Mo.Op) (ho : OpOk o) {k j : Nat} (hf : f o.space o.channel = some k) (ht : f o.toSpace o.to = some j) :
    Calls Try.prog 30 #[.pointer (some ⟨B, 0, none⟩), .agg #[.int .i64 o.kind, .string o.space, .string o.channel, .string o.user, .string o.text, .string o.toSpace, .string o.to, .int .i64 o.frm, .int .i64 o.most]] w fun e w' => e = .returned (.int .i64 90) ∧ Below w.heap.size w w' := by
  obtain ⟨u, hu⟩ : ∃ u, u = w.alloc (.cells #[.int .i64 o.kind, .string o.space, .string o.channel, .string o.user, .string o.text, .string o.toSpace, .string o.to, .int .i64 o.frm, .int .i64 o.most] 32) := ⟨_, rfl⟩
  have hbu : Below w.heap.size w u := by rw [hu]; exact below_alloc w _
  have hV := h.below hbu
  have hlx : w.heap.size < u.heap.size := by rw [hu]; simp
  have hcu : ∀ j, u.cell? ⟨w.heap.size, j, none⟩ = (#[.int .i64 o.kind, .string o.space, .string o.channel, .string o.user, .string o.text, .string o.toSpace, .string o.to, .int .i64 o.frm, .int .i64 o.most] : Array Value)[j]? := fun j => by rw [hu]; exact World.cell?_alloc_mark w _ _ _ j
  have HBx : Hid (∀ X, Below u.heap.size u X → X.cell? ⟨w.heap.size, 1, none⟩ = some (.string o.space) ∧ X.cell? ⟨w.heap.size, 2, none⟩ = some (.string o.channel) ∧ X.cell? ⟨w.heap.size, 3, none⟩ = some (.string o.user) ∧ X.cell? ⟨w.heap.size, 4, none⟩ = some (.string o.text) ∧ X.cell? ⟨w.heap.size, 5, none⟩ = some (.string o.toSpace) ∧ X.cell? ⟨w.heap.size, 6, none⟩ = some (.string o.to) ∧ X.cell? ⟨w.heap.size, 7, none⟩ = some (.int .i64 o.frm) ∧ X.cell? ⟨w.heap.size, 8, none⟩ = some (.int .i64 o.most)) := fun X hX => by
    have e : ∀ j, X.cell? ⟨w.heap.size, j, none⟩ = (#[.int .i64 o.kind, .string o.space, .string o.channel, .string o.user, .string o.text, .string o.toSpace, .string o.to, .int .i64 o.frm, .int .i64 o.most] : Array Value)[j]? := fun j => (hX.cell (p := ⟨w.heap.size, j, none⟩) hlx).trans (hcu j)
    exact ⟨e 1, e 2, e 3, e 4, e 5, e 6, e 7, e 8⟩
  have HB : Hid (Below w.heap.size w u) := hbu
  have HFi : Hid _ := find_some hV ho.1 ho.2.1 hf
  have HHa : Hid _ := has_c hV ho.2.2.2.2.1 ho.2.2.2.2.2
  rw [ht] at HHa
  obtain ⟨u1, u2, u3, u4, u5, u6, u7, u8⟩ := HBx.out u (Below.refl _ _)
  clear h hV ho hf ht hlx hcu hbu
  go_enter Try.func30, Try.ntmps30
  go_wp2_with fail
  rw [← hu]
  refine Calls.mono HFi.out ?_
  rintro e w1 ⟨rfl, hw1⟩
  have hw1 := hw1.symm
  subst hw1
  clear hu
  go_wp2_with fail
  refine Calls.mono HHa.out ?_
  rintro e w2 ⟨rfl, hw2⟩
  have hw2 := hw2.symm
  subst hw2
  go_wp2
  go_ret
  exact ⟨rfl, HB.out⟩

set_option maxHeartbeats 1600000 in
set_option maxRecDepth 20000 in
theorem move_yes (h : MdV w B s who n bc bo f cs) (o : Mo.Op) (ho : OpOk o) {k : Nat} (hn : n < 1099511627776) (hz1 : o.toSpace.size ≤ 16) (hz2 : o.to.size ≤ 16) (hf : f o.space o.channel = some k) (ht : f o.toSpace o.to = none) :
    Calls Try.prog 30 #[.pointer (some ⟨B, 0, none⟩), .agg #[.int .i64 o.kind, .string o.space, .string o.channel, .string o.user, .string o.text, .string o.toSpace, .string o.to, .int .i64 o.frm, .int .i64 o.most]] w fun e w' => e = .returned (.int .i64 0) ∧ AftM who w w' B (Mo.setC (Mo.setC s o.space o.channel none) o.toSpace o.to (some (cs k))) (n + 1) who := by
  obtain ⟨u, hu⟩ : ∃ u, u = w.alloc (.cells #[.int .i64 o.kind, .string o.space, .string o.channel, .string o.user, .string o.text, .string o.toSpace, .string o.to, .int .i64 o.frm, .int .i64 o.most] 32) := ⟨_, rfl⟩
  have hbu : Below w.heap.size w u := by rw [hu]; exact below_alloc w _
  have hV := h.below hbu
  have hlx : w.heap.size < u.heap.size := by rw [hu]; simp
  have hcu : ∀ j, u.cell? ⟨w.heap.size, j, none⟩ = (#[.int .i64 o.kind, .string o.space, .string o.channel, .string o.user, .string o.text, .string o.toSpace, .string o.to, .int .i64 o.frm, .int .i64 o.most] : Array Value)[j]? := fun j => by rw [hu]; exact World.cell?_alloc_mark w _ _ _ j
  have HBx : Hid (∀ X, Below u.heap.size u X → X.cell? ⟨w.heap.size, 1, none⟩ = some (.string o.space) ∧ X.cell? ⟨w.heap.size, 2, none⟩ = some (.string o.channel) ∧ X.cell? ⟨w.heap.size, 3, none⟩ = some (.string o.user) ∧ X.cell? ⟨w.heap.size, 4, none⟩ = some (.string o.text) ∧ X.cell? ⟨w.heap.size, 5, none⟩ = some (.string o.toSpace) ∧ X.cell? ⟨w.heap.size, 6, none⟩ = some (.string o.to) ∧ X.cell? ⟨w.heap.size, 7, none⟩ = some (.int .i64 o.frm) ∧ X.cell? ⟨w.heap.size, 8, none⟩ = some (.int .i64 o.most)) := fun X hX => by
    have e : ∀ j, X.cell? ⟨w.heap.size, j, none⟩ = (#[.int .i64 o.kind, .string o.space, .string o.channel, .string o.user, .string o.text, .string o.toSpace, .string o.to, .int .i64 o.frm, .int .i64 o.most] : Array Value)[j]? := fun j => (hX.cell (p := ⟨w.heap.size, j, none⟩) hlx).trans (hcu j)
    exact ⟨e 1, e 2, e 3, e 4, e 5, e 6, e 7, e 8⟩
  have HB : Hid (Below w.heap.size w u) := hbu
  have HFi : Hid _ := find_some hV ho.1 ho.2.1 hf
  have HHa : Hid _ := has_c hV ho.2.2.2.2.1 ho.2.2.2.2.2
  rw [ht] at HHa
  have hBl : B < u.heap.size := hV.here B (by rw [h.wB]; decide)
  have hBc : B ≠ bc := fun e => by have := h.wc; rw [← e, h.wB] at this; cases this
  have hbc : bc < w.heap.size := h.here bc (by rw [h.wc]; decide)
  have HS : Hid (∀ X, Below u.heap.size u X → X.cell? ⟨B, 0, none⟩ = some (.map (some bc)) ∧ X.cell? ⟨w.heap.size, 1, none⟩ = some (.string o.space) ∧ X.cell? ⟨w.heap.size, 2, none⟩ = some (.string o.channel) ∧ X.cell? ⟨w.heap.size, 5, none⟩ = some (.string o.toSpace) ∧ X.cell? ⟨w.heap.size, 6, none⟩ = some (.string o.to)) := fun X hX => by
    obtain ⟨a1, a2, _, _, a5, a6, _, _⟩ := HBx.out X hX
    exact ⟨(hX.cell (p := ⟨B, 0, none⟩) hBl).trans hV.c0, a1, a2, a5, a6⟩
  have HS3 : Hid (∀ X Y : World, u.heap.size ≤ X.heap.size → X.cell? ⟨B, 0, none⟩ = some (.map (some bc)) ∧ X.cell? ⟨w.heap.size, 1, none⟩ = some (.string o.space) ∧ X.cell? ⟨w.heap.size, 2, none⟩ = some (.string o.channel) ∧ X.cell? ⟨w.heap.size, 5, none⟩ = some (.string o.toSpace) ∧ X.cell? ⟨w.heap.size, 6, none⟩ = some (.string o.to) → X.grownBy Y (some bc) → Y.cell? ⟨B, 0, none⟩ = some (.map (some bc)) ∧ Y.cell? ⟨w.heap.size, 1, none⟩ = some (.string o.space) ∧ Y.cell? ⟨w.heap.size, 2, none⟩ = some (.string o.channel) ∧ Y.cell? ⟨w.heap.size, 5, none⟩ = some (.string o.toSpace) ∧ Y.cell? ⟨w.heap.size, 6, none⟩ = some (.string o.to)) := fun X Y hX a hY => by
    have ex : ∀ j, Y.cell? ⟨w.heap.size, j, none⟩ = X.cell? ⟨w.heap.size, j, none⟩ := fun j => World.cell?_of_block (a := ⟨w.heap.size, j, none⟩) (hY.block w.heap.size (by omega) (fun e => by injection e with e; omega))
    exact ⟨(World.cell?_of_block (a := ⟨B, 0, none⟩) (hY.block B (by omega) (fun e => hBc (by injection e)))).trans a.1, (ex 1).trans a.2.1, (ex 2).trans a.2.2.1, (ex 5).trans a.2.2.2.1, (ex 6).trans a.2.2.2.2⟩
  have HS4 : Hid (∀ X Y : World, u.heap.size ≤ X.heap.size → X.cell? ⟨B, 0, none⟩ = some (.map (some bc)) ∧ X.cell? ⟨w.heap.size, 1, none⟩ = some (.string o.space) ∧ X.cell? ⟨w.heap.size, 2, none⟩ = some (.string o.channel) ∧ X.cell? ⟨w.heap.size, 5, none⟩ = some (.string o.toSpace) ∧ X.cell? ⟨w.heap.size, 6, none⟩ = some (.string o.to) → Below X.heap.size X Y → Y.cell? ⟨B, 0, none⟩ = some (.map (some bc)) ∧ Y.cell? ⟨w.heap.size, 1, none⟩ = some (.string o.space) ∧ Y.cell? ⟨w.heap.size, 2, none⟩ = some (.string o.channel) ∧ Y.cell? ⟨w.heap.size, 5, none⟩ = some (.string o.toSpace) ∧ Y.cell? ⟨w.heap.size, 6, none⟩ = some (.string o.to)) := fun X Y hX a hY => by
    have ex : ∀ j, Y.cell? ⟨w.heap.size, j, none⟩ = X.cell? ⟨w.heap.size, j, none⟩ := fun j => hY.cell (p := ⟨w.heap.size, j, none⟩) (show w.heap.size < X.heap.size by omega)
    exact ⟨(hY.cell (p := ⟨B, 0, none⟩) (show B < X.heap.size by omega)).trans a.1, (ex 1).trans a.2.1, (ex 2).trans a.2.2.1, (ex 5).trans a.2.2.2.1, (ex 6).trans a.2.2.2.2⟩
  have HDel : Hid (∀ X ty, Below u.heap.size u X → ∃ w3, (Builtin.delete_ #[60, 78] ty #[.map (some bc), .agg #[.string o.space, .string o.channel]]).run Try.prog X = .ok (.tuple #[]) w3 ∧ X.grownBy w3 (some bc) ∧ Hid (MdV w3 B ⟨fun a b => (setNm f o.space o.channel none a b).map cs, s.off⟩ who n bc bo (setNm f o.space o.channel none) cs ∧ KeptW who w w3 ∧ ChW w3 who k (cs k) n)) := fun X ty hX => by
    obtain ⟨w3, q1, q2, q3⟩ := (hV.below hX).unname ho.1 ho.2.1 ty
    have hVX := hV.below hX
    refine ⟨w3, q1, q2, q3, ((KeptW.ofBelow (hbu.trans (hX.mono hbu.size)))).grown q2 (fun i hi _ => by injection hi with hi; rw [← hi, h.wc]; decide), ?_⟩
    exact (hVX.one _ _ k hf).carry (fun i hi => q2.block i (hVX.here i (by omega)) (fun e => by injection e with e; rw [e, h.wc] at hi; omega))
  have HPut : Hid (∀ X, MdV X B ⟨fun a b => (setNm f o.space o.channel none a b).map cs, s.off⟩ who n bc bo (setNm f o.space o.channel none) cs → ChW X who k (cs k) n → KeptW who w X → ∃ w3, (Instr.mapUpdate 60 (.map (some bc)) (.agg #[.string o.toSpace, .string o.to]) (.pointer (some ⟨k, 0, none⟩))).run Try.prog X = .ok () w3 ∧ X.grownBy w3 (some bc) ∧ Hid (AftM who w w3 B (Mo.setC (Mo.setC s o.space o.channel none) o.toSpace o.to (some (cs k))) (n + 1) who)) := fun X hM hC hK => by
    obtain ⟨w3, q1, q2, q3⟩ := hM.rename (by unfold maxLen; omega) ho.2.2.2.2.1 ho.2.2.2.2.2 hC (fun a b e => by
      unfold setNm at e
      split at e
      · cases e
      · rename_i q
        exact q (h.inj a b _ _ k e hf))
    refine ⟨w3, q1, q2, ⟨bc, bo, _, _, q3.as rfl (fun a b => ?_)⟩, fun _ _ e => e, hK.grown q2 (fun i hi _ => by injection hi with hi; rw [← hi, h.wc]; decide)⟩
    show (Mo.setC (Mo.setC s o.space o.channel none) o.toSpace o.to (some (cs k))).ch a b = (setNm (setNm f o.space o.channel none) o.toSpace o.to (some k) a b).map cs
    unfold Mo.setC setNm
    dsimp only
    by_cases e1 : a = o.toSpace ∧ b = o.to
    · rw [if_pos e1, if_pos e1]
      rfl
    · rw [if_neg e1, if_neg e1]
      by_cases e2 : a = o.space ∧ b = o.channel
      · rw [if_pos e2, if_pos e2]
        rfl
      · rw [if_neg e2, if_neg e2]
        exact h.ch a b
  have HKn : Hid (∀ X, Calls Try.prog 51 #[.string o.toSpace, .string o.to] X fun e w' => e = .returned (.agg #[.string o.toSpace, .string o.to]) ∧ Below X.heap.size X w') := fun X => keptName_c _ _ (by omega) (by omega) X
  obtain ⟨u1, u2, u3, u4, u5, u6, u7, u8⟩ := HBx.out u (Below.refl _ _)
  clear h hV ho hf ht hn hz1 hz2 hlx hcu hbu hBl hBc hbc
  go_enter Try.func30, Try.ntmps30
  go_wp2_with fail
  rw [← hu]
  refine Calls.mono HFi.out ?_
  rintro e w1 ⟨rfl, hw1⟩
  have hw1 := hw1.symm
  subst hw1
  clear hu
  go_wp2_with fail
  refine Calls.mono HHa.out ?_
  rintro e w2 ⟨rfl, hw2⟩
  have hw2 := hw2.symm
  subst hw2
  have HU : Hid (Below u.heap.size u u.drew) := (Below.refl _ _).drew
  clear u1 u2 u3 u4 u5 u6 u7 u8
  go_wp2
  refine wp_region_held_drew (S := fun X => X.cell? ⟨B, 0, none⟩ = some (.map (some bc)) ∧ X.cell? ⟨w.heap.size, 1, none⟩ = some (.string o.space) ∧ X.cell? ⟨w.heap.size, 2, none⟩ = some (.string o.channel) ∧ X.cell? ⟨w.heap.size, 5, none⟩ = some (.string o.toSpace) ∧ X.cell? ⟨w.heap.size, 6, none⟩ = some (.string o.to)) (by kernel_rfl) (HS.out _ HU.out) (fun hHeld => ?_)
  refine take7 (i := 0) (d := 25) (v := .pointer (some ⟨B, 0, none⟩)) rfl rfl (by kernel_rfl) (by kernel_rfl) (by kernel_rfl) (fun _ _ _ h => h) (Or.inl ⟨by rfl, ?_⟩) (by assumption) ?_
  · intro X hSw
    go_simp
  simp only [Act.put, List.setIfInBounds_toArray, List.set_cons_zero, List.set_cons_succ]
  refine take7 (i := 1) (d := 26) (v := .pointer (some ⟨B, 0, none⟩)) rfl rfl (by kernel_rfl) (by kernel_rfl) (by kernel_rfl) (fun _ _ _ h => h) (Or.inl ⟨by rfl, ?_⟩) (by assumption) ?_
  · intro X hSw
    go_simp
  simp only [Act.put, List.setIfInBounds_toArray, List.set_cons_zero, List.set_cons_succ]
  refine take7 (i := 2) (d := 27) (v := .pointer (some ⟨B, 0, none⟩)) rfl rfl (by kernel_rfl) (by kernel_rfl) (by kernel_rfl) (fun _ _ _ h => h) (Or.inl ⟨by rfl, ?_⟩) (by assumption) ?_
  · intro X hSw
    go_simp
  simp only [Act.put, List.setIfInBounds_toArray, List.set_cons_zero, List.set_cons_succ]
  refine take7 (i := 3) (d := 28) (v := .map (some bc)) rfl rfl (by kernel_rfl) (by kernel_rfl) (by kernel_rfl) (fun _ _ _ h => h) (Or.inl ⟨by rfl, ?_⟩) (by assumption) ?_
  · intro X hSw
    go_simp
  simp only [Act.put, List.setIfInBounds_toArray, List.set_cons_zero, List.set_cons_succ]
  refine take7 (i := 4) (d := 29) (v := .pointer (some ⟨w.heap.size, 1, none⟩)) rfl rfl (by kernel_rfl) (by kernel_rfl) (by kernel_rfl) (fun _ _ _ h => h) (Or.inl ⟨by rfl, ?_⟩) (by assumption) ?_
  · intro X hSw
    go_simp
  simp only [Act.put, List.setIfInBounds_toArray, List.set_cons_zero, List.set_cons_succ]
  refine take7 (i := 5) (d := 30) (v := .string o.space) rfl rfl (by kernel_rfl) (by kernel_rfl) (by kernel_rfl) (fun _ _ _ h => h) (Or.inl ⟨by rfl, ?_⟩) (by assumption) ?_
  · intro X hSw
    go_simp
  simp only [Act.put, List.setIfInBounds_toArray, List.set_cons_zero, List.set_cons_succ]
  refine take7 (i := 6) (d := 31) (v := .pointer (some ⟨w.heap.size, 2, none⟩)) rfl rfl (by kernel_rfl) (by kernel_rfl) (by kernel_rfl) (fun _ _ _ h => h) (Or.inl ⟨by rfl, ?_⟩) (by assumption) ?_
  · intro X hSw
    go_simp
  simp only [Act.put, List.setIfInBounds_toArray, List.set_cons_zero, List.set_cons_succ]
  refine take7 (i := 7) (d := 32) (v := .string o.channel) rfl rfl (by kernel_rfl) (by kernel_rfl) (by kernel_rfl) (fun _ _ _ h => h) (Or.inl ⟨by rfl, ?_⟩) (by assumption) ?_
  · intro X hSw
    go_simp
  simp only [Act.put, List.setIfInBounds_toArray, List.set_cons_zero, List.set_cons_succ]
  refine take7 (i := 8) (d := 33) (v := .agg #[.string o.space, .string o.channel]) rfl rfl (by kernel_rfl) (by kernel_rfl) (by kernel_rfl) (fun _ _ _ h => h) (Or.inl ⟨by rfl, ?_⟩) (by assumption) ?_
  · intro X hSw
    go_simp
  simp only [Act.put, List.setIfInBounds_toArray, List.set_cons_zero, List.set_cons_succ]
  refine wpAnyH_ready (rs := [9]) (by kernel_rfl) (by simp) ?_
  refine AllReadyH.cons rfl (fun K hK => ?_) AllReadyH.nil
  obtain ⟨X1, r1, g1, HX1⟩ := HDel.out _ 0 HU.out
  refine stepDelete rfl rfl 60 78 (.tmp 28) (.tmp 33) rfl (by simp [Act.eval]) (by simp [Act.eval]) r1 ?_
  have hs1 : u.heap.size ≤ X1.heap.size := g1.size
  have HS1 : Hid (X1.cell? ⟨B, 0, none⟩ = some (.map (some bc)) ∧ X1.cell? ⟨w.heap.size, 1, none⟩ = some (.string o.space) ∧ X1.cell? ⟨w.heap.size, 2, none⟩ = some (.string o.channel) ∧ X1.cell? ⟨w.heap.size, 5, none⟩ = some (.string o.toSpace) ∧ X1.cell? ⟨w.heap.size, 6, none⟩ = some (.string o.to)) := HS3.out u.drew X1 (Nat.le_refl _) (HS.out _ HU.out) g1
  have HSz : Hid (u.heap.size ≤ X1.heap.size) := hs1
  refine hK.out _ _ HS1.out (fun hHeld => ?_)
  clear hK K hHeld r1 g1 hs1
  refine wpAnyH_done (by kernel_rfl) ?_ _
  clear hHeld
  have HS2 : Hid (X1.drew.cell? ⟨B, 0, none⟩ = some (.map (some bc)) ∧ X1.drew.cell? ⟨w.heap.size, 1, none⟩ = some (.string o.space) ∧ X1.drew.cell? ⟨w.heap.size, 2, none⟩ = some (.string o.channel) ∧ X1.drew.cell? ⟨w.heap.size, 5, none⟩ = some (.string o.toSpace) ∧ X1.drew.cell? ⟨w.heap.size, 6, none⟩ = some (.string o.to)) := HS4.out X1 X1.drew HSz.out HS1.out (Below.refl _ _).drew
  go_wp2
  refine wp_region_held_drew (S := fun X => X.cell? ⟨B, 0, none⟩ = some (.map (some bc)) ∧ X.cell? ⟨w.heap.size, 1, none⟩ = some (.string o.space) ∧ X.cell? ⟨w.heap.size, 2, none⟩ = some (.string o.channel) ∧ X.cell? ⟨w.heap.size, 5, none⟩ = some (.string o.toSpace) ∧ X.cell? ⟨w.heap.size, 6, none⟩ = some (.string o.to)) (by kernel_rfl) HS2.out (fun hHeld => ?_)
  refine take7 (i := 0) (d := 34) (v := .pointer (some ⟨B, 0, none⟩)) rfl rfl (by kernel_rfl) (by kernel_rfl) (by kernel_rfl) (fun _ _ _ h => h) (Or.inl ⟨by rfl, ?_⟩) (by assumption) ?_
  · intro X hSw
    go_simp
  simp only [Act.put, List.setIfInBounds_toArray, List.set_cons_zero, List.set_cons_succ]
  refine take7 (i := 1) (d := 35) (v := .pointer (some ⟨B, 0, none⟩)) rfl rfl (by kernel_rfl) (by kernel_rfl) (by kernel_rfl) (fun _ _ _ h => h) (Or.inl ⟨by rfl, ?_⟩) (by assumption) ?_
  · intro X hSw
    go_simp
  simp only [Act.put, List.setIfInBounds_toArray, List.set_cons_zero, List.set_cons_succ]
  refine take7 (i := 2) (d := 36) (v := .pointer (some ⟨B, 0, none⟩)) rfl rfl (by kernel_rfl) (by kernel_rfl) (by kernel_rfl) (fun _ _ _ h => h) (Or.inl ⟨by rfl, ?_⟩) (by assumption) ?_
  · intro X hSw
    go_simp
  simp only [Act.put, List.setIfInBounds_toArray, List.set_cons_zero, List.set_cons_succ]
  refine take7 (i := 3) (d := 37) (v := .map (some bc)) rfl rfl (by kernel_rfl) (by kernel_rfl) (by kernel_rfl) (fun _ _ _ h => h) (Or.inl ⟨by rfl, ?_⟩) (by assumption) ?_
  · intro X hSw
    go_simp
  simp only [Act.put, List.setIfInBounds_toArray, List.set_cons_zero, List.set_cons_succ]
  refine take7 (i := 4) (d := 38) (v := .pointer (some ⟨w.heap.size, 5, none⟩)) rfl rfl (by kernel_rfl) (by kernel_rfl) (by kernel_rfl) (fun _ _ _ h => h) (Or.inl ⟨by rfl, ?_⟩) (by assumption) ?_
  · intro X hSw
    go_simp
  simp only [Act.put, List.setIfInBounds_toArray, List.set_cons_zero, List.set_cons_succ]
  refine take7 (i := 5) (d := 39) (v := .string o.toSpace) rfl rfl (by kernel_rfl) (by kernel_rfl) (by kernel_rfl) (fun _ _ _ h => h) (Or.inl ⟨by rfl, ?_⟩) (by assumption) ?_
  · intro X hSw
    go_simp
  simp only [Act.put, List.setIfInBounds_toArray, List.set_cons_zero, List.set_cons_succ]
  refine take7 (i := 6) (d := 40) (v := .pointer (some ⟨w.heap.size, 6, none⟩)) rfl rfl (by kernel_rfl) (by kernel_rfl) (by kernel_rfl) (fun _ _ _ h => h) (Or.inl ⟨by rfl, ?_⟩) (by assumption) ?_
  · intro X hSw
    go_simp
  simp only [Act.put, List.setIfInBounds_toArray, List.set_cons_zero, List.set_cons_succ]
  refine take7 (i := 7) (d := 41) (v := .string o.to) rfl rfl (by kernel_rfl) (by kernel_rfl) (by kernel_rfl) (fun _ _ _ h => h) (Or.inl ⟨by rfl, ?_⟩) (by assumption) ?_
  · intro X hSw
    go_simp
  simp only [Act.put, List.setIfInBounds_toArray, List.set_cons_zero, List.set_cons_succ]
  refine take7 (i := 9) (d := 43) (v := .pointer (some ⟨k, 0, none⟩)) rfl rfl (by kernel_rfl) (by kernel_rfl) (by kernel_rfl) (fun _ _ _ h => h) (Or.inl ⟨by rfl, ?_⟩) (by assumption) ?_
  · intro X hSw
    go_simp
  simp only [Act.put, List.setIfInBounds_toArray, List.set_cons_zero, List.set_cons_succ]
  refine wpAnyH_ready (rs := [8]) (by kernel_rfl) (by simp) ?_
  refine AllReadyH.cons rfl (fun K hK => ?_) AllReadyH.nil
  refine stepCall 42 rfl rfl 51 #[.string o.toSpace, .string o.to] (by kernel_rfl) (HKn.out _) ?_
  rintro e Y ⟨rfl, hbY⟩
  refine ⟨_, rfl, ?_⟩
  have hbY : Below X1.heap.size X1 Y := (Below.refl _ X1).drew.trans hbY
  refine hK.out _ _ (HS4.out X1 Y HSz.out HS1.out hbY) (fun hHeld => ?_)
  clear hK K
  try simp only [Act.put, List.setIfInBounds_toArray, List.set_cons_zero, List.set_cons_succ]
  refine wpAnyH_ready (rs := [10]) (by kernel_rfl) (by simp) ?_
  refine AllReadyH.cons rfl (fun K hK => ?_) AllReadyH.nil
  obtain ⟨X3, r3, g3, HA⟩ := HPut.out Y (HX1.out.1.below hbY) (HX1.out.2.2.carry (fun i hi => hbY.block i (HX1.out.1.here i (by omega)))) (HX1.out.2.1.trans (KeptW.ofBelow (who := who) hbY) (fun _ _ e => e))
  refine stepUpdate rfl rfl 60 (.tmp 37) (.tmp 42) (.tmp 43) rfl (by simp [Act.eval]) (by simp [Act.eval]) (by simp [Act.eval]) r3 ?_
  refine hK.out _ _ (HS3.out Y X3 (Nat.le_trans HSz.out hbY.size) (HS4.out X1 Y HSz.out HS1.out hbY) g3) (fun hHeld => ?_)
  clear hK K hHeld r3 g3
  refine wpAnyH_done (by kernel_rfl) ?_ _
  clear hHeld hbY
  go_wp2
  go_ret
  exact ⟨rfl, HA.out⟩

end
end Go.Proofs.Ytkioeahlajjmiaa
