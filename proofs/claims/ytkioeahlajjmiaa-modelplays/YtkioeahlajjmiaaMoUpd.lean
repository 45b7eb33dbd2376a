/-
  What becomes of a model in memory when something is stored: plain laws on its state; steps of regions that draw.
-/
import Derived.Test.YtkioeahlajjmiaaMoRead
import Derived.StillTailTactics
import Derived.Deep.RegionHeld3
namespace Go.Proofs.Ytkioeahlajjmiaa
open Go.RowKit

/-- An operation that only reads is taken first. -/
theorem take7 {P : Program} {md : Region.Mode} {ops : Array Oper} {Q : Exit → Act → World → Prop} {S : World → Prop} {i d : Nat} {oi : Oper} {v : Value} {fuel : Nat} {listed : Array Bool} {a : Act} {w : World} (hi : ops[i]? = some oi) (hd : oi.dst = some d)
    (hs : Region.noSelect ops = true) (hf : Region.free md ops listed i = true) (hr : (Region.ready md ops listed).contains i = true)
    (hQ : ∀ c a w, Q (.panic c) (a.put (some d) v) w → Q (.panic c) a w) (hy : YieldsIf P ops S oi v a) (hS : S w)
    (h : wpAnyH P md ops Q S fuel (listed.setIfInBounds i true) (a.put (some d) v) w) : wpAnyH P md ops Q S (fuel + 1) listed a w :=
  wpAnyH_take hi hs hf hr (by rw [hd]; exact hQ) hy hS (by rw [hd]; exact h)

/-- append, as one step of a region that draws. -/
theorem step7 {P : Program} {w : World} {ops : Array Oper} {o : Oper} {a : Act} {K : Act → World → Prop} {Q : Exit → Act → World → Prop} {E : Prop} (d : Nat) (hd : o.dst = some d) (hgd : o.guard = none) (s x : Operand) (t tx e : TypeId)
    (ho : o.op = .call { callee := .builtin .append, args := #[s, x], argTypes := #[t, tx] })
    (ht : P.underlying t = some (.slice e)) (z : Value) (size bytes : Nat) (hinfo : (P.info? e).map (fun i => (i.zero, i.size, i.bytes)) = some (some z, size, bytes)) (hzs : z.cells.size = size)
    (v : Value) (n : Nat) (xs : List Value) (hv : a.eval s = v) (hown : RowC w size v n xs) (xv : Value) (m : Nat) (news : List Value) (hx : a.eval x = xv) (hs : Src P size tx xv m news w)
    (hlen : (n + m) * bytes ≤ 140737488355328) (hmax : n + m ≤ maxLen)
    (h : ∀ v' w', RowC w' size v' (n + m) (xs ++ news) → w.grownBy w' (cBlk v) → (∀ k, cBlk v' = some k → cBlk v = some k ∨ w.heap.size ≤ k) → K (a.put (some d) v') w') :
    if Region.wanted o (yielded ops a.tmps) = true then Oper.wp P o a w K Q else E :=
  step_append_rowC hgd s x t tx e ho ht z size bytes hinfo hzs v n xs hv hown xv m news hx hs hlen hmax (by rw [hd]; exact h)

/-- m[k] = v, as one step. -/
theorem stepUpdate {P : Program} {w w1 : World} {ops : Array Oper} {o : Oper} {a : Act} {K : Act → World → Prop} {Q : Exit → Act → World → Prop} {E : Prop} (hd : o.dst = none) (hgd : o.guard = none) (t : TypeId) (m x y : Operand)
    (ho : o.op = .mapUpdate t m x y) {mv xv yv : Value} (hm : a.eval m = mv) (hx : a.eval x = xv) (hy : a.eval y = yv) (hr : (Instr.mapUpdate t mv xv yv).run P w = .ok () w1) (h : K a w1) :
    if Region.wanted o (yielded ops a.tmps) = true then Oper.wp P o a w K Q else E := by
  have hw : Region.wanted o (yielded ops a.tmps) = true := by simp [Region.wanted, hgd]
  rw [if_pos hw]
  unfold Oper.wp
  simp [execOp, ho, hm, hx, hy, hr, Result.andThen]
  show K (a.put o.dst undef) w1
  rw [hd]
  exact h

/-- delete(m, k), as one step. -/
theorem stepDelete {P : Program} {w w1 : World} {ops : Array Oper} {o : Oper} {a : Act} {K : Act → World → Prop} {Q : Exit → Act → World → Prop} {E : Prop} (hd : o.dst = none) (hgd : o.guard = none) (t k : TypeId) (m x : Operand)
    (ho : o.op = .call { callee := .builtin .delete, args := #[m, x], argTypes := #[t, k] }) {mv xv : Value} (hm : a.eval m = mv) (hx : a.eval x = xv) (hr : (Builtin.delete_ #[t, k] o.type #[mv, xv]).run P w = .ok (.tuple #[]) w1) (h : K a w1) :
    if Region.wanted o (yielded ops a.tmps) = true then Oper.wp P o a w K Q else E := by
  have hw : Region.wanted o (yielded ops a.tmps) = true := by simp [Region.wanted, hgd]
  rw [if_pos hw]
  unfold Oper.wp
  simp [execOp, ho, resolve, invoke, builtin, hm, hx, hr, Result.andThen]
  show K (a.put o.dst _) w1
  rw [hd]
  exact h

theorem grown_below {w w' : World} (h : Below w.heap.size w w') (row : Option Nat) : w.grownBy w' row := ⟨h.os, h.tape, h.output, h.size, fun k hk _ => h.block k hk⟩

section
variable {w W W' : World} {B : Nat} {s : Mo.St} {who : Nat → Nat} {n bc bo : Nat} {f : ByteArray → ByteArray → Option Nat} {cs : Nat → Mo.Ch}

/-- Of a name that has a channel. -/
theorem MdV.hasCh (h : MdV w B s who n bc bo f cs) {x y : ByteArray} {c : Mo.Ch} (hc : s.ch x y = some c) : ∃ k, f x y = some k ∧ cs k = c := by
  rw [h.ch] at hc
  obtain ⟨k, hk, e⟩ := Option.map_eq_some_iff.1 hc
  exact ⟨k, hk, e⟩
theorem MdV.noCh (h : MdV w B s who n bc bo f cs) {x y : ByteArray} (hc : s.ch x y = none) : f x y = none := by
  rw [h.ch] at hc
  simpa using hc

/-- A channel is made. -/
theorem MdV.made (h : MdV w B s who n bc bo f cs) (hW : Below w.heap.size w W) (hn : n < maxLen) {x y : ByteArray} (hx : Ok x) (hy : Ok y) {bm bb : Nat} (h1 : w.heap.size ≤ bm) (h2 : w.heap.size ≤ bb) (hne : bm ≠ bb) (hm : W.heap[bm]? = Option.some (.map #[] 0))
    (c0 : W.cell? ⟨bb, 0, Option.none⟩ = Option.some (.map (Option.some bm))) (c1 : W.cell? ⟨bb, 1, Option.none⟩ = Option.some (.slice Option.none 0 0)) (fz : ∀ j, W.frozen? ⟨bb, j, Option.none⟩ = false) :
    ∃ w3 who', (Instr.mapUpdate 60 (.map (Option.some bc)) (.agg #[.string x, .string y]) (.pointer (Option.some ⟨bb, 0, Option.none⟩))).run Try.prog W = .ok () w3 ∧ W.grownBy w3 (Option.some bc) ∧ AftM who w w3 B (Mo.setC s x y (Option.some Mo.newC)) (n + 1) who' := by
  have hV := h.below hW
  have hbb := World.block_lt_of_cell? _ _ c0
  have hbm : bm < W.heap.size := (Array.getElem?_eq_some_iff.1 hm).1
  have z1 : ∀ k, w.heap.size ≤ k → who k = 0 := fun k hk => by
    by_cases e : who k = 0
    · exact e
    · have := h.here k e
      omega
  have hz := z1 bb h2
  have hzm := z1 bm h1
  obtain ⟨w3, hr, ht, hM⟩ := hV.chs.put hn hx hy bb
  have hg := ht.grown
  have hs3 := turned_size ht
  have hbl : ∀ i, i ≠ bc → i < W.heap.size → w3.heap[i]? = W.heap[i]? := fun i hi hl => hg.block i hl (fun e => hi (by injection e))
  obtain ⟨who', hwho⟩ : ∃ who' : Nat → Nat, who' = fun k => if k = bb then 4 else if k = bm then 10 + 2 * bb else who k := ⟨_, rfl⟩
  have w1 : ∀ k, who k ≠ 0 → who' k = who k := fun k hk => by
    rw [hwho]
    dsimp only
    rw [if_neg (fun e => hk (by rw [e]; exact hz)), if_neg (fun e => hk (by rw [e]; exact hzm))]
  have w2 : who' bb = 4 := by rw [hwho]; simp
  have w3' : who' bm = 10 + 2 * bb := by rw [hwho]; dsimp only; rw [if_neg hne, if_pos rfl]
  have w4 : ∀ k, who' k ≠ 0 → who k ≠ 0 ∨ k = bb ∨ k = bm := fun k hk => by
    rw [hwho] at hk
    dsimp only at hk
    by_cases e1 : k = bb
    · exact .inr (.inl e1)
    · by_cases e2 : k = bm
      · exact .inr (.inr e2)
      · rw [if_neg e1, if_neg e2] at hk
        exact .inl hk
  clear hwho
  have hbbc : bb ≠ bc := fun e => by have := h.wc; rw [← e, hz] at this; cases this
  have hbmc : bm ≠ bc := fun e => by have := h.wc; rw [← e, hzm] at this; cases this
  have hB := h.wB
  refine ⟨w3, who', hr, hg, ⟨bc, bo, setNm f x y (Option.some bb), fun k => if k = bb then Mo.newC else cs k, ?_⟩, fun k hk e => ?_, ?_⟩
  · have eB : w3.heap[B]? = W.heap[B]? := hbl B (fun e => by have := h.wc; rw [← e, hB] at this; cases this) (hV.here B (by rw [hB]; decide))
    refine ⟨(World.cell?_of_block (a := ⟨B, 0, Option.none⟩) eB).trans hV.c0, (World.cell?_of_block (a := ⟨B, 1, Option.none⟩) eB).trans hV.c1, hM, (hV.off.mono (Nat.le_succ _)).carry (hbl bo (fun e => by have := h.wc; rw [← e, h.wo] at this; cases this) (hV.here bo (by rw [h.wo]; decide))), fun a b => ?_, fun a b k hk => ?_, fun a b a' b' k hk hk' => ?_, fun a b k hk => ?_, by rw [w1 B (by rw [hB]; decide)]; exact hB, by rw [w1 bc (by rw [h.wc]; decide)]; exact h.wc, by rw [w1 bo (by rw [h.wo]; decide)]; exact h.wo, fun k hk => ?_⟩
    · unfold Mo.setC setNm
      dsimp only
      by_cases e : a = x ∧ b = y
      · rw [if_pos e, if_pos e]
        simp
      · rw [if_neg e, if_neg e, h.ch]
        cases hfa : f a b with
        | none => rfl
        | some k =>
          have := (h.one a b k hfa)
          obtain ⟨_, _, _, q, _⟩ := this
          have : k ≠ bb := fun e => by rw [e, hz] at q; cases q
          simp [this]
    · unfold setNm at hk
      by_cases e : a = x ∧ b = y
      · rw [if_pos e] at hk
        injection hk with hk
        subst hk
        refine ⟨bm, .slice Option.none 0 0, ⟨(World.cell?_of_block (a := ⟨bb, 0, Option.none⟩) (hbl bb hbbc hbb)).trans c0, (World.cell?_of_block (a := ⟨bb, 1, Option.none⟩) (hbl bb hbbc hbb)).trans c1, fun j => (World.frozen?_of_block (a := ⟨bb, j, Option.none⟩) (hbl bb hbbc hbb)).trans (fz j), ?_, ?_, ?_⟩, w2, w3', fun g hg => by simp [cBlk] at hg⟩
        · rw [if_pos rfl]
          exact (Ms.ofNew ((hbl bm hbmc hbm).trans hm)).mono (Nat.zero_le _)
        · rw [if_pos rfl]
          exact RowC.nil _ _ _
        · rw [if_pos rfl]
          exact Nat.zero_le _
      · rw [if_neg e] at hk
        obtain ⟨bm', v', q1, q2, q3, q4⟩ := hV.one a b k hk
        have hkb : k ≠ bb := fun e => by rw [e, hz] at q2; cases q2
        rw [if_neg hkb]
        refine ⟨bm', v', (q1.mono (Nat.le_succ _)).carry (hbl k (fun e => by have := h.wc; rw [← e, q2] at this; cases this) (hV.here k (by rw [q2]; decide))) (hbl bm' (fun e => by have := h.wc; rw [← e, q3] at this; omega) (hV.here bm' (by rw [q3]; omega))) (fun g hg => hbl g (fun e => by have := h.wc; rw [← e, q4 g hg] at this; omega) (hV.here g (by rw [q4 g hg]; omega))), by rw [w1 k (by rw [q2]; decide)]; exact q2, by rw [w1 bm' (by rw [q3]; omega)]; exact q3, fun g hg => by rw [w1 g (by rw [q4 g hg]; omega)]; exact q4 g hg⟩
    · unfold setNm at hk hk'
      have old : ∀ a b, f a b ≠ Option.some bb := fun a b e => by
        obtain ⟨_, _, _, q, _⟩ := h.one a b bb e
        rw [hz] at q
        cases q
      by_cases e : a = x ∧ b = y
      · rw [if_pos e] at hk
        by_cases e' : a' = x ∧ b' = y
        · exact ⟨by rw [e.1, e'.1], by rw [e.2, e'.2]⟩
        · rw [if_neg e'] at hk'
          injection hk with hk
          exact absurd (by rw [hk]; exact hk') (old a' b')
      · rw [if_neg e] at hk
        by_cases e' : a' = x ∧ b' = y
        · rw [if_pos e'] at hk'
          injection hk' with hk'
          exact absurd (by rw [hk']; exact hk) (old a b)
        · rw [if_neg e'] at hk'
          exact h.inj a b a' b' k hk hk'
    · unfold setNm at hk
      by_cases e : a = x ∧ b = y
      · rw [e.1, e.2]
        exact ⟨hx, hy⟩
      · rw [if_neg e] at hk
        exact h.dom a b k hk
    · rw [hs3]
      rcases w4 k hk with q | q | q
      · exact hV.here k q
      · rw [q]; exact hbb
      · rw [q]; exact hbm
  · by_cases q : who' k = 0
    · exact q
    · rcases w4 k q with r | r | r
      · exact absurd e r
      · omega
      · omega
  · refine (KeptW.ofBelow hW).grown hg (fun k hk _ => ?_)
    injection hk with hk
    rw [← hk, h.wc]
    decide

/-- A channel's own blocks are written. -/
theorem MdV.upd (h : MdV W B s who n bc bo f cs) {x y : ByteArray} {k : Nat} {c' : Mo.Ch} {who' : Nat → Nat} {n' : Nat} (hn : n ≤ n') (hf : f x y = Option.some k)
    (hb : ∀ i, who i ≠ 0 → i ≠ k → who i ≠ 10 + 2 * k → who i ≠ 11 + 2 * k → W'.heap[i]? = W.heap[i]?) (hc : ChW W' who' k c' n')
    (hw : ∀ i, who i ≠ 0 → who' i = who i) (hnew : ∀ i, who' i ≠ 0 → i < W'.heap.size) : MdV W' B (Mo.setC s x y (Option.some c')) who' n' bc bo f (fun i => if i = k then c' else cs i) := by
  have hB := h.wB
  have hck := h.wc
  have hok := h.wo
  obtain ⟨_, _, _, hk4, _⟩ := h.one x y k hf
  have eB := hb B (by rw [hB]; decide) (fun e => by rw [e, hk4] at hB; cases hB) (by rw [hB]; omega) (by rw [hB]; omega)
  have ec := hb bc (by rw [hck]; decide) (fun e => by rw [e, hk4] at hck; cases hck) (by rw [hck]; omega) (by rw [hck]; omega)
  have eo := hb bo (by rw [hok]; decide) (fun e => by rw [e, hk4] at hok; cases hok) (by rw [hok]; omega) (by rw [hok]; omega)
  refine ⟨(World.cell?_of_block (a := ⟨B, 0, Option.none⟩) eB).trans h.c0, (World.cell?_of_block (a := ⟨B, 1, Option.none⟩) eB).trans h.c1, (h.chs.mono hn).carry ec, (h.off.mono hn).carry eo, fun a b => ?_, fun a b i hi => ?_, h.inj, h.dom, by rw [hw B (by rw [hB]; decide)]; exact hB, by rw [hw bc (by rw [hck]; decide)]; exact hck, by rw [hw bo (by rw [hok]; decide)]; exact hok, hnew⟩
  · unfold Mo.setC
    dsimp only
    by_cases e : a = x ∧ b = y
    · rw [if_pos e, e.1, e.2, hf]
      simp
    · rw [if_neg e, h.ch]
      cases hfa : f a b with
      | none => rfl
      | some i =>
        have : i ≠ k := fun q => e (h.inj a b x y k (by rw [← q]; exact hfa) hf)
        simp [this]
  · by_cases q : i = k
    · rw [if_pos q, q]
      exact hc
    · rw [if_neg q]
      obtain ⟨bm', v', q1, q2, q3, q4⟩ := h.one a b i hi
      exact ⟨bm', v', (q1.mono hn).carry (hb i (by rw [q2]; decide) q (by rw [q2]; omega) (by rw [q2]; omega)) (hb bm' (by rw [q3]; omega) (fun e => by rw [e, hk4] at q3; omega) (by rw [q3]; omega) (by rw [q3]; omega)) (fun g hg => hb g (by rw [q4 g hg]; omega) (fun e => by have := q4 g hg; rw [e, hk4] at this; omega) (by rw [q4 g hg]; omega) (by rw [q4 g hg]; omega)), by rw [hw i (by rw [q2]; decide)]; exact q2, by rw [hw bm' (by rw [q3]; omega)]; exact q3, fun g hg => by rw [hw g (by rw [q4 g hg]; omega)]; exact q4 g hg⟩

end
end Go.Proofs.Ytkioeahlajjmiaa
