/-
  A model beside a row of texts that grows, and beside kept cells.
-/
import Derived.Test.YtkioeahlajjmiaaMoStays
import Derived.Test.YtkioeahlajjmiaaMoChans
namespace Go.Proofs.Ytkioeahlajjmiaa
open Go.RowKit Go.Sort

theorem ownsRow_carry {X Y : World} {base : Nat} {e : TypeId} {size : Nat} {v : Value} {n : Nat} {xs : List Value} (h : X.ownsRow base e size v n xs) (hb : ∀ g, v.ownBlock = some g → Y.heap[g]? = X.heap[g]?) : Y.ownsRow base e size v n xs := by
  obtain ⟨h1, h2 | ⟨g, cap, cur, hv, q1, q2, q3⟩⟩ := h
  · exact ⟨h1, .inl h2⟩
  · exact ⟨h1, .inr ⟨g, cap, cur, hv, q1, (hb g (by rw [hv]; rfl)).trans q2, q3⟩⟩

/-- A model beside a row of texts and kept cells. -/
def Mt (w X : World) (B : Nat) (s : Mo.St) (n : Nat) (tv : Value) (ss : List (List UInt8)) (L : List (Nat × Nat × Value)) : Prop :=
  ∃ loc, Mf w X B s n loc ∧ X.ownsRow w.heap.size 9 1 tv ss.length (ss.map encStr) ∧ (∀ g, tv.ownBlock = some g → loc g) ∧ ∀ q ∈ L, loc q.1 ∧ X.cell? ⟨q.1, q.2.1, none⟩ = some q.2.2

section
variable {w X Y : World} {B : Nat} {s : Mo.St} {n : Nat} {tv : Value} {ss : List (List UInt8)} {L : List (Nat × Nat × Value)}

theorem Mt.old (h : Mt w X B s n tv ss L) : Below w.heap.size w X := by obtain ⟨loc, h, _⟩ := h; exact h.old
theorem Mt.more {m : Nat} (h : Mt w X B s n tv ss L) (hm : n ≤ m) : Mt w X B s m tv ss L := by
  obtain ⟨loc, h1, h2⟩ := h
  exact ⟨loc, h1.more hm, h2⟩
theorem Mt.row (h : Mt w X B s n tv ss L) : X.ownsRow w.heap.size 9 1 tv ss.length (ss.map encStr) := by obtain ⟨loc, _, h, _⟩ := h; exact h
theorem Mt.cell (h : Mt w X B s n tv ss L) {q : Nat × Nat × Value} (hq : q ∈ L) : X.cell? ⟨q.1, q.2.1, none⟩ = some q.2.2 := by
  obtain ⟨loc, _, _, _, h⟩ := h
  exact (h q hq).2
theorem Mt.less {L' : List (Nat × Nat × Value)} (h : Mt w X B s n tv ss L) (hl : ∀ q ∈ L', q ∈ L) : Mt w X B s n tv ss L' := by
  obtain ⟨loc, h1, h2, h3, h4⟩ := h
  exact ⟨loc, h1, h2, h3, fun q hq => h4 q (hl q hq)⟩
/-- New cells are kept beside the others. -/
theorem Mt.add (h : Mt w X B s n tv ss L) (hb : Below X.heap.size X Y) {L' : List (Nat × Nat × Value)} (hL : ∀ q ∈ L', X.heap.size ≤ q.1 ∧ Y.cell? ⟨q.1, q.2.1, none⟩ = some q.2.2) : Mt w Y B s n tv ss (L' ++ L) := by
  obtain ⟨loc, h1, h2, h3, h4⟩ := h
  refine ⟨_, h1.grow hb, ownsRow_carry h2 (fun g hg => hb.block g (h1.lloc (h3 g hg))), fun g hg => .inl (h3 g hg), fun q hq => ?_⟩
  rcases List.mem_append.1 hq with q1 | q1
  · exact ⟨.inr ⟨(hL q q1).1, World.block_lt_of_cell? _ _ (hL q q1).2⟩, (hL q q1).2⟩
  · exact ⟨.inl (h4 q q1).1, (hb.cell (p := ⟨q.1, q.2.1, none⟩) (h1.lloc (h4 q q1).1)).trans (h4 q q1).2⟩
theorem Mt.below (h : Mt w X B s n tv ss L) (hb : Below X.heap.size X Y) : Mt w Y B s n tv ss L := h.add (L' := []) hb (fun q hq => by cases hq)
/-- Do of any op; the reply's posts are told, and kept in the world as they are. -/
theorem Mt.do6 (h : Mt w X B s n tv ss L) (hn : n < 1099511627776) (o : Mo.Op) (ho : OpOk o) :
    Calls Try.prog 10 #[.pointer (some ⟨B, 0, none⟩), .agg #[.int .i64 o.kind, .string o.space, .string o.channel, .string o.user, .string o.text, .string o.toSpace, .string o.to, .int .i64 o.frm, .int .i64 o.most]] X fun e Y => ∃ p m c, e = .returned (.agg #[.int .i64 (Mo.tells s o).err, .int .i64 (Mo.tells s o).at_, .slice p m c]) ∧ m = (Mo.tells s o).posts.length ∧ RowC Y 2 (.slice p m c) m (poCells (Mo.tells s o).posts) ∧ Mt w Y B (Mo.does s o) (n + 1) tv ss L := by
  obtain ⟨loc, h1, h2, h3, h4⟩ := h
  refine (h1.do6 hn o ho).mono ?_
  rintro e Y ⟨p, m, c, rfl, hm, hr, hM, hk, _⟩
  exact ⟨p, m, c, rfl, hm, hr, _, hM, ownsRow_carry h2 (fun g hg => hk g (h3 g hg)), fun g hg => .inl (h3 g hg), fun q hq => ⟨.inl (h4 q hq).1, (World.cell?_of_block (a := ⟨q.1, q.2.1, none⟩) (hk _ (h4 q hq).1)).trans (h4 q hq).2⟩⟩
/-- A text more. -/
theorem Mt.push (h : Mt w X B s n tv ss L) {tv' : Value} {x : List UInt8} (hg : X.grownBy Y tv.ownBlock) (hr : Y.ownsRow w.heap.size 9 1 tv' (ss.length + 1) (ss.map encStr ++ [encStr x])) (ht : tv'.ownBlock = tv.ownBlock ∨ tv'.ownBlock = some X.heap.size) : Mt w Y B s n tv' (ss ++ [x]) [] := by
  obtain ⟨loc, ⟨who, m1, m2, m3, m4⟩, h2, h3, _⟩ := h
  have hs := hg.size
  have hlow : ∀ g, tv.ownBlock = some g → w.heap.size ≤ g ∧ who g = 0 := fun g e => ⟨(h2.lt g e).1, (m4 g (h3 g e)).2⟩
  have hbl : ∀ i, i < X.heap.size → who i ≠ 0 → Y.heap[i]? = X.heap[i]? := fun i hi hw => hg.block i hi (fun e => hw (hlow i e.symm).2)
  have here : ∀ k, who k ≠ 0 → k < X.heap.size := fun k hk => by obtain ⟨bc, bo, f, cs, hv⟩ := m1; exact hv.here k hk
  refine ⟨fun k => tv'.ownBlock = some k, ⟨who, m1.carry hs (fun i hi => hbl i (here i hi) hi), ⟨hg.os.trans m2.os, hg.tape.trans m2.tape, hg.output.trans m2.output, Nat.le_trans m2.size hs, fun k hk => (hg.block k (Nat.lt_of_lt_of_le hk m2.size) (fun e => by have := (hlow k e.symm).1; omega)).trans (m2.block k hk)⟩, m3, fun k hk => ?_⟩, ?_, fun g e => e, fun q hq => by cases hq⟩
  · refine ⟨(hr.lt k hk).2, ?_⟩
    rcases ht with e | e
    · rw [e] at hk
      exact (hlow k hk).2
    · rw [e] at hk
      injection hk with hk
      by_cases q : who k = 0
      · exact q
      · have := here k q
        omega
  · rw [List.length_append, List.map_append]
    exact hr
end
end Go.Proofs.Ytkioeahlajjmiaa
