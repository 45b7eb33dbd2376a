/-
  A fresh model beside what the caller keeps, cell by cell; a channel of two members that is moved.
-/
import Derived.Test.YtkioeahlajjmiaaMoDo2
namespace Go.Proofs.Ytkioeahlajjmiaa
open Go.RowKit Go.Sort

/-- A model beside cells of the caller's own. -/
def Mv (w X : World) (B : Nat) (s : Mo.St) (n : Nat) (L : List (Nat × Nat × Value)) : Prop :=
  ∃ loc, Mf w X B s n loc ∧ ∀ q ∈ L, loc q.1 ∧ X.cell? ⟨q.1, q.2.1, none⟩ = some q.2.2

section
variable {w X Y : World} {B : Nat} {s : Mo.St} {n : Nat} {L : List (Nat × Nat × Value)}

theorem Mb.mv {l : List (Nat × Int × Int)} (h : Mb w X B s n l) : Mv w X B s n [] := by
  obtain ⟨loc, h1, _⟩ := h
  exact ⟨loc, h1, fun q hq => by cases hq⟩
theorem Mv.mb (h : Mv w X B s n L) : Mb w X B s n [] := by
  obtain ⟨loc, h1, _⟩ := h
  exact ⟨loc, h1, fun q hq => by cases hq⟩
theorem Mv.old (h : Mv w X B s n L) : Below w.heap.size w X := by obtain ⟨loc, h, _⟩ := h; exact h.old
theorem Mv.more {m : Nat} (h : Mv w X B s n L) (hm : n ≤ m) : Mv w X B s m L := by
  obtain ⟨loc, h1, h2⟩ := h
  exact ⟨loc, h1.more hm, h2⟩
/-- New cells are kept beside the others. -/
theorem Mv.add (h : Mv w X B s n L) (hb : Below X.heap.size X Y) {L' : List (Nat × Nat × Value)} (hL : ∀ q ∈ L', X.heap.size ≤ q.1 ∧ Y.cell? ⟨q.1, q.2.1, none⟩ = some q.2.2) : Mv w Y B s n (L' ++ L) := by
  obtain ⟨loc, h1, h2⟩ := h
  refine ⟨_, h1.grow hb, fun q hq => ?_⟩
  rcases List.mem_append.1 hq with q1 | q1
  · exact ⟨.inr ⟨(hL q q1).1, World.block_lt_of_cell? _ _ (hL q q1).2⟩, (hL q q1).2⟩
  · exact ⟨.inl (h2 q q1).1, (hb.cell (p := ⟨q.1, q.2.1, none⟩) (h1.lloc (h2 q q1).1)).trans (h2 q q1).2⟩
theorem Mv.below (h : Mv w X B s n L) (hb : Below X.heap.size X Y) : Mv w Y B s n L := h.add (L' := []) hb (fun q hq => by cases hq)
theorem Mv.box (h : Mv w X B s n L) (E A : Int) (v : Value) (T : TypeId) : Mv w (X.alloc (.cells #[.int .i64 E, .int .i64 A, v] T)) B s n ([(X.heap.size, 0, .int .i64 E), (X.heap.size, 1, .int .i64 A)] ++ L) := by
  refine h.add (below_alloc X _) (fun q hq => ?_)
  simp at hq
  rcases hq with rfl | rfl
  · exact ⟨Nat.le_refl _, World.cell?_alloc_mark X _ _ _ 0⟩
  · exact ⟨Nat.le_refl _, World.cell?_alloc_mark X _ _ _ 1⟩
theorem Mv.do5 (h : Mv w X B s n L) (hn : n < 1099511627776) (o : Mo.Op) (ho : OpOk o) (h6 : o.kind ≠ 6) {E A : Int} {s' : Mo.St} (ht : Mo.tells s o = ⟨E, A, []⟩) (hd : Mo.does s o = s') :
    Calls Try.prog 10 #[.pointer (some ⟨B, 0, none⟩), .agg #[.int .i64 o.kind, .string o.space, .string o.channel, .string o.user, .string o.text, .string o.toSpace, .string o.to, .int .i64 o.frm, .int .i64 o.most]] X fun e Y => ∃ p m c, e = .returned (.agg #[.int .i64 E, .int .i64 A, .slice p m c]) ∧ Mv w Y B s' (n + 1) L := by
  obtain ⟨loc, h1, h2⟩ := h
  refine (h1.do5 hn o ho h6).mono ?_
  rintro e Y ⟨p, m, c, he, hm, hr, hM, hk, _⟩
  rw [ht] at he
  rw [hd] at hM
  exact ⟨p, m, c, he, _, hM, fun q hq => ⟨.inl (h2 q hq).1, (World.cell?_of_block (a := ⟨q.1, q.2.1, none⟩) (hk _ (h2 q hq).1)).trans (h2 q hq).2⟩⟩
end

theorem risen_of {T : List ByteArray} (h : (T.map (·.data.toList)).Pairwise (fun x y => decide (x ≤ y) = true)) : risen T = T := by
  unfold risen
  rw [List.mergeSort_of_pairwise h, List.map_map]
  have : ((fun l : List UInt8 => (⟨l.toArray⟩ : ByteArray)) ∘ fun x : ByteArray => x.data.toList) = id := by
    funext a
    exact back a
  rw [this, List.map_id]

/-- The one channel there is, of ann and bob. -/
def Gm (s : Mo.St) (x y : ByteArray) (posts : List Mo.Po) : Prop := ∃ mem, s.ch x y = some ⟨mem, posts⟩ ∧ (∀ a, mem a = true ↔ a = ⟨#[97, 110, 110]⟩ ∨ a = ⟨#[98, 111, 98]⟩) ∧ s.off ⟨#[97, 110, 110]⟩ = false ∧ ∀ a b, ¬ (a = x ∧ b = y) → s.ch a b = none

theorem Gm.start {s : Mo.St} (h : ∀ a b, s.ch a b = if a = ⟨#[119]⟩ ∧ b = ⟨#[99]⟩ then some (Mo.withM Mo.newC ⟨#[97, 110, 110]⟩) else none) (hof : s.off = fun _ => false) : Mo.tells s ⟨2, ⟨#[119]⟩, ⟨#[99]⟩, ⟨#[98, 111, 98]⟩, ⟨#[]⟩, ⟨#[]⟩, ⟨#[]⟩, 0, 0⟩ = ⟨0, 0, []⟩ ∧ Gm (Mo.does s ⟨2, ⟨#[119]⟩, ⟨#[99]⟩, ⟨#[98, 111, 98]⟩, ⟨#[]⟩, ⟨#[]⟩, ⟨#[]⟩, 0, 0⟩) ⟨#[119]⟩ ⟨#[99]⟩ [] := by
  have hm : Mo.may ⟨2, ⟨#[119]⟩, ⟨#[99]⟩, ⟨#[98, 111, 98]⟩, ⟨#[]⟩, ⟨#[]⟩, ⟨#[]⟩, 0, 0⟩ = true := by decide
  have hc : s.ch ⟨#[119]⟩ ⟨#[99]⟩ = some (Mo.withM Mo.newC ⟨#[97, 110, 110]⟩) := by rw [h]; simp
  have ho : s.off ⟨#[98, 111, 98]⟩ = false := by rw [hof]
  have hmm : (Mo.withM Mo.newC ⟨#[97, 110, 110]⟩).mem ⟨#[98, 111, 98]⟩ = false := by decide
  refine ⟨by simp [Mo.tells, hm, hc, ho, hmm], ?_⟩
  have hd : Mo.does s ⟨2, ⟨#[119]⟩, ⟨#[99]⟩, ⟨#[98, 111, 98]⟩, ⟨#[]⟩, ⟨#[]⟩, ⟨#[]⟩, 0, 0⟩ = Mo.setC s ⟨#[119]⟩ ⟨#[99]⟩ (some (Mo.withM (Mo.withM Mo.newC ⟨#[97, 110, 110]⟩) ⟨#[98, 111, 98]⟩)) := by simp [Mo.does, hm, hc, ho, hmm]
  rw [hd]
  refine ⟨(Mo.withM (Mo.withM Mo.newC ⟨#[97, 110, 110]⟩) ⟨#[98, 111, 98]⟩).mem, by simp [Mo.setC, Mo.withM, Mo.newC], fun a => ?_, by show s.off _ = false; rw [hof], fun a b hab => ?_⟩
  · simp only [Mo.withM, Mo.newC]
    by_cases q1 : a = ⟨#[98, 111, 98]⟩
    · simp [q1]
    · by_cases q2 : a = ⟨#[97, 110, 110]⟩
      · simp [q2]
      · simp [q1, q2]
  · simp only [Mo.setC]
    rw [if_neg hab, h, if_neg hab]

theorem Gm.post {s : Mo.St} {posts : List Mo.Po} (h : Gm s ⟨#[119]⟩ ⟨#[99]⟩ posts) (hl : posts.length < 1024) : Mo.tells s ⟨3, ⟨#[119]⟩, ⟨#[99]⟩, ⟨#[97, 110, 110]⟩, ⟨#[120]⟩, ⟨#[]⟩, ⟨#[]⟩, 0, 0⟩ = ⟨0, (posts.length : Int), []⟩ ∧ Gm (Mo.does s ⟨3, ⟨#[119]⟩, ⟨#[99]⟩, ⟨#[97, 110, 110]⟩, ⟨#[120]⟩, ⟨#[]⟩, ⟨#[]⟩, 0, 0⟩) ⟨#[119]⟩ ⟨#[99]⟩ (posts ++ [⟨⟨#[97, 110, 110]⟩, ⟨#[120]⟩⟩]) := by
  obtain ⟨mem, h1, h2, h3, h4⟩ := h
  have hm : Mo.may ⟨3, ⟨#[119]⟩, ⟨#[99]⟩, ⟨#[97, 110, 110]⟩, ⟨#[120]⟩, ⟨#[]⟩, ⟨#[]⟩, 0, 0⟩ = true := by decide
  have hz : Mo.mayPost s ⟨mem, posts⟩ ⟨#[97, 110, 110]⟩ = 0 := by
    unfold Mo.mayPost
    dsimp only
    rw [if_neg (by rw [h3]; decide), if_neg (by rw [(h2 _).2 (.inl rfl)]; decide), if_neg (by omega)]
  refine ⟨by simp [Mo.tells, hm, h1, hz], ?_⟩
  have hd : Mo.does s ⟨3, ⟨#[119]⟩, ⟨#[99]⟩, ⟨#[97, 110, 110]⟩, ⟨#[120]⟩, ⟨#[]⟩, ⟨#[]⟩, 0, 0⟩ = Mo.setC s ⟨#[119]⟩ ⟨#[99]⟩ (some (Mo.withP ⟨mem, posts⟩ ⟨⟨#[97, 110, 110]⟩, ⟨#[120]⟩⟩)) := by simp [Mo.does, hm, h1, hz]
  rw [hd]
  refine ⟨mem, by simp [Mo.setC, Mo.withP], h2, h3, fun a b hab => ?_⟩
  simp only [Mo.setC]
  rw [if_neg hab]
  exact h4 a b hab
theorem Gm.gone {s : Mo.St} {posts : List Mo.Po} (h : Gm s ⟨#[118]⟩ ⟨#[100]⟩ posts) : Mo.tells s ⟨3, ⟨#[119]⟩, ⟨#[99]⟩, ⟨#[97, 110, 110]⟩, ⟨#[120]⟩, ⟨#[]⟩, ⟨#[]⟩, 0, 0⟩ = ⟨3, 0, []⟩ ∧ Mo.does s ⟨3, ⟨#[119]⟩, ⟨#[99]⟩, ⟨#[97, 110, 110]⟩, ⟨#[120]⟩, ⟨#[]⟩, ⟨#[]⟩, 0, 0⟩ = s := by
  obtain ⟨mem, _, _, _, h4⟩ := h
  have hm : Mo.may ⟨3, ⟨#[119]⟩, ⟨#[99]⟩, ⟨#[97, 110, 110]⟩, ⟨#[120]⟩, ⟨#[]⟩, ⟨#[]⟩, 0, 0⟩ = true := by decide
  have hc := h4 ⟨#[119]⟩ ⟨#[99]⟩ (by decide)
  exact ⟨by simp [Mo.tells, hm, hc], by simp [Mo.does, hm, hc]⟩
theorem Gm.move {s : Mo.St} {x y x' y' : ByteArray} {posts : List Mo.Po} (h : Gm s x y posts) (hne : ¬ (x' = x ∧ y' = y)) (hm : Mo.may ⟨5, x, y, ⟨#[]⟩, ⟨#[]⟩, x', y', 0, 0⟩ = true) : Mo.tells s ⟨5, x, y, ⟨#[]⟩, ⟨#[]⟩, x', y', 0, 0⟩ = ⟨0, 0, []⟩ ∧ Gm (Mo.does s ⟨5, x, y, ⟨#[]⟩, ⟨#[]⟩, x', y', 0, 0⟩) x' y' posts := by
  obtain ⟨mem, h1, h2, h3, h4⟩ := h
  have hc := h4 x' y' hne
  refine ⟨by simp [Mo.tells, hm, h1, hc], ?_⟩
  have hd : Mo.does s ⟨5, x, y, ⟨#[]⟩, ⟨#[]⟩, x', y', 0, 0⟩ = Mo.setC (Mo.setC s x y none) x' y' (some ⟨mem, posts⟩) := by simp [Mo.does, hm, h1, hc]
  rw [hd]
  refine ⟨mem, by simp [Mo.setC], h2, h3, fun a b hab => ?_⟩
  simp only [Mo.setC]
  rw [if_neg hab]
  by_cases q : a = x ∧ b = y
  · rw [if_pos q]
  · rw [if_neg q]
    exact h4 a b q
theorem Gm.self {s : Mo.St} {posts : List Mo.Po} (h : Gm s ⟨#[118]⟩ ⟨#[100]⟩ posts) : Mo.tells s ⟨5, ⟨#[118]⟩, ⟨#[100]⟩, ⟨#[]⟩, ⟨#[]⟩, ⟨#[118]⟩, ⟨#[100]⟩, 0, 0⟩ = ⟨90, 0, []⟩ ∧ Mo.does s ⟨5, ⟨#[118]⟩, ⟨#[100]⟩, ⟨#[]⟩, ⟨#[]⟩, ⟨#[118]⟩, ⟨#[100]⟩, 0, 0⟩ = s := by
  obtain ⟨mem, h1, _⟩ := h
  have hm : Mo.may ⟨5, ⟨#[118]⟩, ⟨#[100]⟩, ⟨#[]⟩, ⟨#[]⟩, ⟨#[118]⟩, ⟨#[100]⟩, 0, 0⟩ = true := by decide
  exact ⟨by simp [Mo.tells, hm, h1], by simp [Mo.does, hm, h1]⟩

end Go.Proofs.Ytkioeahlajjmiaa
