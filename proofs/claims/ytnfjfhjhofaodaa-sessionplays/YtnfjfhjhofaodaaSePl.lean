/-
  Both tables side by side, and a copy of each: the state of the law SessionPlays. A box of two slices is written: blocks with a cell that is no slice stay.
-/
import Derived.Test.YtnfjfhjhofaodaaSeTold
namespace Go.Proofs.Ytnfjfhjhofaodaa
open Go.RowKit

def NoSl (x : Value) : Prop := ∀ p n c, x ≠ .slice p n c
theorem NoSl.int (k : IntKind) (i : Int) : NoSl (.int k i) := fun _ _ _ e => by cases e
theorem NoSl.str (s : ByteArray) : NoSl (.string s) := fun _ _ _ e => by cases e
theorem NoSl.map (m : Option Nat) : NoSl (.map m) := fun _ _ _ e => by cases e

/-- w' has every block of w that has a cell that is no slice. -/
def KpS (w w' : World) : Prop := ∀ k, (∃ o sp x, w.cell? ⟨k, o, sp⟩ = some x ∧ NoSl x) → w'.heap[k]? = w.heap[k]?

theorem PoR.kp {w w' : World} {v : Value} {ps : List Mo.Po} (h : PoR w v ps) (hk : KpS w w') : PoR w' v ps := by
  obtain ⟨p, c, hv, h2, h3, h4, h5⟩ := h
  refine ⟨p, c, hv, h2, h3, h4, fun a ha j x hx => ?_⟩
  have hc := h5 a ha j x hx
  have hs : NoSl x := by
    have hm := List.mem_of_getElem? hx
    unfold poCells at hm
    obtain ⟨e, _, he⟩ := List.mem_flatMap.1 hm
    simp at he
    rcases he with rfl | rfl
    · exact NoSl.str _
    · exact NoSl.str _
  rw [World.cell?_of_block (a := a.add j) (hk (a.add j).block ⟨(a.add j).off, (a.add j).spot, x, hc, hs⟩)]
  exact hc
theorem Rd.kp {α : Type} {f : α → List Value} {w w' : World} {v : Value} {n : Nat} {l : List α} (h : Rd w v n (l.flatMap f)) (hf : ∀ x, ∃ y r, f x = y :: r ∧ NoSl y) (hk : KpS w w') : Rd w' v n (l.flatMap f) := by
  obtain ⟨p, c, hv, h2, h3, h4, h5⟩ := h
  refine ⟨p, c, hv, h2, h3, h4, fun a ha j x hx => ?_⟩
  have hc := h5 a ha j x hx
  cases l with
  | nil => simp at hx
  | cons q l =>
    obtain ⟨y, r, hy, hn⟩ := hf q
    have h0 := h5 a ha 0 y (by rw [List.flatMap_cons, hy]; rfl)
    have hb := hk (a.add 0).block ⟨(a.add 0).off, (a.add 0).spot, y, h0, hn⟩
    have hb' : w'.heap[(a.add j).block]? = w.heap[(a.add j).block]? := by rw [add_block] at hb ⊢; exact hb
    rw [World.cell?_of_block (a := a.add j) hb']
    exact hc
theorem Tb.kp {w w' : World} {B mb : Nat} {s : Se.St} (h : Tb w B mb s) (hk : KpS w w') (hm : w'.heap[mb]? = w.heap[mb]?) : Tb w' B mb s := by
  obtain ⟨m, h1, h2⟩ := h.map
  refine ⟨by rw [World.cell?_of_block (a := ⟨B, 0, none⟩) (hk B ⟨0, none, _, h.c0, NoSl.map _⟩)]; exact h.c0, ⟨m, h1.carry hm, ?_⟩, h.len⟩
  exact h2.imp fun v l hl => by
    obtain ⟨pv, e1, e2, e3⟩ := hl
    exact ⟨pv, e1, e2.kp hk, e3⟩
theorem RT.kp {w w' : World} {v : Value} {t : List Row} (h : RT w v t) (hk : KpS w w') : RT w' v t := by
  obtain ⟨vi, vr, h1, h2, h3⟩ := h.val
  exact ⟨⟨vi, vr, h1, h2.kp (fun x => ⟨_, _, rfl, NoSl.int _ _⟩) hk, h3.kp (fun x => ⟨_, _, rfl, NoSl.int _ _⟩) hk⟩, fun p hp => (h.posts p hp).kp hk, h.rise, h.len⟩

/-- A box of two slices. -/
structure Box2 (X : World) (b : Nat) (vi vr : Value) : Prop where
  c0 : X.cell? ⟨b, 0, none⟩ = some vi
  c1 : X.cell? ⟨b, 1, none⟩ = some vr
  f0 : X.frozen? ⟨b, 0, none⟩ = false
  f1 : X.frozen? ⟨b, 1, none⟩ = false
  only : ∀ o sp x, X.cell? ⟨b, o, sp⟩ = some x → sp = none ∧ o < 2
  si : ∃ p n c, vi = .slice p n c
  sr : ∃ p n c, vr = .slice p n c

section
variable {X Y : World} {b : Nat} {vi vr : Value}
theorem Box2.lt (h : Box2 X b vi vr) : b < X.heap.size := World.block_lt_of_cell? X _ h.c0
theorem Box2.keep (h : Box2 X b vi vr) (hb : Y.heap[b]? = X.heap[b]?) : Box2 Y b vi vr :=
  ⟨by rw [World.cell?_of_block (a := ⟨b, 0, none⟩) hb]; exact h.c0, by rw [World.cell?_of_block (a := ⟨b, 1, none⟩) hb]; exact h.c1, by rw [World.frozen?_of_block (a := ⟨b, 0, none⟩) hb]; exact h.f0, by rw [World.frozen?_of_block (a := ⟨b, 1, none⟩) hb]; exact h.f1, fun o sp x hx => h.only o sp x (by rw [← World.cell?_of_block (a := ⟨b, o, sp⟩) hb]; exact hx), h.si, h.sr⟩
theorem Box2.below (h : Box2 X b vi vr) (hb : Below X.heap.size X Y) : Box2 Y b vi vr := h.keep (hb.block b h.lt)
theorem Box2.ne (h : Box2 X b vi vr) {k o : Nat} {sp : Option Nat} {x : Value} (hx : X.cell? ⟨k, o, sp⟩ = some x) (hn : NoSl x) : k ≠ b := by
  rintro rfl
  obtain ⟨rfl, ho⟩ := h.only o sp x hx
  obtain ⟨p, n, c, e⟩ := h.si
  obtain ⟨p', n', c', e'⟩ := h.sr
  match o, ho with
  | 0, _ => rw [h.c0] at hx; injection hx with hx; exact hn p n c (by rw [← hx, e])
  | 1, _ => rw [h.c1] at hx; injection hx with hx; exact hn p' n' c' (by rw [← hx, e'])
theorem Box2.kp (h : Box2 X b vi vr) (x y : Value) : KpS X (fin2 X b x y) := fun _ ⟨_, _, _, hx, hn⟩ => fin2_other (h.ne hx hn) _ _
theorem Box2.noMap (h : Box2 X b vi vr) {mb : Nat} {m : List (Int × Value)} (hm : Mi X mb m) : mb ≠ b := by
  rintro rfl
  have := h.c0
  rw [hm.noCell] at this
  cases this
theorem cell_set {w : World} {b o q : Nat} {sp : Option Nat} {y : Value} (x : Value) (h : w.cell? ⟨b, o, none⟩ = some y) : (w.setCell ⟨b, o, none⟩ x).cell? ⟨b, q, sp⟩ = if (⟨b, q, sp⟩ : Addr) = ⟨b, o, none⟩ then some x else w.cell? ⟨b, q, sp⟩ := by
  split
  · rename_i e
    rw [e]
    exact World.cell?_setCell_same _ _ _ (by rw [h])
  · rename_i e
    exact World.cell?_setCell_other _ _ _ _ (fun e' => e e'.symm)
theorem Box2.fin (h : Box2 X b vi vr) (p : Option Addr) (n c : Nat) (p' : Option Addr) (n' c' : Nat) : Box2 (fin2 X b (.slice p n c) (.slice p' n' c')) b (.slice p n c) (.slice p' n' c') := by
  have k1 : (X.setCell ⟨b, 0, none⟩ (.slice p n c)).cell? ⟨b, 1, none⟩ = some vr := by rw [cell_set6 _ h.c0, if_neg (by omega)]; exact h.c1
  refine ⟨?_, ?_, ?_, ?_, fun o sp x hx => ?_, ⟨_, _, _, rfl⟩, ⟨_, _, _, rfl⟩⟩
  · unfold fin2
    rw [cell_set6 _ k1, if_neg (by omega), cell_set6 _ h.c0, if_pos rfl]
  · unfold fin2
    rw [cell_set6 _ k1, if_pos rfl]
  · unfold fin2
    rw [World.frozen?_setCell, World.frozen?_setCell]
    exact h.f0
  · unfold fin2
    rw [World.frozen?_setCell, World.frozen?_setCell]
    exact h.f1
  · unfold fin2 at hx
    rw [cell_set _ k1] at hx
    split at hx
    · rename_i e
      injection e with _ e1 e2
      exact ⟨e2, by omega⟩
    · rw [cell_set _ h.c0] at hx
      split at hx
      · rename_i e
        injection e with _ e1 e2
        exact ⟨e2, by omega⟩
      · exact h.only o sp x hx
theorem Box2.made (X : World) (p : Option Addr) (n c : Nat) (p' : Option Addr) (n' c' : Nat) (t : TypeId) : Box2 (X.alloc (.cells #[.slice p n c, .slice p' n' c'] t)) X.heap.size (.slice p n c) (.slice p' n' c') := by
  refine ⟨World.cell?_alloc_mark X _ _ _ 0, World.cell?_alloc_mark X _ _ _ 1, ?_, ?_, fun o sp x hx => ?_, ⟨_, _, _, rfl⟩, ⟨_, _, _, rfl⟩⟩
  · rw [World.frozen?_alloc_mark]; simp
  · rw [World.frozen?_alloc_mark]; simp
  · have hs : sp = none := World.cell?_spot hx
    subst hs
    rw [World.cell?_alloc_mark] at hx
    refine ⟨rfl, ?_⟩
    have := (Array.getElem?_eq_some_iff.1 hx).1
    simpa using this
end

/-- The copy, and what the document's table was then. -/
def Cp (mb b5 : Nat) (cv : Value) (X : World) : Prop :=
  (cv = .pointer none ∧ ∃ ui ur, Box2 X b5 ui ur) ∨ ∃ B2 mb2 t2 ui ur, cv = .pointer (some ⟨B2, 0, none⟩) ∧ Tb X B2 mb2 (bare t2) ∧ mb2 ≠ mb ∧ Box2 X b5 ui ur ∧ RT X (.agg #[ui, ur]) t2 ∧ MayAll (bare t2)

section
variable {w X Y : World} {B mb b4 b5 : Nat} {cv : Value}
theorem Cp.box (h : Cp mb b5 cv X) : ∃ ui ur, Box2 X b5 ui ur := by
  rcases h with ⟨_, h⟩ | ⟨_, _, _, ui, ur, _, _, _, h, _⟩
  · exact h
  · exact ⟨ui, ur, h⟩
theorem Cp.below (h : Cp mb b5 cv X) (hb : Below X.heap.size X Y) : Cp mb b5 cv Y := by
  rcases h with ⟨e, ui, ur, h⟩ | ⟨B2, mb2, t2, ui, ur, e, h1, h2, h3, h4, h5⟩
  · exact .inl ⟨e, ui, ur, h.below hb⟩
  · exact .inr ⟨B2, mb2, t2, ui, ur, e, h1.below hb, h2, h3.below hb, h4.below hb, h5⟩
/-- A table is put into: its map alone is written. -/
theorem grown_kp {s : Se.St} (h : Tb X B mb s) (hg : X.grownBy Y (some mb)) : KpS X Y := fun k ⟨_, _, _, hx, _⟩ => hg.block k (World.block_lt_of_cell? X _ hx) (fun e => h.ne hx (by injection e))
theorem Box2.grown {s : Se.St} {b : Nat} {vi vr : Value} (h : Box2 X b vi vr) (ht : Tb X B mb s) (hg : X.grownBy Y (some mb)) : Box2 Y b vi vr := h.keep (hg.block b h.lt (fun e => ht.ne h.c0 (by injection e)))
theorem Cp.grown {s : Se.St} (h : Cp mb b5 cv X) (ht : Tb X B mb s) (hg : X.grownBy Y (some mb)) : Cp mb b5 cv Y := by
  have hk := grown_kp ht hg
  rcases h with ⟨e, ui, ur, h⟩ | ⟨B2, mb2, t2, ui, ur, e, h1, h2, h3, h4, h5⟩
  · exact .inl ⟨e, ui, ur, h.grown ht hg⟩
  · exact .inr ⟨B2, mb2, t2, ui, ur, e, ht.other h1 h2 hg, h2, h3.grown ht hg, h4.kp hk, h5⟩
theorem Cp.fin {vi vr : Value} (h : Cp mb b5 cv X) (hb : Box2 X b4 vi vr) (hne : b5 ≠ b4) (x y : Value) : Cp mb b5 cv (fin2 X b4 x y) := by
  have hk := hb.kp x y
  rcases h with ⟨e, ui, ur, h⟩ | ⟨B2, mb2, t2, ui, ur, e, h1, h2, h3, h4, h5⟩
  · exact .inl ⟨e, ui, ur, h.keep (fin2_other hne _ _)⟩
  · obtain ⟨m, hm, _⟩ := h1.map
    exact .inr ⟨B2, mb2, t2, ui, ur, e, h1.kp hk (fin2_other (hb.noMap hm) _ _), h2, h3.keep (fin2_other hne _ _), h4.kp hk, h5⟩

/-- The whole. -/
structure Pst (w : World) (B mb b4 b5 : Nat) (cv : Value) (X : World) : Prop where
  st : ∃ t vi vr, Ts w X B mb (bare t) ∧ Box2 X b4 vi vr ∧ RT X (.agg #[vi, vr]) t ∧ MayAll (bare t)
  cp : Cp mb b5 cv X
  ne : b5 ≠ b4 ∧ w.heap.size ≤ b4 ∧ w.heap.size ≤ b5
theorem Pst.below (h : Pst w B mb b4 b5 cv X) (hb : Below X.heap.size X Y) : Pst w B mb b4 b5 cv Y := by
  obtain ⟨t, vi, vr, h1, h2, h3, h4⟩ := h.st
  exact ⟨⟨t, vi, vr, h1.below hb, h2.below hb, h3.below hb, h4⟩, h.cp.below hb, h.ne⟩
theorem Pst.old (h : Pst w B mb b4 b5 cv X) : Below w.heap.size w X := by
  obtain ⟨_, _, _, h1, _⟩ := h.st
  exact h1.old
theorem Pst.begin (h : Ts w X B mb []) : Pst w B mb X.heap.size (X.heap.size + 1) (.pointer none) ((X.alloc (.cells #[.slice none 0 0, .slice none 0 0] 43)).alloc (.cells #[.slice none 0 0, .slice none 0 0] 43)) := by
  obtain ⟨X1, hX1⟩ : ∃ X1, X1 = X.alloc (.cells #[.slice none 0 0, .slice none 0 0] 43) := ⟨_, rfl⟩
  have hb1 : Below X.heap.size X X1 := by rw [hX1]; exact below_alloc _ _
  have k1 : Box2 X1 X.heap.size (.slice none 0 0) (.slice none 0 0) := by rw [hX1]; exact Box2.made _ _ _ _ _ _ _ _
  have hs : X1.heap.size = X.heap.size + 1 := by rw [hX1]; simp
  rw [← hX1]
  have hb2 := below_alloc X1 (.cells #[.slice none 0 0, .slice none 0 0] 43)
  have k2 := Box2.made X1 none 0 0 none 0 0 43
  rw [hs] at k2
  have := h.old.size
  exact ⟨⟨[], _, _, (h.below hb1).below hb2, k1.below hb2, RT.nil _, fun p hp => by cases hp⟩, .inl ⟨rfl, _, _, k2⟩, by omega⟩

/-- Both were put into, and the document's new table is noted. -/
theorem Pst.put {t t' : List Row} {vi vr : Value} {p : Option Addr} {n c : Nat} {p' : Option Addr} {n' c' : Nat} {a b : Int} {r : Mo.Re} (hne : b5 ≠ b4 ∧ w.heap.size ≤ b4 ∧ w.heap.size ≤ b5) (hT : Ts w X B mb (bare t)) (hB : Box2 X b4 vi vr) (hm : MayAll (bare t)) (hC : Cp mb b5 cv X) (hR : RT X (.agg #[.slice p n c, .slice p' n' c']) t') (he : bare t' = Se.put (bare t) a b r) (hY : Ts w Y B mb (Se.put (bare t) a b r)) (hg : X.grownBy Y (some mb)) : Pst w B mb b4 b5 cv (fin2 Y b4 (.slice p n c) (.slice p' n' c')) := by
  have hBY := hB.grown hT.tb hg
  have hk := hBY.kp (.slice p n c) (.slice p' n' c')
  obtain ⟨m, hmi, _⟩ := hY.tb.map
  refine ⟨⟨t', _, _, ⟨fin2_below hY.old hne.2.1 _ _, ?_, hY.new⟩, hBY.fin _ _ _ _ _ _, (hR.kp (grown_kp hT.tb hg)).kp hk, by rw [he]; exact hm.put a b r⟩, (hC.grown hT.tb hg).fin hBY hne.1 _ _, hne⟩
  rw [he]
  exact hY.tb.kp hk (fin2_other (hBY.noMap hmi) _ _)

/-- A copy is made, and the document's table is noted. -/
theorem Pst.copied {t : List Row} {p : Option Addr} {n c : Nat} {p' : Option Addr} {n' c' : Nat} {B2 : Nat} (h : Pst w B mb b4 b5 cv X) (hT : Ts w X B mb (bare t)) (hB : Box2 X b4 (.slice p n c) (.slice p' n' c')) (hR : RT X (.agg #[.slice p n c, .slice p' n' c']) t) (hm : MayAll (bare t)) (h2 : Tb Y B2 X.heap.size (bare t)) (hb : Below X.heap.size X Y) : Pst w B mb b4 b5 (.pointer (some ⟨B2, 0, none⟩)) (fin2 Y b5 (.slice p n c) (.slice p' n' c')) := by
  obtain ⟨ui, ur, hb5⟩ := (h.cp.below hb).box
  have hk := hb5.kp (.slice p n c) (.slice p' n' c')
  have hTY := hT.below hb
  obtain ⟨m, hmi, _⟩ := hTY.tb.map
  obtain ⟨m2, hmi2, _⟩ := h2.map
  have hRY := (hR.below hb).kp hk
  refine ⟨⟨t, _, _, ⟨fin2_below hTY.old h.ne.2.2 _ _, hTY.tb.kp hk (fin2_other (hb5.noMap hmi) _ _), hTY.new⟩, (hB.below hb).keep (fin2_other (Ne.symm h.ne.1) _ _), hRY, hm⟩, .inr ⟨B2, X.heap.size, t, _, _, rfl, h2.kp hk (fin2_other (hb5.noMap hmi2) _ _), ?_, hb5.fin _ _ _ _ _ _, hRY, hm⟩, h.ne⟩
  have := hT.tb.lt.2
  omega
end

end Go.Proofs.Ytnfjfhjhofaodaa
