/-
  A raft node in memory: its block, its log, its records' row, its map; what of the world stays as it was while it is used; its calls that read alone.
-/
import Derived.Test.YteaopnhjndnpnaaRlSlice
import Derived.Test.YteaopnhjndnpnaaNdMath
namespace Go.Proofs.Yteaopnhjndnpnaa
open Go.RowKit

/-- Records as cells. -/
def recOne (g : Int) (r : N.Rec) : List Value := [.int .i64 g, .int .i64 r.kind, .int .i64 r.index, .int .i64 r.term, .int .i64 r.vote, .string r.data]
def recCells (g : Int) (l : List N.Rec) : List Value := l.flatMap (recOne g)
theorem recCells_len (g : Int) (l : List N.Rec) : (recCells g l).length = l.length * 6 := by
  induction l with
  | nil => rfl
  | cons e l ih => rw [recCells, List.flatMap_cons, List.length_append, ← recCells, ih]; simp [recOne]; omega
theorem recCells_snoc (g : Int) (l : List N.Rec) (r : N.Rec) : recCells g (l ++ [r]) = recCells g l ++ recOne g r := by simp [recCells]
theorem recCells_append (g : Int) (l l' : List N.Rec) : recCells g (l ++ l') = recCells g l ++ recCells g l' := by simp [recCells]
theorem recCells_cons (g : Int) (r : N.Rec) (l : List N.Rec) : recCells g (r :: l) = recOne g r ++ recCells g l := by simp [recCells]
theorem recCells_one (g : Int) (l : List N.Rec) : ∀ u ∈ recCells g l, u.oneCell' = true := by
  intro u hu
  unfold recCells at hu
  rw [List.mem_flatMap] at hu
  obtain ⟨e, _, h⟩ := hu
  simp [recOne] at h
  rcases h with rfl | rfl | rfl | rfl | rfl | rfl <;> rfl

/-- A function as a value. -/
def fnT (f : Nat) : Value := .func (.func f) #[] #[]
/-- What is done with a message, by its kind. -/
def takeList : List MapEntry := [⟨.int .i64 1, fnT 67, 0⟩, ⟨.int .i64 2, fnT 68, 1⟩, ⟨.int .i64 3, fnT 69, 2⟩, ⟨.int .i64 4, fnT 70, 3⟩, ⟨.int .i64 5, fnT 71, 4⟩]
def takeMap : Obj := .map takeList.toArray 5

def bools (l : List Bool) : List Value := l.map Value.bool
def ints (l : List Int) : List Value := l.map (Value.int .i64)

/-- A node's cells. -/
def ndCells (s : N.St) (LB MB : Nat) (rv : Value) : List Value :=
  .int .i64 s.group :: .int .i64 (s.id : Int) :: .int .i64 (s.nodes : Int) :: .map (some MB) :: .pointer (some ⟨LB, 0, none⟩) :: .string s.data :: .int .i64 s.term :: .int .i64 s.vote :: .int .i64 s.role :: .int .i64 s.lead :: .int .i64 s.commit :: .int .i64 s.wait :: .int .i64 s.left :: (bools s.voted ++ (ints s.next ++ (ints s.mtch ++ [rv])))

/-- The sizes of a node's tables. -/
structure Sz (s : N.St) : Prop where
  id : s.id < s.nodes
  nodes : s.nodes ≤ 7
  v : s.voted.length = 7
  n : s.next.length = 7
  m : s.mtch.length = 7

/-- Block B holds a node; its log lies in LB, its map in MB, its records' slice is rv. -/
structure NdV (w : World) (B : Nat) (s : N.St) (own : Nat → Prop) (LB MB : Nat) (ol : Nat → Prop) (rv : Value) : Prop where
  lt : B < w.heap.size
  cells : ∀ j, w.cell? ⟨B, j, none⟩ = (ndCells s LB MB rv)[j]?
  fz : ∀ j, j < 35 → w.frozen? ⟨B, j, none⟩ = false
  map : w.heap[MB]? = some takeMap
  log : Lg w LB s.log ol
  row : RowC w 6 rv s.recs.length (recCells s.group s.recs)
  oL : own LB
  oM : own MB
  olo : ∀ k, ol k → own k
  orv : ∀ k, cBlk rv = some k → own k
  sM : MB ≠ LB ∧ ¬ ol MB
  srv : ∀ k, cBlk rv = some k → k ≠ LB ∧ k ≠ MB ∧ ¬ ol k
  here : ∀ k, own k → k < w.heap.size ∧ k ≠ B
  sz : Sz s

def Nd (w : World) (B : Nat) (s : N.St) (own : Nat → Prop) : Prop := ∃ LB MB ol rv, NdV w B s own LB MB ol rv

section
variable {w : World} {B : Nat} {s : N.St} {own : Nat → Prop} {LB MB : Nat} {ol : Nat → Prop} {rv : Value}

theorem NdV.carry {w' : World} (h : NdV w B s own LB MB ol rv) (hs : w.heap.size ≤ w'.heap.size) (hb : w'.heap[B]? = w.heap[B]?) (ho : ∀ k, own k → w'.heap[k]? = w.heap[k]?) : NdV w' B s own LB MB ol rv :=
  ⟨Nat.lt_of_lt_of_le h.lt hs, fun j => (World.cell?_of_block (a := ⟨B, j, none⟩) hb).trans (h.cells j), fun j hj => (World.frozen?_of_block (a := ⟨B, j, none⟩) hb).trans (h.fz j hj),
    (ho MB h.oM).trans h.map, h.log.carry hs (ho LB h.oL) (fun k hk => ho k (h.olo k hk)), h.row.carry (fun k hk => ho k (h.orv k hk)), h.oL, h.oM, h.olo, h.orv, h.sM, h.srv,
    fun k hk => ⟨Nat.lt_of_lt_of_le (h.here k hk).1 hs, (h.here k hk).2⟩, h.sz⟩
theorem NdV.below {w' : World} (h : NdV w B s own LB MB ol rv) (hb : Below w.heap.size w w') : NdV w' B s own LB MB ol rv := h.carry hb.size (hb.block B h.lt) (fun k hk => hb.block k (h.here k hk).1)
theorem NdV.wider {own' : Nat → Prop} (h : NdV w B s own LB MB ol rv) (ho : ∀ k, own k → own' k) (hh : ∀ k, own' k → k < w.heap.size ∧ k ≠ B) : NdV w B s own' LB MB ol rv :=
  ⟨h.lt, h.cells, h.fz, h.map, h.log, h.row, ho _ h.oL, ho _ h.oM, fun k hk => ho k (h.olo k hk), fun k hk => ho k (h.orv k hk), h.sM, h.srv, hh, h.sz⟩
theorem Nd.below {w' : World} (h : Nd w B s own) (hb : Below w.heap.size w w') : Nd w' B s own := by
  obtain ⟨LB, MB, ol, rv, h⟩ := h
  exact ⟨LB, MB, ol, rv, h.below hb⟩
theorem Nd.lt (h : Nd w B s own) : B < w.heap.size := by obtain ⟨_, _, _, _, h⟩ := h; exact h.lt
theorem Nd.here (h : Nd w B s own) : ∀ k, own k → k < w.heap.size ∧ k ≠ B := by obtain ⟨_, _, _, _, h⟩ := h; exact h.here
theorem Nd.sz (h : Nd w B s own) : Sz s := by obtain ⟨_, _, _, _, h⟩ := h; exact h.sz
theorem Nd.ok (h : Nd w B s own) : G.Ok s.log := by obtain ⟨_, _, _, _, h⟩ := h; exact h.log.ok
theorem Nd.wider {own' : Nat → Prop} (h : Nd w B s own) (ho : ∀ k, own k → own' k) (hh : ∀ k, own' k → k < w.heap.size ∧ k ≠ B) : Nd w B s own' := by
  obtain ⟨LB, MB, ol, rv, h⟩ := h
  exact ⟨LB, MB, ol, rv, h.wider ho hh⟩

/-- What a call of a node leaves: it owns what it owned, and new blocks. -/
def AftN (own : Nat → Prop) (w w' : World) (B : Nat) (s : N.St) (own' : Nat → Prop) : Prop := Nd w' B s own' ∧ KeptB B own w w' ∧ ∀ k, own' k → own k ∨ w.heap.size ≤ k

theorem AftN.same {w' : World} (h : Nd w B s own) (hb : Below w.heap.size w w') : AftN own w w' B s own := ⟨h.below hb, KeptB.ofBelow hb, fun _ hk => .inl hk⟩
theorem AftN.from {u w' : World} {s' : N.St} {own' : Nat → Prop} (hb : Below w.heap.size w u) (h : AftN own u w' B s' own') : AftN own w w' B s' own' := by
  obtain ⟨h1, h2, h3⟩ := h
  refine ⟨h1, (KeptB.ofBelow hb).trans h2 (fun _ _ e => e), fun k hk => ?_⟩
  have := hb.size
  rcases h3 k hk with e | e
  · exact .inl e
  · exact .inr (by omega)
theorem AftN.trans {u w' : World} {s' s'' : N.St} {own' own'' : Nat → Prop} (h1 : AftN own w u B s' own') (h2 : AftN own' u w' B s'' own'') : AftN own w w' B s'' own'' := by
  obtain ⟨a1, a2, a3⟩ := h1
  obtain ⟨b1, b2, b3⟩ := h2
  have := a2.size
  refine ⟨b1, a2.trans b2 (fun k hk e => ?_), fun k hk => ?_⟩
  · rcases a3 k e with q | q
    · exact q
    · omega
  · rcases b3 k hk with q | q
    · exact a3 k q
    · exact .inr (by omega)
theorem AftN.to {u w' : World} {s' : N.St} {own' : Nat → Prop} (h : AftN own w u B s' own') (hb : Below u.heap.size u w') : AftN own w w' B s' own' := h.trans (AftN.same h.1 hb)

/-- A store into one of the node's cells. -/
theorem NdV.set {s' : N.St} (h : NdV w B s own LB MB ol rv) (o : Nat) (v : Value) (ho : o < 35) (hc : (ndCells s LB MB rv).set o v = ndCells s' LB MB rv)
    (hl : s'.log = s.log) (hr : s'.recs = s.recs) (hg : s'.group = s.group) (hz : Sz s') : NdV (w.setCell ⟨B, o, none⟩ v) B s' own LB MB ol rv := by
  have hlen : (ndCells s LB MB rv).length = 35 := by
    have := h.sz.v
    have := h.sz.n
    have := h.sz.m
    simp [ndCells, bools, ints]
    omega
  have hx : w.cell? ⟨B, o, none⟩ = some ((ndCells s LB MB rv)[o]'(by omega)) := by rw [h.cells o]; exact List.getElem?_eq_getElem _
  have hk : ∀ k, k ≠ B → (w.setCell ⟨B, o, none⟩ v).heap[k]? = w.heap[k]? := fun k hk => Below.heap_setCell _ _ _ _ hk
  have hs : (w.setCell ⟨B, o, none⟩ v).heap.size = w.heap.size := size_set6 _ _ _
  refine ⟨by rw [hs]; exact h.lt, fun j => ?_, fun j hj => by rw [World.frozen?_setCell]; exact h.fz j hj, ?_, ?_, ?_, h.oL, h.oM, h.olo, h.orv, h.sM, h.srv, fun k hk => by rw [hs]; exact h.here k hk, hz⟩
  · rw [cell_set6 v hx j, ← hc]
    by_cases e : j = o
    · subst e
      rw [if_pos rfl, List.getElem?_set_self (by omega)]
    · rw [if_neg e, List.getElem?_set_ne (fun q => e q.symm)]
      exact h.cells j
  · rw [hk MB (h.here MB h.oM).2]; exact h.map
  · rw [hl]
    exact h.log.carry (Nat.le_of_eq hs.symm) (hk LB (h.here LB h.oL).2) (fun k q => hk k (h.here k (h.olo k q)).2)
  · rw [hr, hg]
    exact h.row.carry (fun k q => hk k (h.here k (h.orv k q)).2)

theorem NdV.at (h : NdV w B s own LB MB ol rv) (j : Nat) (v : Value) (hv : (ndCells s LB MB rv)[j]? = some v) : w.cell? ⟨B, j, none⟩ = some v := (h.cells j).trans hv

theorem NdV.nd (h : NdV w B s own LB MB ol rv) : Nd w B s own := ⟨LB, MB, ol, rv, h⟩

end

section
variable {w : World} {B : Nat} {s : N.St} {own : Nat → Prop}

theorem made_c (h : Nd w B s own) : Calls Try.prog 28 #[.pointer (some ⟨B, 0, none⟩)] w fun e w' => e = .returned (.bool true) ∧ w' = w := by
  obtain ⟨LB, MB, ol, rv, h⟩ := h
  have h4 := h.at 4 _ rfl
  clear h
  go_enter Try.func28, Try.ntmps28
  go_wp2
  go_ret
  exact ⟨rfl, rfl⟩

theorem Role_c (h : Nd w B s own) : Calls Try.prog 11 #[.pointer (some ⟨B, 0, none⟩)] w fun e w' => e = .returned (.int .i64 s.role) ∧ w' = w := by
  have HM : Hid _ := made_c h
  obtain ⟨LB, MB, ol, rv, h⟩ := h
  have h8 := h.at 8 _ rfl
  clear h
  go_enter Try.func11, Try.ntmps11
  go_wp2_with fail
  refine Calls.mono HM.out ?_
  rintro e w1 ⟨rfl, hw⟩
  subst hw
  go_wp2
  go_ret
  exact ⟨rfl, rfl⟩

theorem Commit_c (h : Nd w B s own) : Calls Try.prog 12 #[.pointer (some ⟨B, 0, none⟩)] w fun e w' => e = .returned (.int .i64 s.commit) ∧ w' = w := by
  have HM : Hid _ := made_c h
  obtain ⟨LB, MB, ol, rv, h⟩ := h
  have h8 := h.at 10 _ rfl
  clear h
  go_enter Try.func12, Try.ntmps12
  go_wp2_with fail
  refine Calls.mono HM.out ?_
  rintro e w1 ⟨rfl, hw⟩
  subst hw
  go_wp2
  go_ret
  exact ⟨rfl, rfl⟩

theorem Left_c (h : Nd w B s own) : Calls Try.prog 22 #[.pointer (some ⟨B, 0, none⟩)] w fun e w' => e = .returned (.int .i64 s.left) ∧ w' = w := by
  have HM : Hid _ := made_c h
  obtain ⟨LB, MB, ol, rv, h⟩ := h
  have h8 := h.at 12 _ rfl
  clear h
  go_enter Try.func22, Try.ntmps22
  go_wp2_with fail
  refine Calls.mono HM.out ?_
  rintro e w1 ⟨rfl, hw⟩
  subst hw
  go_wp2
  go_ret
  exact ⟨rfl, rfl⟩

theorem Lead_c (h : Nd w B s own) : Calls Try.prog 21 #[.pointer (some ⟨B, 0, none⟩)] w fun e w' => e = .returned (.int .i64 s.lead) ∧ w' = w := by
  have HM : Hid _ := made_c h
  obtain ⟨LB, MB, ol, rv, h⟩ := h
  have h8 := h.at 9 _ rfl
  clear h
  go_enter Try.func21, Try.ntmps21
  go_wp2_with fail
  refine Calls.mono HM.out ?_
  rintro e w1 ⟨rfl, hw⟩
  subst hw
  go_wp2
  go_ret
  exact ⟨rfl, rfl⟩

theorem termAtN_c (h : Nd w B s own) (i : Int) : Calls Try.prog 31 #[.pointer (some ⟨B, 0, none⟩), .int .i64 i] w fun e w' => e = .returned (.int .i64 (G.termA s.log i)) ∧ ∃ m, w' = w.drewN m := by
  obtain ⟨LB, MB, ol, rv, h⟩ := h
  have h4 := h.at 4 _ rfl
  have HT : Hid _ := Term_c h.log i
  clear h
  go_enter Try.func31, Try.ntmps31
  go_wp2_with fail
  refine Calls.mono HT.out ?_
  rintro e w1 ⟨rfl, hw⟩
  go_wp2
  go_ret
  exact ⟨rfl, hw⟩

end

theorem waitOf_c (w : World) (d : Int) : Calls Try.prog 48 #[.int .i64 d] w fun e w' => e = .returned (.int .i64 (N.waitOf d)) ∧ w' = w := by
  unfold N.waitOf
  obtain ⟨m, hm⟩ : ∃ m, m = max d 0 := ⟨_, rfl⟩
  rw [← hm]
  have hi : (if (0 : Int) > d then (0 : Int) else d) = m := by rw [hm]; split <;> omega
  have h0 : 0 ≤ m := by omega
  have hr : Int.tmod m 10 = m % 10 := Int.tmod_eq_emod_of_nonneg h0
  have hb : 0 ≤ m % 10 ∧ m % 10 ≤ 9 := by omega
  obtain ⟨r, hr2⟩ : ∃ r, r = m % 10 := ⟨_, rfl⟩
  rw [← hr2] at hr hb ⊢
  have hw : IntKind.i64.wrap (10 + r) = 10 + r := by rw [IntKind.wrap_i64]; omega
  have hw2 : IntKind.i64.wrap r = r := by rw [IntKind.wrap_i64]; omega
  clear hm h0 hr2 hb
  go_enter Try.func48, Try.ntmps48
  go_wp2
  go_ret
  exact ⟨rfl, rfl⟩

end Go.Proofs.Yteaopnhjndnpnaa
