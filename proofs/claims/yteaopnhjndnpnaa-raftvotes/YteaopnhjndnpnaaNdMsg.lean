/-
  The messages of a raft node in memory; what it tells the others.
-/
import Derived.Test.YteaopnhjndnpnaaNdNew
namespace Go.Proofs.Yteaopnhjndnpnaa
open Go.RowKit

/-- A message's cells; its entries' slice is v. -/
def msgOne (m : N.Msg) (v : Value) : List Value := [.int .i64 m.kind, .int .i64 m.group, .int .i64 m.frm, .int .i64 m.to, .int .i64 m.term, .int .i64 m.index, .int .i64 m.at_, v, .int .i64 m.commit, .bool m.ok, .string m.data]
def msgV (m : N.Msg) (v : Value) : Value := .agg (msgOne m v).toArray
def msgCells (l : List (N.Msg × Value)) : List Value := l.flatMap fun p => msgOne p.1 p.2

/-- Entries in a row of their own, in blocks that meet P. -/
def EntP (w : World) (P : Nat → Prop) (v : Value) (l : List (Int × ByteArray)) : Prop := RowC w 2 v l.length (entCells l) ∧ ∀ k, cBlk v = some k → P k
/-- Messages in a row, with their entries, in blocks that meet P. -/
def Msgs (w : World) (P : Nat → Prop) (v : Value) (l : List N.Msg) : Prop :=
  ∃ q : List (N.Msg × Value), q.map Prod.fst = l ∧ RowC w 11 v l.length (msgCells q) ∧ (∀ k, cBlk v = some k → P k) ∧ ∀ x ∈ q, EntP w P x.2 x.1.ents

theorem EntP.carry {w w' : World} {P : Nat → Prop} {v : Value} {l : List (Int × ByteArray)} (h : EntP w P v l) (hb : ∀ k, P k → w'.heap[k]? = w.heap[k]?) : EntP w' P v l := ⟨h.1.carry (fun k hk => hb k (h.2 k hk)), h.2⟩
theorem EntP.mono {w : World} {P P' : Nat → Prop} {v : Value} {l : List (Int × ByteArray)} (h : EntP w P v l) (hp : ∀ k, P k → P' k) : EntP w P' v l := ⟨h.1, fun k hk => hp k (h.2 k hk)⟩
theorem EntP.nil (w : World) (P : Nat → Prop) : EntP w P (.slice none 0 0) [] := ⟨RowC.nil _ _ _, fun k hk => by simp [cBlk] at hk⟩
theorem Msgs.carry {w w' : World} {P : Nat → Prop} {v : Value} {l : List N.Msg} (h : Msgs w P v l) (hb : ∀ k, P k → w'.heap[k]? = w.heap[k]?) : Msgs w' P v l := by
  obtain ⟨q, h1, h2, h3, h4⟩ := h
  exact ⟨q, h1, h2.carry (fun k hk => hb k (h3 k hk)), h3, fun x hx => (h4 x hx).carry hb⟩
theorem Msgs.mono {w : World} {P P' : Nat → Prop} {v : Value} {l : List N.Msg} (h : Msgs w P v l) (hp : ∀ k, P k → P' k) : Msgs w P' v l := by
  obtain ⟨q, h1, h2, h3, h4⟩ := h
  exact ⟨q, h1, h2, fun k hk => hp k (h3 k hk), fun x hx => (h4 x hx).mono hp⟩
theorem Msgs.nil (w : World) (P : Nat → Prop) : Msgs w P (.slice none 0 0) [] := ⟨[], rfl, RowC.nil _ _ _, fun k hk => by simp [cBlk] at hk, fun x hx => by simp at hx⟩
theorem Msgs.form {w : World} {P : Nat → Prop} {v : Value} {l : List N.Msg} (h : Msgs w P v l) : ∃ p c, v = .slice p l.length c ∧ l.length ≤ c ∧ c ≤ maxLen := by
  obtain ⟨q, h1, h2, _⟩ := h
  exact h2.form

theorem infoMsg : (Try.prog.info? 48).map (fun i => (i.zero, i.size, i.bytes)) = some (some (.agg #[.int .i64 0, .int .i64 0, .int .i64 0, .int .i64 0, .int .i64 0, .int .i64 0, .int .i64 0, .slice none 0 0, .int .i64 0, .bool false, .string ⟨#[]⟩]), 11, 112) := by kernel_rfl

section
variable {w : World} {B : Nat} {s : N.St} {own : Nat → Prop}

set_option maxHeartbeats 400000 in
theorem message_c (h : Nd w B s own) (k to : Int) : Calls Try.prog 60 #[.pointer (some ⟨B, 0, none⟩), .int .i64 k, .int .i64 to] w fun e w' => e = .returned (msgV (N.msg s k to) (.slice none 0 0)) ∧ Below w.heap.size w w' := by
  obtain ⟨LB, MB, ol, rv, h⟩ := h
  have h0 := h.at 0 _ rfl
  have h1 := h.at 1 _ rfl
  have h6 := h.at 6 _ rfl
  have hlt := h.lt
  clear h
  go_enter Try.func60, Try.ntmps60
  go_wp2
  go_region
  go_wp2
  have hc : ∀ j, (w.alloc (.cells (msgOne (N.msg s k to) (.slice none 0 0)).toArray 48)).drew.cell? ⟨w.heap.size, j, none⟩ = (msgOne (N.msg s k to) (.slice none 0 0))[j]? := fun j => (World.cell?_alloc_mark w _ _ _ j).trans (List.getElem?_toArray)
  have z0 := hc 0
  have z1 := hc 1
  have z2 := hc 2
  have z3 := hc 3
  have z4 := hc 4
  have z5 := hc 5
  have z6 := hc 6
  have z7 := hc 7
  have z8 := hc 8
  have z9 := hc 9
  have z10 := hc 10
  unfold N.msg msgOne at *
  dsimp only at *
  refine bodyPost_ret (v := msgV (N.msg s k to) (.slice none 0 0)) ?qres rfl ?qpost
  case qres => simp [results, Try.results60, go_sem, z0, z1, z2, z3, z4, z5, z6, z7, z8, z9, z10, msgV, N.msg, msgOne]
  case qpost => exact ⟨rfl, (below_alloc _ _).drew⟩

end
end Go.Proofs.Yteaopnhjndnpnaa
