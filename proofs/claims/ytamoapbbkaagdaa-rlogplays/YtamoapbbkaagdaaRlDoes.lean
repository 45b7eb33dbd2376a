/-
  The law package's 'does': a call on both sides, what it answers; kinds that are none.
-/
import Derived.Test.YtamoapbbkaagdaaRlPair
namespace Go.Proofs.Ytamoapbbkaagdaa
open Go.RowKit

/-- What a call of a script makes of a log. -/
def step6 (s : G.L) (x : Op6) : G.L := if x.kind = 1 then G.app s x.e else if x.kind = 2 then G.cut s x.n else if x.kind = 3 then G.cmp s x.n else s

/-- What 'does' answers. -/
def DoesOut (w X : World) (B : Nat) (loc0 : Nat → Prop) (v : Value) (s' : G.L) (e : Ending) (w' : World) : Prop :=
  ∃ v', e = .returned (.tuple #[logV s' v', .bool true]) ∧ (P6 w w' B s' s' v' (fun k => loc0 k ∨ readBlk v' = some k) ∧ (∀ k, loc0 k → w'.heap[k]? = X.heap[k]?) ∧ X.heap.size ≤ w'.heap.size) ∧ ∀ k, readBlk v' = some k → readBlk v = some k ∨ X.heap.size ≤ k

theorem P6.there {w X : World} {B : Nat} {s sq : G.L} {v : Value} {loc : Nat → Prop} (h : P6 w X B s sq v loc) {k : Nat} (hk : loc k) : k < X.heap.size := by
  obtain ⟨own, _, _, _, h4, _⟩ := h
  exact (h4 k hk).1

def opV (x : Op6) : Value := .agg #[.int .i64 x.kind, .int .i64 x.n, .int .i64 x.m, .int .i64 x.e.1, .string x.e.2]

/-- What the list lies in may be held besides. -/
theorem P6.same {w X : World} {B : Nat} {s sq : G.L} {v : Value} {loc : Nat → Prop} (h : P6 w X B s sq v loc) : P6 w X B s sq v (fun k => loc k ∨ readBlk v = some k) := by
  obtain ⟨own, h1, h2, h3, h4, h5, h6, h7⟩ := h
  refine ⟨own, h1, h2, fun k hk => .inr hk, fun k hk => ?_, h5, h6, h7⟩
  rcases hk with e | e
  · exact h4 k e
  · exact h4 k (h3 k e)

section
variable {w X : World} {B : Nat} {s : G.L} {v : Value} {loc0 : Nat → Prop}

theorem readBlk_lt {loc : Nat → Prop} (h : P6 w X B s s v loc) {k : Nat} (hk : readBlk v = some k) : k < X.heap.size := h.ent.lt hk

/-- The facts that each kind's walk wants. -/
theorem below3 (X : World) (a b c : Obj) : Below X.heap.size X (((X.alloc a).alloc b).alloc c) := ((below_alloc _ _).trans ((below_alloc _ _).mono (by simp))).trans ((below_alloc _ _).mono (by simp; omega))

set_option maxHeartbeats 1600000 in
set_option maxRecDepth 20000 in
theorem does_none (h : P6 w X B s s v loc0) (x : Op6) (h1 : x.kind ≠ 1) (h2 : x.kind ≠ 2) (h3 : x.kind ≠ 3) (h4 : x.kind ≠ 4) (h5 : x.kind ≠ 5) (h6 : x.kind ≠ 6) (h7 : x.kind ≠ 7) :
    Calls Try.prog 11 #[.pointer (some ⟨B, 0, none⟩), logV s v, opV x] X (DoesOut w X B loc0 v (step6 s x)) := by
  have hst : step6 s x = s := by unfold step6; rw [if_neg h1, if_neg h2, if_neg h3]
  rw [hst]
  have hent := h.ent
  obtain ⟨p, c, hv, _, _, _⟩ := hent
  obtain ⟨n, hn⟩ : ∃ n, n = s.ents.length := ⟨_, rfl⟩
  rw [← hn] at hv
  subst hv
  obtain ⟨kind, xn, xm, tx, dx⟩ := x
  obtain ⟨b, t, l⟩ := s
  dsimp only at h1 h2 h3 h4 h5 h6 h7
  have HO : Hid (∀ Y, Below X.heap.size X Y → DoesOut w X B loc0 (.slice p n c) ⟨b, t, l⟩ (.returned (.tuple #[.agg #[.int .i64 b, .int .i64 t, .slice p n c], .bool true])) Y) := fun Y hY => ⟨.slice p n c, rfl, ⟨(h.below hY).same, fun k hk => hY.block k (h.there hk), hY.size⟩, fun k hk => .inl hk⟩
  have f1 : (kind == 1) = false := by simpa using h1
  have f2 : (kind == 2) = false := by simpa using h2
  have f3 : (kind == 3) = false := by simpa using h3
  have f4 : (kind == 4) = false := by simpa using h4
  have f5 : (kind == 5) = false := by simpa using h5
  have f6 : (kind == 6) = false := by simpa using h6
  have f7 : (kind == 7) = false := by simpa using h7
  unfold logV opV
  dsimp only
  clear h hn h1 h2 h3 h4 h5 h6 h7
  go_enter Try.func11, Try.ntmps11
  go_wp2
  refine bodyPost_ret (v := .tuple #[.agg #[.int .i64 b, .int .i64 t, .slice p n c], .bool true]) ?qres rfl ?qpost
  case qres => simp [results, Try.results11, go_sem]
  case qpost => exact HO.out _ (below3 _ _ _ _)

end
end Go.Proofs.Ytamoapbbkaagdaa
