/-
  One element behind a row of the call's own, of whatever elements of one cell: what append leaves, and where it lies; in a plain region and in one that draws its order.
-/
import Derived.Deep.RegionLaw
import Derived.Test.YtncchapgoedncaaDkRow
namespace Go.Proofs.Ytncchapgoedncaa
open Go.RowKit

theorem run_append_cells {P : Program} (w : World) (base : Nat) (t tx ty e : TypeId) (ht : P.underlying t = some (.slice e)) (z : Value) (bytes : Nat)
    (hinfo : (P.info? e).map (fun i => (i.zero, i.size, i.bytes)) = some (some z, 1, bytes)) (hzs : z.cells.size = 1)
    (v : Value) (xs : List Value) (hown : w.ownsRow base e 1 v xs.length xs) (x : Value) (news : List Value) (hs : Src P 1 tx x news.length news w)
    (hlen : (xs.length + news.length) * bytes ≤ 140737488355328) (hmax : xs.length + news.length ≤ maxLen) (hbase : base ≤ w.heap.size) :
    ∃ v' w', (Builtin.append_ #[t, tx] ty #[v, x]).run P w = .ok v' w' ∧ w'.ownsRow base e 1 v' (xs ++ news).length (xs ++ news) ∧ w.grownBy w' v.ownBlock ∧
      (∀ k, v'.ownBlock = some k → v.ownBlock = some k ∨ w.heap.size ≤ k) := by
  obtain ⟨i, hi, hz0, hz1, hz2⟩ := info_parts hinfo
  rw [← hz1] at hs
  have h63 : xs.length + news.length ≤ 9223372036854775807 := by unfold maxLen at hmax; omega
  have grown : ∀ (bs : Option Addr) (old : Nat), (old < xs.length + news.length) → (Builtin.firstCells i.size xs.length (.slice bs xs.length old)).run P w.drew = .ok xs.toArray w.drew →
      ∃ v' w', (Builtin.append_ #[t, tx] ty #[.slice bs xs.length old, x]).run P w = .ok v' w' ∧ w'.ownsRow base e 1 v' (xs ++ news).length (xs ++ news) ∧ w.grownBy w' (Value.ownBlock (.slice bs xs.length old)) ∧
      (∀ k, v'.ownBlock = some k → (Value.slice bs xs.length old).ownBlock = some k ∨ w.heap.size ≤ k) := by
    intro bs old ho hold
    have hr := run_append_grow_src (P := P) w t tx ty e i z ht hi hz0 bs xs.length old xs hold x news.length news hs ho (by omega) (growslice_fits (by omega) (by rw [hz2]; exact hlen))
    refine ⟨_, _, hr, ?_, ⟨rfl, rfl, rfl, by simp, fun k hk _ => Below.heap_alloc w.drew _ k hk⟩, ?_⟩
    · have hge := grownCap_ge w (xs.length + news.length) old e
      have hcm : grownCap w (xs.length + news.length) old e ≤ maxLen := grownCap_le_maxLen w _ old e hmax
      refine ⟨by simp, .inr ⟨w.heap.size, _, _, by rw [List.length_append], hbase, heap_alloc_new w.drew _, by rw [List.length_append]; exact hge, hcm, ?_, ?_⟩⟩
      · simp only [Array.size_append, List.size_toArray, size_zeroCells, List.length_append, hzs]
        omega
      · simp only [Array.toList_append, Nat.mul_one]
        exact List.take_left
    · intro k hk
      simp [Value.ownBlock] at hk
      exact .inr (by omega)
  obtain ⟨h1, hn | ⟨g, cap, cur, hv, hbg, hg, hnc, hcm, hcs, htk⟩⟩ := hown
  · obtain ⟨rfl, hl0⟩ := hn
    have hl : xs = [] := List.eq_nil_of_length_eq_zero hl0
    subst hl
    cases news with
    | nil =>
      refine ⟨_, _, run_append_nil_none w t tx ty e i ht hi x _ hs, World.ownsRow_nil w base e 1, ⟨rfl, rfl, rfl, Nat.le_refl _, fun _ _ _ => rfl⟩, fun k hk => .inl hk⟩
    | cons a r =>
      exact grown none 0 (by simp) (run_firstCells_none w.drew _ 0 0 0)
  · subst hv
    by_cases hroom : xs.length + news.length ≤ cap
    · have hr := run_append_room_row (P := P) w t tx ty e i ht hi g xs.length cap cur hg x news.length news hs hroom (by rw [hz1, hcs]; omega)
      refine ⟨_, _, hr, ?_, ⟨rfl, rfl, rfl, by simp, fun k _ hk => setRow_other w g k _ (fun e => hk (by simp [Value.ownBlock, e]))⟩, fun k hk => .inl hk⟩
      refine ⟨by simp, .inr ⟨g, cap, _, by rw [List.length_append], hbg, setRow_heap w g cur _ e _ hg, by rw [List.length_append]; exact hroom, hcm, ?_, ?_⟩⟩
      · rw [hz1]
        simp only [List.size_toArray, List.length_append, List.length_take, List.length_drop, Array.length_toList]
        omega
      · rw [hz1]
        simp only [Nat.mul_one] at htk ⊢
        rw [htk]
        exact List.take_left
    · refine grown (some ⟨g, 0, none⟩) cap (by omega) ?_
      have holds : ∀ j u, xs[j]? = some u → w.drew.cell? ((⟨g, 0, none⟩ : Addr).add j) = some u := by
        intro j u hu
        have := World.ownsRow.cells (w := w) (base := base) (e := e) (size := 1) (v := .slice (some ⟨g, 0, none⟩) xs.length cap) (n := xs.length) (xs := xs) ⟨h1, .inr ⟨g, cap, cur, rfl, hbg, hg, hnc, hcm, hcs, htk⟩⟩ (g := g) rfl j u hu
        simpa using this
      exact run_firstCells_some w.drew i.size xs.length ⟨g, 0, none⟩ xs.length cap xs (by rw [hz1]; exact h1) holds

/-- One element that was laid into a block of its own just now. -/
theorem src_one {P : Program} (w : World) (t e e' : TypeId) (ht : P.underlying t = some (.slice e')) (u : Value) (hu : u.oneCell' = true) : Src P 1 t (.slice (some ⟨w.heap.size, 0, none⟩) 1 1) [u].length [u] (w.alloc (.cells #[u] e)) :=
  Src.ofSlice _ ht _ _ _ _ rfl (by
    intro j x hx
    rw [addr_add0, World.cell?_alloc_mark]
    simpa using hx) (by intro x hx; simp at hx; subst hx; exact hu)

theorem wpList_append_cell {P : Program} {w : World} {ops : Array Oper} {rest : List Oper} {o : Oper} {a : Act} {Q : Exit → Act → World → Prop} (hgd : o.guard = none) (s x : Operand) (t e : TypeId)
    (ho : o.op = .call { callee := .builtin .append, args := #[s, x], argTypes := #[t, t] })
    (ht : P.underlying t = some (.slice e)) (z : Value) (bytes : Nat) (hinfo : (P.info? e).map (fun i => (i.zero, i.size, i.bytes)) = some (some z, 1, bytes)) (hzs : z.cells.size = 1)
    (base : Nat) (v : Value) (xs : List Value) (hv : a.eval s = v) (hown : w.ownsRow base e 1 v xs.length xs) (u : Value) (hu : u.oneCell' = true) (hx : a.eval x = .slice (some ⟨w.heap.size, 0, none⟩) 1 1)
    (hlen : (xs.length + 1) * bytes ≤ 140737488355328) (hmax : xs.length + 1 ≤ maxLen) (hbase : base ≤ w.heap.size)
    (h : ∀ v' w', w'.ownsRow base e 1 v' (xs.length + 1) (xs ++ [u]) → (w.alloc (.cells #[u] e)).grownBy w' v.ownBlock → (∀ k, v'.ownBlock = some k → v.ownBlock = some k ∨ w.heap.size < k) → wpList P ops Q rest (a.put o.dst v') w') :
    wpList P ops Q (o :: rest) a (w.alloc (.cells #[u] e)) := by
  obtain ⟨v', w', hr, h2, h3, h4⟩ := run_append_cells (P := P) (w.alloc (.cells #[u] e)) base t t o.type e ht z bytes hinfo hzs v xs (hown.alloc _) _ [u] (src_one w t e e ht u hu) (by simpa using hlen) (by simpa using hmax) (by simp; omega)
  refine wpList_plain hgd fun _ hK => ?_
  unfold Oper.wp execOp
  simp only [ho, resolve, invoke, builtin, Sem.run_bind, Sem.run_pure, Result.andThen_ok, List.map_toArray, List.map_cons, List.map_nil, hv, hx, hr]
  refine hK _ _ (h v' w' (by rw [List.length_append] at h2; exact h2) h3 (fun k hk => ?_))
  rcases h4 k hk with q | q
  · exact .inl q
  · exact .inr (by simp at q; omega)

theorem step_append_cell {P : Program} {w : World} {ops : Array Oper} {o : Oper} {a : Act} {K : Act → World → Prop} {Q : Exit → Act → World → Prop} {E : Prop} (hgd : o.guard = none) (s x : Operand) (t e : TypeId)
    (ho : o.op = .call { callee := .builtin .append, args := #[s, x], argTypes := #[t, t] })
    (ht : P.underlying t = some (.slice e)) (z : Value) (bytes : Nat) (hinfo : (P.info? e).map (fun i => (i.zero, i.size, i.bytes)) = some (some z, 1, bytes)) (hzs : z.cells.size = 1)
    (base : Nat) (v : Value) (xs : List Value) (hv : a.eval s = v) (hown : w.ownsRow base e 1 v xs.length xs) (u : Value) (hu : u.oneCell' = true) (hx : a.eval x = .slice (some ⟨w.heap.size, 0, none⟩) 1 1)
    (hlen : (xs.length + 1) * bytes ≤ 140737488355328) (hmax : xs.length + 1 ≤ maxLen) (hbase : base ≤ w.heap.size)
    (h : ∀ v' w', w'.ownsRow base e 1 v' (xs.length + 1) (xs ++ [u]) → (w.alloc (.cells #[u] e)).grownBy w' v.ownBlock → (∀ k, v'.ownBlock = some k → v.ownBlock = some k ∨ w.heap.size < k) → K (a.put o.dst v') w') :
    if Region.wanted o (yielded ops a.tmps) = true then Oper.wp P o a (w.alloc (.cells #[u] e)) K Q else E := by
  have hw : Region.wanted o (yielded ops a.tmps) = true := by simp [Region.wanted, hgd]
  rw [if_pos hw]
  obtain ⟨v', w', hr, h2, h3, h4⟩ := run_append_cells (P := P) (w.alloc (.cells #[u] e)) base t t o.type e ht z bytes hinfo hzs v xs (hown.alloc _) _ [u] (src_one w t e e ht u hu) (by simpa using hlen) (by simpa using hmax) (by simp; omega)
  unfold Oper.wp
  simp [execOp, ho, resolve, invoke, builtin, hv, hx, hr, Result.andThen]
  refine h v' w' (by rw [List.length_append] at h2; exact h2) h3 (fun k hk => ?_)
  rcases h4 k hk with q | q
  · exact .inl q
  · exact .inr (by simp at q; omega)

end Go.Proofs.Ytncchapgoedncaa
