/-
  A row of elements of so many cells that a holder owns, of whatever capacity (none: whatever address): append, in a plain region and in one that draws its order; over any program.
-/
import Derived.Deep.RegionLaw
import Derived.Test.YtpfnkjfbhcffiaaDkRow
namespace Go.Proofs.Ytpfnkjfbhcffiaa
open Go.RowKit

/-- The block that a slice's row lies in, if it has any room. -/
def rowBlk : Value → Option Nat
  | .slice (some a) _ (_ + 1) => some a.block
  | _ => none

/-- The slice value v has n elements of 'size' cells each, xs in all; its row is nobody else's. -/
def RowV (w : World) (e : TypeId) (size : Nat) (v : Value) (n : Nat) (xs : List Value) : Prop :=
  xs.length = n * size ∧ ((n = 0 ∧ ∃ p, v = .slice p 0 0) ∨ ∃ (g cap : Nat) (cur : Array Value), v = .slice (some ⟨g, 0, none⟩) n (cap + 1) ∧ w.heap[g]? = some (.cells cur e (0, 0)) ∧ n ≤ cap + 1 ∧ cap + 1 ≤ maxLen ∧ cur.size = (cap + 1) * size ∧ cur.toList.take (n * size) = xs)

theorem RowV.nil (w : World) (e : TypeId) (size : Nat) (p : Option Addr) : RowV w e size (.slice p 0 0) 0 [] := ⟨by simp, .inl ⟨rfl, p, rfl⟩⟩

theorem RowV.form {w : World} {e : TypeId} {size n : Nat} {v : Value} {xs : List Value} (h : RowV w e size v n xs) : ∃ p c, v = .slice p n c ∧ n ≤ c ∧ c ≤ maxLen := by
  obtain ⟨_, ⟨rfl, p, rfl⟩ | ⟨g, cap, cur, rfl, _, h1, h2, _⟩⟩ := h
  · exact ⟨p, 0, rfl, Nat.le_refl _, by unfold maxLen; omega⟩
  · exact ⟨_, _, rfl, h1, h2⟩

theorem RowV.lt {w : World} {e : TypeId} {size n : Nat} {v : Value} {xs : List Value} (h : RowV w e size v n xs) {k : Nat} (hk : rowBlk v = some k) : k < w.heap.size := by
  obtain ⟨_, ⟨rfl, p, rfl⟩ | ⟨g, cap, cur, rfl, h0, _⟩⟩ := h
  · cases p <;> simp [rowBlk] at hk
  · simp [rowBlk] at hk
    subst hk
    exact (Array.getElem?_eq_some_iff.1 h0).1

theorem RowV.carry {w w' : World} {e : TypeId} {size n : Nat} {v : Value} {xs : List Value} (h : RowV w e size v n xs) (hk : ∀ k, rowBlk v = some k → w'.heap[k]? = w.heap[k]?) : RowV w' e size v n xs := by
  obtain ⟨h1, h2 | ⟨g, cap, cur, hv, hg, r⟩⟩ := h
  · exact ⟨h1, .inl h2⟩
  · exact ⟨h1, .inr ⟨g, cap, cur, hv, by rw [hk g (by rw [hv]; rfl)]; exact hg, r⟩⟩

theorem RowV.cellAt {w : World} {e : TypeId} {size n g c : Nat} {xs : List Value} (h : RowV w e size (.slice (some ⟨g, 0, none⟩) n c) n xs) (j : Nat) (hj : j < n * size) : w.cell? ⟨g, j, none⟩ = xs[j]? := by
  obtain ⟨h1, ⟨rfl, p, hp⟩ | ⟨g', cap, cur, hv, hg, hn, hc, hs, ht⟩⟩ := h
  · simp at hj
  · injection hv with e1 e2 e3
    injection e1 with e1
    injection e1 with e1
    subst e1
    have hk := Nat.mul_le_mul_right size hn
    rw [← ht, List.getElem?_take, if_pos hj]
    simp [World.cell?, hg]

theorem RowV.cells {w : World} {e : TypeId} {size n : Nat} {v : Value} {xs : List Value} (h : RowV w e size v n xs) (hn : 0 < n) : ∃ g c, v = .slice (some ⟨g, 0, none⟩) n c ∧ rowBlk v = some g ∧ n ≤ c ∧ c ≤ maxLen ∧ ∀ j, j < n * size → w.cell? ⟨g, j, none⟩ = xs[j]? := by
  have h' := h
  obtain ⟨h1, ⟨rfl, p, rfl⟩ | ⟨g, cap, cur, rfl, hg, h2, h3, _⟩⟩ := h
  · omega
  · exact ⟨g, cap + 1, rfl, rfl, h2, h3, fun j hj => h'.cellAt j hj⟩

theorem run_append_none_any {P : Program} (w : World) (t tx ty e : TypeId) (i : TypeInfo) (ht : P.underlying t = some (.slice e)) (hi : P.info? e = some i)
    (p : Option Addr) (x : Value) (news : List Value) (hs : Src P i.size tx x 0 news w) :
    (Builtin.append_ #[t, tx] ty #[.slice p 0 0, x]).run P w = .ok (.slice p 0 0) w := by
  have hn : news = [] := List.eq_nil_of_length_eq_zero (by simpa using hs.newsLen)
  subst hn
  cases p
  · rcases hs.kind with ⟨e', hk⟩ | hk <;> simp [Builtin.append_, run_underlying ht, run_underlying hk, sizeOf, typeInfo, hi, hs.len, hs.cells]
  · rcases hs.kind with ⟨e', hk⟩ | hk <;> simp [Builtin.append_, run_underlying ht, run_underlying hk, sizeOf, typeInfo, hi, hs.len, hs.cells, storeCells]

theorem run_append_row {P : Program} (w : World) (t tx ty e : TypeId) (ht : P.underlying t = some (.slice e)) (z : Value) (size bytes : Nat)
    (hinfo : (P.info? e).map (fun i => (i.zero, i.size, i.bytes)) = some (some z, size, bytes)) (hzs : z.cells.size = size)
    (v : Value) (n : Nat) (xs : List Value) (hown : RowV w e size v n xs) (x : Value) (m : Nat) (news : List Value) (hs : Src P size tx x m news w)
    (hlen : (n + m) * bytes ≤ 140737488355328) (hmax : n + m ≤ maxLen) :
    ∃ v' w', (Builtin.append_ #[t, tx] ty #[v, x]).run P w = .ok v' w' ∧ RowV w' e size v' (n + m) (xs ++ news) ∧ w.grownBy w' (rowBlk v) ∧
      (∀ k, rowBlk v' = some k → rowBlk v = some k ∨ w.heap.size ≤ k) := by
  obtain ⟨i, hi, hz0, hz1, hz2⟩ := info_parts hinfo
  have hnl := hs.newsLen
  rw [← hz1] at hs
  have h63 : n + m ≤ 9223372036854775807 := by unfold maxLen at hmax; omega
  have hxl := hown.1
  have hcat : (xs ++ news).length = (n + m) * size := by rw [List.length_append, hxl, hnl, Nat.add_mul]
  have grown : ∀ (bs : Option Addr) (old : Nat), (old < n + m) → (Builtin.firstCells i.size n (.slice bs n old)).run P w.drew = .ok xs.toArray w.drew →
      ∃ v' w', (Builtin.append_ #[t, tx] ty #[.slice bs n old, x]).run P w = .ok v' w' ∧ RowV w' e size v' (n + m) (xs ++ news) ∧ w.grownBy w' (rowBlk (.slice bs n old)) ∧
      (∀ k, rowBlk v' = some k → rowBlk (.slice bs n old) = some k ∨ w.heap.size ≤ k) := by
    intro bs old ho hold
    have hr := run_append_grow_src (P := P) w t tx ty e i z ht hi hz0 bs n old xs hold x m news hs ho (by omega) (growslice_fits (by omega) (by rw [hz2]; exact hlen))
    have hge := grownCap_ge w (n + m) old e
    have hcm : grownCap w (n + m) old e ≤ maxLen := grownCap_le_maxLen w _ old e hmax
    obtain ⟨C, hC⟩ : ∃ C, C = grownCap w (n + m) old e := ⟨_, rfl⟩
    rw [← hC] at hr hge hcm
    obtain ⟨C', rfl⟩ : ∃ C', C = C' + 1 := ⟨C - 1, by omega⟩
    refine ⟨_, _, hr, ⟨hcat, .inr ⟨w.heap.size, C', _, rfl, heap_alloc_new w.drew _, hge, hcm, ?_, ?_⟩⟩, ⟨rfl, rfl, rfl, by simp, fun k hk _ => Below.heap_alloc w.drew _ k hk⟩, ?_⟩
    · simp only [Array.size_append, List.size_toArray, size_zeroCells, hzs, hcat]
      rw [← Nat.add_mul]
      congr 1
      omega
    · simp only [Array.toList_append]
      rw [← hcat]
      exact List.take_left
    · intro k hk
      simp [rowBlk] at hk
      exact .inr (by omega)
  obtain ⟨h1, ⟨h2, p, hv⟩ | ⟨g, cap, cur, hv, hg, hnc, hcm, hcs, htk⟩⟩ := hown
  · subst h2 hv
    have hl : xs = [] := List.eq_nil_of_length_eq_zero (by simpa using h1)
    subst hl
    by_cases hm : m = 0
    · subst hm
      have hnn : news = [] := List.eq_nil_of_length_eq_zero (by simpa using hnl)
      subst hnn
      exact ⟨_, _, run_append_none_any w t tx ty e i ht hi p x _ hs, RowV.nil w e size p, ⟨rfl, rfl, rfl, Nat.le_refl _, fun _ _ _ => rfl⟩, fun k hk => .inl hk⟩
    · refine grown p 0 (by omega) ?_
      cases p
      · exact run_firstCells_none w.drew _ 0 0 0
      · rename_i a
        exact run_firstCells_some w.drew i.size 0 a 0 0 [] (by simp) (fun j u hu => by simp at hu)
  · subst hv
    by_cases hroom : n + m ≤ cap + 1
    · have hk := Nat.mul_le_mul_right size hroom
      rw [Nat.add_mul] at hk
      have hr := run_append_room_row (P := P) w t tx ty e i ht hi g n (cap + 1) cur hg x m news hs hroom (by rw [hz1, hcs, hnl]; exact hk)
      refine ⟨_, _, hr, ⟨hcat, .inr ⟨g, cap, _, rfl, setRow_heap w g cur _ e _ hg, hroom, hcm, ?_, ?_⟩⟩, ⟨rfl, rfl, rfl, by simp, fun k _ hk => setRow_other w g k _ (fun e => hk (by simp [rowBlk, e]))⟩, fun k hk => .inl hk⟩
      · rw [hz1]
        simp only [List.size_toArray, List.length_append, List.length_take, List.length_drop, Array.length_toList, hcs, hnl]
        omega
      · rw [hz1, htk, ← hcat]
        exact List.take_left
    · refine grown (some ⟨g, 0, none⟩) (cap + 1) (by omega) ?_
      have holds : ∀ j u, xs[j]? = some u → w.drew.cell? ((⟨g, 0, none⟩ : Addr).add j) = some u := by
        intro j u hu
        have hj : j < n * size := by rw [← h1]; exact (List.getElem?_eq_some_iff.1 hu).1
        rw [addr_add0]
        have := RowV.cellAt (w := w) (e := e) (size := size) (n := n) (g := g) (c := cap + 1) (xs := xs) ⟨h1, .inr ⟨g, cap, cur, rfl, hg, hnc, hcm, hcs, htk⟩⟩ j hj
        rw [hu] at this
        exact this
      exact run_firstCells_some w.drew i.size n ⟨g, 0, none⟩ n (cap + 1) xs (by rw [hz1]; exact h1) holds

theorem wpList_append_row {P : Program} {w : World} {ops : Array Oper} {rest : List Oper} {o : Oper} {a : Act} {Q : Exit → Act → World → Prop} (hgd : o.guard = none) (s x : Operand) (t tx e : TypeId)
    (ho : o.op = .call { callee := .builtin .append, args := #[s, x], argTypes := #[t, tx] })
    (ht : P.underlying t = some (.slice e)) (z : Value) (size bytes : Nat) (hinfo : (P.info? e).map (fun i => (i.zero, i.size, i.bytes)) = some (some z, size, bytes)) (hzs : z.cells.size = size)
    (v : Value) (n : Nat) (xs : List Value) (hv : a.eval s = v) (hown : RowV w e size v n xs) (xv : Value) (m : Nat) (news : List Value) (hx : a.eval x = xv) (hs : Src P size tx xv m news w)
    (hlen : (n + m) * bytes ≤ 140737488355328) (hmax : n + m ≤ maxLen)
    (h : ∀ v' w', RowV w' e size v' (n + m) (xs ++ news) → w.grownBy w' (rowBlk v) → (∀ k, rowBlk v' = some k → rowBlk v = some k ∨ w.heap.size ≤ k) → wpList P ops Q rest (a.put o.dst v') w') :
    wpList P ops Q (o :: rest) a w := by
  obtain ⟨v', w', hr, h2, h3, h4⟩ := run_append_row (P := P) w t tx o.type e ht z size bytes hinfo hzs v n xs hown xv m news hs hlen hmax
  refine wpList_plain hgd fun _ hK => ?_
  unfold Oper.wp execOp
  simp only [ho, resolve, invoke, builtin, Sem.run_bind, Sem.run_pure, Result.andThen_ok, List.map_toArray, List.map_cons, List.map_nil, hv, hx, hr]
  exact hK _ _ (h v' w' h2 h3 h4)

theorem step_append_row {P : Program} {w : World} {ops : Array Oper} {o : Oper} {a : Act} {K : Act → World → Prop} {Q : Exit → Act → World → Prop} {E : Prop} (hgd : o.guard = none) (s x : Operand) (t tx e : TypeId)
    (ho : o.op = .call { callee := .builtin .append, args := #[s, x], argTypes := #[t, tx] })
    (ht : P.underlying t = some (.slice e)) (z : Value) (size bytes : Nat) (hinfo : (P.info? e).map (fun i => (i.zero, i.size, i.bytes)) = some (some z, size, bytes)) (hzs : z.cells.size = size)
    (v : Value) (n : Nat) (xs : List Value) (hv : a.eval s = v) (hown : RowV w e size v n xs) (xv : Value) (m : Nat) (news : List Value) (hx : a.eval x = xv) (hs : Src P size tx xv m news w)
    (hlen : (n + m) * bytes ≤ 140737488355328) (hmax : n + m ≤ maxLen)
    (h : ∀ v' w', RowV w' e size v' (n + m) (xs ++ news) → w.grownBy w' (rowBlk v) → (∀ k, rowBlk v' = some k → rowBlk v = some k ∨ w.heap.size ≤ k) → K (a.put o.dst v') w') :
    if Region.wanted o (yielded ops a.tmps) = true then Oper.wp P o a w K Q else E := by
  have hw : Region.wanted o (yielded ops a.tmps) = true := by simp [Region.wanted, hgd]
  rw [if_pos hw]
  obtain ⟨v', w', hr, h2, h3, h4⟩ := run_append_row (P := P) w t tx o.type e ht z size bytes hinfo hzs v n xs hown xv m news hs hlen hmax
  unfold Oper.wp
  simp [execOp, ho, resolve, invoke, builtin, hv, hx, hr, Result.andThen]
  exact h v' w' h2 h3 h4

/-- One element of so many cells that was laid into a block of its own just now. -/
theorem src_new {P : Program} (w : World) (size : Nat) (t e e' : TypeId) (ht : P.underlying t = some (.slice e')) (us : List Value) (hl : us.length = size) (hu : ∀ u ∈ us, u.oneCell' = true) : Src P size t (.slice (some ⟨w.heap.size, 0, none⟩) 1 1) 1 us (w.alloc (.cells us.toArray e)) :=
  Src.ofSlice _ ht _ _ _ _ (by rw [hl]; simp) (by
    intro j x hx
    rw [addr_add0, World.cell?_alloc_mark]
    simpa using hx) hu

/-- Another row as the source. -/
theorem RowV.src {P : Program} {w : World} {e : TypeId} {size n : Nat} {v : Value} {xs : List Value} (h : RowV w e size v n xs) (t e' : TypeId) (ht : P.underlying t = some (.slice e')) (hu : ∀ u ∈ xs, u.oneCell' = true) : Src P size t v n xs w := by
  have hx := h.1
  by_cases hn : n = 0
  · subst hn
    have hl : xs = [] := List.eq_nil_of_length_eq_zero (by simpa using hx)
    subst hl
    obtain ⟨p, c, rfl, _⟩ := h.form
    cases p
    · exact Src.ofNil w ht c
    · exact Src.ofSlice w ht _ _ _ _ (by simp) (fun j u hu => by simp at hu) hu
  · obtain ⟨g, c, rfl, _, _, _, hc⟩ := h.cells (by omega)
    refine Src.ofSlice w ht _ _ _ _ hx (fun j u hj => ?_) hu
    rw [addr_add0, hc j (by rw [← hx]; exact (List.getElem?_eq_some_iff.1 hj).1)]
    exact hj

end Go.Proofs.Ytpfnkjfbhcffiaa
