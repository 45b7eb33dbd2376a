/-
  Bytes behind a row of bytes that a call owns: what append leaves, where it lies, what of the world has turned; over any program.
-/
import Derived.Deep.AppendSrc
import Derived.Test.YtpfnkjfbhcffiaaOwn
import Derived.Test.YtpfnkjfbhcffiaaSumRows
namespace Go.Proofs.Ytpfnkjfbhcffiaa
open Go.RowKit

theorem run_append_room_row {P : Program} (w : World) (t tx ty e : TypeId) (i : TypeInfo) (ht : P.underlying t = some (.slice e)) (hi : P.info? e = some i)
    (g sLen sCap : Nat) (cur : Array Value) (hg : w.heap[g]? = some (.cells cur e (0, 0)))
    (x : Value) (m : Nat) (news : List Value) (hs : Src P i.size tx x m news w)
    (hroom : sLen + m ≤ sCap) (hfit : sLen * i.size + news.length ≤ cur.size) :
    (Builtin.append_ #[t, tx] ty #[.slice (some ⟨g, 0, none⟩) sLen sCap, x]).run P w =
      .ok (.slice (some ⟨g, 0, none⟩) (sLen + m) sCap) (w.setRow g (cur.toList.take (sLen * i.size) ++ news ++ cur.toList.drop (sLen * i.size + news.length)).toArray) := by
  have hst := run_storeCells_at P g (sLen * i.size) e news 0 cur w hg (by simpa using hfit) hs.one
  simp only [Nat.add_zero] at hst
  rcases hs.kind with ⟨e', hk⟩ | hk <;> simp [Builtin.append_, run_underlying ht, run_underlying hk, sizeOf, typeInfo, hi, hs.len, hroom, hs.cells, Addr.add_lit, hst]

theorem run_append_nil_none {P : Program} (w : World) (t tx ty e : TypeId) (i : TypeInfo) (ht : P.underlying t = some (.slice e)) (hi : P.info? e = some i)
    (x : Value) (news : List Value) (hs : Src P i.size tx x 0 news w) :
    (Builtin.append_ #[t, tx] ty #[.slice none 0 0, x]).run P w = .ok (.slice none 0 0) w := by
  have hn : news = [] := List.eq_nil_of_length_eq_zero (by simpa using hs.newsLen)
  subst hn
  rcases hs.kind with ⟨e', hk⟩ | hk <;> simp [Builtin.append_, run_underlying ht, run_underlying hk, sizeOf, typeInfo, hi, hs.len, hs.cells]

/-- 'append(v, x...)': v nil or a row of bytes of the call's own. -/
theorem run_append_bytes {P : Program} (w : World) (base : Nat) (t tx ty u8 : TypeId) (ht : P.underlying t = some (.slice u8))
    (hinfo : (P.info? u8).map (fun i => (i.zero, i.size, i.bytes)) = some (some (.int .u8 0), 1, 1))
    (v : Value) (l : List UInt8) (hown : OwnB w base u8 v l) (x : Value) (news : List UInt8) (hs : Src P 1 tx x news.length (Lib.byteCells news) w)
    (hlen : l.length + news.length ≤ 140737488355328) (hbase : base ≤ w.heap.size) :
    ∃ v' w', (Builtin.append_ #[t, tx] ty #[v, x]).run P w = .ok v' w' ∧ OwnB w' base u8 v' (l ++ news) ∧ w.grownBy w' v.ownBlock ∧
      (∀ k, v'.ownBlock = some k → v.ownBlock = some k ∨ w.heap.size ≤ k) := by
  obtain ⟨i, hi, hz0, hz1, hz2⟩ := info_parts hinfo
  rw [← hz1] at hs
  have hbl : ∀ l : List UInt8, (Lib.byteCells l).length = l.length := fun l => by simp [Lib.byteCells]
  have hcat : Lib.byteCells (l ++ news) = Lib.byteCells l ++ Lib.byteCells news := by simp [Lib.byteCells]
  have grown : ∀ (bs : Option Addr) (old : Nat), (old < l.length + news.length) → (Builtin.firstCells i.size l.length (.slice bs l.length old)).run P w.drew = .ok (Lib.byteCells l).toArray w.drew →
      ∃ v' w', (Builtin.append_ #[t, tx] ty #[.slice bs l.length old, x]).run P w = .ok v' w' ∧ OwnB w' base u8 v' (l ++ news) ∧ w.grownBy w' (Value.ownBlock (.slice bs l.length old)) ∧
      (∀ k, v'.ownBlock = some k → (Value.slice bs l.length old).ownBlock = some k ∨ w.heap.size ≤ k) := by
    intro bs old ho hold
    have hr := run_append_grow_src (P := P) w t tx ty u8 i (.int .u8 0) ht hi hz0 bs l.length old (Lib.byteCells l) hold x news.length (Lib.byteCells news) hs ho (by omega) (growslice_fits (by omega) (by rw [hz2]; omega))
    refine ⟨_, _, hr, ?_, ⟨rfl, rfl, rfl, by simp, fun k hk _ => Below.heap_alloc w.drew _ k hk⟩, ?_⟩
    · have hge := grownCap_ge w (l.length + news.length) old u8
      have hcm : grownCap w (l.length + news.length) old u8 ≤ maxLen := grownCap_le_maxLen w _ old u8 (by unfold maxLen; omega)
      unfold OwnB
      refine ⟨by rw [hbl]; simp, .inr ⟨w.heap.size, _, _, by rw [List.length_append], hbase, heap_alloc_new w.drew _, by rw [List.length_append]; exact hge, hcm, ?_, ?_⟩⟩
      · simp only [Array.size_append, List.size_toArray, size_zeroCells, List.length_append, hbl]
        show _ + _ * 1 = _
        omega
      · rw [hcat]
        simp only [Array.toList_append, Nat.mul_one]
        rw [← hbl (l ++ news), hcat]
        exact List.take_left
    · intro k hk
      simp [Value.ownBlock] at hk
      exact .inr (by omega)
  obtain ⟨h1, hn | ⟨g, cap, cur, hv, hbg, hg, hnc, hcm, hcs, htk⟩⟩ := hown
  · obtain ⟨rfl, hl0⟩ := hn
    have hl : l = [] := List.eq_nil_of_length_eq_zero hl0
    subst hl
    cases news with
    | nil =>
      refine ⟨_, _, run_append_nil_none w t tx ty u8 i ht hi x _ hs, World.ownsRow_nil w base u8 1, ⟨rfl, rfl, rfl, Nat.le_refl _, fun _ _ _ => rfl⟩, fun k hk => .inl hk⟩
    | cons a r =>
      exact grown none 0 (by simp) (run_firstCells_none w.drew _ 0 0 0)
  · subst hv
    by_cases hroom : l.length + news.length ≤ cap
    · have hr := run_append_room_row (P := P) w t tx ty u8 i ht hi g l.length cap cur hg x news.length (Lib.byteCells news) hs hroom (by rw [hz1, hbl, hcs]; omega)
      refine ⟨_, _, hr, ?_, ⟨rfl, rfl, rfl, by simp, fun k _ hk => setRow_other w g k _ (fun e => hk (by simp [Value.ownBlock, e]))⟩, fun k hk => .inl hk⟩
      unfold OwnB
      refine ⟨by rw [hbl]; simp, .inr ⟨g, cap, _, by rw [List.length_append], hbg, setRow_heap w g cur _ u8 _ hg, by rw [List.length_append]; exact hroom, hcm, ?_, ?_⟩⟩
      · rw [hz1]
        simp only [List.size_toArray, List.length_append, List.length_take, List.length_drop, Array.length_toList, hbl]
        omega
      · rw [hz1, hcat]
        simp only [Nat.mul_one] at htk ⊢
        rw [htk, ← hbl (l ++ news), hcat]
        exact List.take_left
    · refine grown (some ⟨g, 0, none⟩) cap (by omega) ?_
      have holds : ∀ j u, (Lib.byteCells l)[j]? = some u → w.drew.cell? ((⟨g, 0, none⟩ : Addr).add j) = some u := by
        intro j u hu
        have := World.ownsRow.cells (w := w) (base := base) (e := u8) (size := 1) (v := .slice (some ⟨g, 0, none⟩) l.length cap) (n := l.length) (xs := Lib.byteCells l) ⟨h1, .inr ⟨g, cap, cur, rfl, hbg, hg, hnc, hcm, hcs, htk⟩⟩ (g := g) rfl j u hu
        simpa using this
      exact run_firstCells_some w.drew i.size l.length ⟨g, 0, none⟩ l.length cap (Lib.byteCells l) (by rw [hz1]; exact h1) holds

theorem wpList_append_bytes {P : Program} {w : World} {ops : Array Oper} {rest : List Oper} {o : Oper} {a : Act} {Q : Exit → Act → World → Prop} (hgd : o.guard = none) (s x : Operand) (t tx u8 : TypeId)
    (ho : o.op = .call { callee := .builtin .append, args := #[s, x], argTypes := #[t, tx] })
    (ht : P.underlying t = some (.slice u8)) (hinfo : (P.info? u8).map (fun i => (i.zero, i.size, i.bytes)) = some (some (.int .u8 0), 1, 1))
    (base : Nat) (v : Value) (l : List UInt8) (hv : a.eval s = v) (hown : OwnB w base u8 v l) (xv : Value) (news : List UInt8) (hx : a.eval x = xv) (hs : Src P 1 tx xv news.length (Lib.byteCells news) w)
    (hlen : l.length + news.length ≤ 140737488355328) (hbase : base ≤ w.heap.size)
    (h : ∀ v' w', OwnB w' base u8 v' (l ++ news) → w.grownBy w' v.ownBlock → (∀ k, v'.ownBlock = some k → v.ownBlock = some k ∨ w.heap.size ≤ k) → wpList P ops Q rest (a.put o.dst v') w') :
    wpList P ops Q (o :: rest) a w := by
  obtain ⟨v', w', hr, h2, h3, h4⟩ := run_append_bytes (P := P) w base t tx o.type u8 ht hinfo v l hown xv news hs hlen hbase
  refine wpList_plain hgd fun _ hK => ?_
  unfold Oper.wp execOp
  simp only [ho, resolve, invoke, builtin, Sem.run_bind, Sem.run_pure, Result.andThen_ok, List.map_toArray, List.map_cons, List.map_nil, hv, hx, hr]
  exact hK _ _ (h v' w' h2 h3 h4)

end Go.Proofs.Ytpfnkjfbhcffiaa
