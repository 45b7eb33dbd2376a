/-
  slices.Clone and slices.Delete of entries.
-/
import Derived.Test.YtpfnkjfbhcffiaaWlDo
namespace Go.Proofs.Ytpfnkjfbhcffiaa
open Go.RowKit

theorem EClone_nil (w : World) : Calls Try.prog 45 #[.slice none 0 0] w fun e w' => e = .returned (.slice none 0 0) ∧ w' = w := by
  have hnil : (binOp .eql 43 (.slice none 0 0) (.slice none 0 0)).run Try.prog w = .ok (.bool true) w := by kernel_rfl
  go_enter Try.func45, Try.ntmps45
  go_wp2
  go_ret
  exact ⟨rfl, rfl⟩

theorem EClone_c (w : World) (a : Addr) (n c : Nat) (xs : List Value) (hl : xs.length = n * 2) (hs : ∀ j u, xs[j]? = some u → (w.cell? (a.add j) = some u)) (ha : n = 0 ∨ a.block < w.heap.size) (h1 : ∀ u ∈ xs, u.oneCell' = true) (hn : n ≤ 1099511627776) :
    Calls Try.prog 45 #[.slice (some a) n c] w fun e w' => ∃ v', e = .returned v' ∧ RowV w' 75 2 v' n xs ∧ Below w.heap.size w w' ∧ ∀ k, rowBlk v' = some k → w.heap.size ≤ k := by
  have hnil : (binOp .eql 43 (.slice (some a) n c) (.slice none 0 0)).run Try.prog w = .ok (.bool false) w := by kernel_rfl
  have HL : Hid (xs.length = n * 2) := hl
  have HS : Hid (∀ o, Src Try.prog 2 43 (.slice (some a) n c) n xs (w.alloc o)) := by
    intro o
    refine Src.ofSlice _ Try.underlying43 _ _ _ _ hl (fun j u hu => ?_) h1
    rw [World.cell?_alloc_lt]
    · exact hs j u hu
    · rcases ha with q | q
      · have := (List.getElem?_eq_some_iff.1 hu).1
        omega
      · unfold Addr.add
        split <;> exact q
  have hn1 : Hid ((0 + n) * 24 ≤ 140737488355328) := by show _ ≤ _; omega
  have hn2 : Hid (0 + n ≤ maxLen) := by unfold maxLen; show _ ≤ _; omega
  clear hl hs ha h1 hn
  go_enter Try.func45, Try.ntmps45
  go_wp2_with (at_builtin; refine wpList_append_row rfl (.tmp 5) (.tmp 6) 43 43 75 rfl Try.underlying43 _ 2 24 infoEnt rfl (.slice (some ⟨w.heap.size, 0, none⟩) 0 0) 0 [] rfl (RowV.nil _ _ _ _) (.slice (some a) n c) n xs rfl (HS.out _) hn1.out hn2.out ?qnext)
  case qnext =>
    intro v' w1 ho hg hloc
    have hb : Below w.heap.size w w1 := ((Below.refl _ w).alloc (Nat.le_refl _) _).grown hg (by simp) (by intro k hk; simp [rowBlk] at hk)
    have HB : Hid (Below w.heap.size w w1) := hb
    have HO : Hid (RowV w1 75 2 v' n xs) := by simpa [Hid] using ho
    have HK : Hid (∀ k, rowBlk v' = some k → w.heap.size ≤ k) := by
      intro k hk
      rcases hloc k hk with q | q
      · simp [rowBlk] at q
      · first | omega | (simp at q; omega)
    obtain ⟨p', c', hv', _⟩ := HO.out.form
    subst hv'
    clear ho hg hloc hb
    go_wp2
    go_ret
    exact ⟨_, rfl, HO.out, HB.out, HK.out⟩

theorem run_clear_row {P : Program} (w : World) (t e ty : TypeId) (z : Value) (size : Nat) (ht : P.underlying t = some (.slice e)) (hz : ∀ w, (zeroValue e).run P w = .ok z w) (hzs : z.cells.size = size) (h1 : ∀ i, i < size → (z.cells[i]!).oneCell' = true) (hsz : 0 < size)
    (g o n c : Nat) (cur : Array Value) (hg : w.heap[g]? = some (.cells cur e (0, 0))) (hfit : o + n * size ≤ cur.size) (hn : 0 < n) :
    (Builtin.clear_ #[t] ty #[.slice (some ⟨g, o, none⟩) n c]).run P w = .ok (.tuple #[]) (w.setRow g (cur.toList.take o ++ (Builtin.zeroCells z.cells n).toList ++ cur.toList.drop (o + n * size)).toArray) := by
  have hlen : (Builtin.zeroCells z.cells n).toList.length = n * size := by rw [Array.length_toList, size_zeroCells, hzs]
  have hst := run_storeCells_at P g o e (Builtin.zeroCells z.cells n).toList 0 cur w hg (by rw [hlen]; simpa using hfit) (by
    intro v hv
    rw [Array.mem_toList_iff] at hv
    unfold Builtin.zeroCells at hv
    simp at hv
    obtain ⟨l, _, hv⟩ := hv
    subst hv
    exact h1 _ (by rw [hzs]; exact Nat.mod_lt _ hsz))
  rw [hlen] at hst
  simp only [Nat.add_zero] at hst
  obtain ⟨m, rfl⟩ : ∃ m, n = m + 1 := ⟨n - 1, by omega⟩
  simp [Builtin.clear_, run_underlying ht, hz, hst]

/-- Nothing behind a row: append leaves it as it is. -/
theorem step_append_zero {P : Program} {w : World} {ops : Array Oper} {o : Oper} {a : Act} {K : Act → World → Prop} {Q : Exit → Act → World → Prop} {E : Prop} (hgd : o.guard = none) (s x : Operand) (t tx e : TypeId)
    (ho : o.op = .call { callee := .builtin .append, args := #[s, x], argTypes := #[t, tx] }) (ht : P.underlying t = some (.slice e)) (i : TypeInfo) (hi : P.info? e = some i)
    (p : Addr) (n c : Nat) (hnc : n ≤ c) (hv : a.eval s = .slice (some p) n c) (xv : Value) (hx : a.eval x = xv) (hs : Src P i.size tx xv 0 [] w) (h : K (a.put o.dst (.slice (some p) n c)) w) :
    if Region.wanted o (yielded ops a.tmps) = true then Oper.wp P o a w K Q else E := by
  have hw : Region.wanted o (yielded ops a.tmps) = true := by simp [Region.wanted, hgd]
  rw [if_pos hw]
  have hr : (Builtin.append_ #[t, tx] o.type #[.slice (some p) n c, xv]).run P w = .ok (.slice (some p) n c) w := by
    rcases hs.kind with ⟨e', hk⟩ | hk <;> simp [Builtin.append_, run_underlying ht, run_underlying hk, sizeOf, typeInfo, hi, hs.len, hs.cells, storeCells, hnc]
  unfold Oper.wp
  simp [execOp, ho, resolve, invoke, builtin, hv, hx, hr, Result.andThen]
  exact h

theorem zeroEnt (w : World) : (zeroValue 75).run Try.prog w = .ok (.agg #[.int .i64 0, .string ⟨#[]⟩]) w := by kernel_rfl

set_option maxHeartbeats 400000 in
set_option maxRecDepth 20000 in
theorem Delete_c {w : World} {g n cap : Nat} {cur : Array Value} (hg : w.heap[g]? = some (.cells cur 75 (0, 0))) (hnc : n ≤ cap) (hcm : cap ≤ maxLen) (hcs : cur.size = cap * 2) (i : Nat) (hi : i < n) :
    Calls Try.prog 79 #[.slice (some ⟨g, 0, none⟩) n cap, .int .i64 (i : Int), .int .i64 (n : Int)] w fun e w' =>
      e = .returned (.slice (some ⟨g, 0, none⟩) i cap) ∧ RowV w' 75 2 (.slice (some ⟨g, 0, none⟩) i cap) i (cur.toList.take (i * 2)) ∧ w.grownBy w' (some g) := by
  unfold maxLen at hcm
  have hne : ((i : Int) == (n : Int)) = false := by simp; omega
  obtain ⟨inf, hinf, hsz⟩ : ∃ j, Try.prog.info? 75 = some j ∧ j.size = 2 := by
    obtain ⟨j, h1, _, h3, _⟩ := info_parts infoEnt
    exact ⟨j, h1, h3⟩
  obtain ⟨A, hA⟩ : ∃ A : Addr, (if cap = n then some (⟨g, 0, none⟩ : Addr) else some ⟨g, n * 2, none⟩) = some A := by
    by_cases e : cap = n
    · exact ⟨_, if_pos e⟩
    · exact ⟨_, if_neg e⟩
  have hic : i ≤ cap := by omega
  have hci : ¬ cap = i := by omega
  have HSrc : Hid (∀ u c, Src Try.prog inf.size 43 (.slice (some A) 0 c) 0 [] u) := fun u c => Src.ofSlice u Try.underlying43 _ _ _ _ (by simp) (fun j x hx => by simp at hx) (fun u hu => by cases hu)
  have HG : Hid _ := hg
  have HCS : Hid (cur.size = cap * 2) := hcs
  clear hg hcs
  go_enter Try.func79, Try.ntmps79
  go_wp2
  go_region_law (refine step_append_zero rfl (.tmp 22) (.tmp 25) 43 43 75 rfl Try.underlying43 inf hinf ⟨g, 0, none⟩ i cap hic (by simp [Act.eval]) _ (by simp [Act.eval]) (HSrc.out _ _) ?_)
  have HCM : Hid _ := hcm
  clear hcm hA hinf hsz HSrc hne hic
  have hcl := run_clear_row (P := Try.prog) w.drew 43 75 0 _ 2 Try.underlying43 zeroEnt rfl (by intro j hj; match j, hj with | 0, _ => rfl | 1, _ => rfl) (by omega) g (i * 2) (n - i) (cap - i) cur HG.out (by rw [HCS.out]; omega) (by omega)
  obtain ⟨cs, hcs⟩ : ∃ cs, cs = (cur.toList.take (i * 2) ++ (Builtin.zeroCells (Value.agg #[.int .i64 0, .string ⟨#[]⟩]).cells (n - i)).toList ++ cur.toList.drop (i * 2 + (n - i) * 2)).toArray := ⟨_, rfl⟩
  rw [← hcs] at hcl
  have HC : Hid (RowV (w.drew.setRow g cs) 75 2 (.slice (some ⟨g, 0, none⟩) i cap) i (cur.toList.take (i * 2))) := by
    obtain ⟨cp, rfl⟩ : ∃ cp, cap = cp + 1 := ⟨cap - 1, by omega⟩
    have hlt : (cur.toList.take (i * 2)).length = i * 2 := by rw [List.length_take, Array.length_toList, HCS.out]; omega
    refine ⟨hlt, .inr ⟨g, cp, cs, rfl, setRow_heap w.drew g cur _ _ _ HG.out, by omega, HCM.out, ?_, ?_⟩⟩
    · rw [hcs]
      simp only [List.size_toArray, List.length_append, hlt, Array.length_toList, size_zeroCells, List.length_drop, HCS.out]
      show i * 2 + (n - i) * 2 + _ = _
      omega
    · rw [hcs, List.append_assoc, show (cur.toList.take (i * 2) ++ ((Builtin.zeroCells (Value.agg #[.int .i64 0, .string ⟨#[]⟩]).cells (n - i)).toList ++ cur.toList.drop (i * 2 + (n - i) * 2))).toArray.toList = cur.toList.take (i * 2) ++ ((Builtin.zeroCells (Value.agg #[.int .i64 0, .string ⟨#[]⟩]).cells (n - i)).toList ++ cur.toList.drop (i * 2 + (n - i) * 2)) by simp]
      have := List.take_left (l₁ := cur.toList.take (i * 2)) (l₂ := (Builtin.zeroCells (Value.agg #[.int .i64 0, .string ⟨#[]⟩]).cells (n - i)).toList ++ cur.toList.drop (i * 2 + (n - i) * 2))
      rw [hlt] at this
      exact this
  have HK : Hid (w.grownBy (w.drew.setRow g cs) (some g)) := ⟨rfl, rfl, rfl, by simp, fun k _ hk => setRow_other w.drew g k _ (fun e => hk (by rw [e]))⟩
  clear hcs
  go_wp2
  go_ret
  exact ⟨rfl, HC.out, HK.out⟩

end Go.Proofs.Ytpfnkjfbhcffiaa
