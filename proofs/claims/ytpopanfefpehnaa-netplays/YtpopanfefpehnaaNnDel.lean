/-
  A letter taken out of the row: at the back (slices.Delete), or at the front (copy and cut); the row in memory of its own again.
-/
import Derived.Test.YtpopanfefpehnaaNnAdd
namespace Go.Proofs.Ytpopanfefpehnaa
open Go.RowKit

theorem ltCells_erase (l : List Q.Lt) (k : Nat) : ltCells (l.eraseIdx k) = (ltCells l).take (k * 3) ++ (ltCells l).drop ((k + 1) * 3) := by
  rw [List.eraseIdx_eq_take_drop_succ, ltCells_append, ltCells_take, ltCells_drop]

/-- append, whose run is known, as one step of a region that draws. -/
theorem stepAppend {P : Program} {w w1 : World} {ops : Array Oper} {o : Oper} {a : Act} {K : Act → World → Prop} {Q : Exit → Act → World → Prop} {E : Prop} (hgd : o.guard = none) (s x : Operand) (t tx : TypeId)
    (ho : o.op = .call { callee := .builtin .append, args := #[s, x], argTypes := #[t, tx] }) (sv xv v : Value) (hs : a.eval s = sv) (hx : a.eval x = xv) (hr : (Builtin.append_ #[t, tx] o.type #[sv, xv]).run P w = .ok v w1)
    (h : K (a.put o.dst v) w1) : if Region.wanted o (yielded ops a.tmps) = true then Oper.wp P o a w K Q else E := by
  have hw : Region.wanted o (yielded ops a.tmps) = true := by simp [Region.wanted, hgd]
  rw [if_pos hw]
  unfold Oper.wp
  simp [execOp, ho, resolve, invoke, builtin, hs, hx, hr, Result.andThen]
  exact h

/-- copy, whose run is known. -/
theorem stepCopy {P : Program} {w w1 : World} {ops : Array Oper} {o : Oper} {a : Act} {K : Act → World → Prop} {Q : Exit → Act → World → Prop} {E : Prop} (hgd : o.guard = none) (s x : Operand) (t tx : TypeId)
    (ho : o.op = .call { callee := .builtin .copy, args := #[s, x], argTypes := #[t, tx] }) (sv xv v : Value) (hs : a.eval s = sv) (hx : a.eval x = xv) (hr : (Builtin.copy_ #[t, tx] o.type #[sv, xv]).run P w = .ok v w1)
    (h : K (a.put o.dst v) w1) : if Region.wanted o (yielded ops a.tmps) = true then Oper.wp P o a w K Q else E := by
  have hw : Region.wanted o (yielded ops a.tmps) = true := by simp [Region.wanted, hgd]
  rw [if_pos hw]
  unfold Oper.wp
  simp [execOp, ho, resolve, invoke, builtin, hs, hx, hr, Result.andThen]
  exact h

/-- A row whose cells were written anew within its room. -/
theorem RowC.anew {w : World} {g off m c : Nat} {xs : List Value} (hl : xs.length = m * 3) (hm : m ≤ c) (hc : c ≤ maxLen) (hR : RoomAt w g off (c * 3)) (hC : ∀ j x, xs[j]? = some x → w.cell? ⟨g, off + j, none⟩ = some x) :
    RowC w 3 (.slice (some ⟨g, off, none⟩) m c) m xs := ⟨hl, _, _, rfl, hm, hc, .inr ⟨g, off, rfl, hR, hC⟩⟩

theorem RowC.sizes {w : World} {p : Option Addr} {m c : Nat} {xs : List Value} (h : RowC w 3 (.slice p m c) m xs) : m ≤ c ∧ c ≤ maxLen := by
  obtain ⟨p0, c0, hv0, hc1, hc2⟩ := h.form
  injection hv0 with _ _ e0
  subst e0
  exact ⟨hc1, hc2⟩
theorem RowC.there {w : World} {g off m c : Nat} {xs : List Value} (h : RowC w 3 (.slice (some ⟨g, off, none⟩) m c) m xs) (hm : 0 < m) : RoomAt w g off (c * 3) ∧ ∀ j x, xs[j]? = some x → w.cell? ⟨g, off + j, none⟩ = some x := by
  obtain ⟨g', off', c', hv', _, _, hR, hC⟩ := h.cells hm
  injection hv' with e1 _ e3
  injection e1 with e1
  injection e1 with e1 e2
  subst e1 e2
  rw [← e3] at hR
  exact ⟨hR, hC⟩

/-- slices.Delete of one letter: what is left, in the same room. -/
theorem Delete_c {w : World} {g off m c k : Nat} {ls : List Q.Lt} (h : RowC w 3 (.slice (some ⟨g, off, none⟩) m c) m (ltCells ls)) (hm : m = ls.length) (hk : k < m) (hc0 : m ≤ 1099511627776) :
    Calls Try.prog 96 #[.slice (some ⟨g, off, none⟩) m c, .int .i64 (k : Int), .int .i64 ((k : Int) + 1)] w fun e w' => e = .returned (.slice (some ⟨g, off, none⟩) (m - 1) c) ∧
      RowC w' 3 (.slice (some ⟨g, off, none⟩) (m - 1) c) (m - 1) (ltCells (ls.eraseIdx k)) ∧ w.grownBy w' (some g) ∧ w'.heap.size = w.heap.size := by
  obtain ⟨hc1, hc2⟩ : m ≤ c ∧ c ≤ maxLen := h.sizes
  obtain ⟨i, hi, hz0, hz1, hz2⟩ := info_parts infoLt
  have hlen : (ltCells ls).length = m * 3 := by rw [ltCells_len, hm]
  obtain ⟨hR, hC⟩ := h.there (by omega)
  -- the pieces
  have p1 := run_cutHigh (some ⟨g, off, none⟩) m c k (by omega)
  rw [cutP_zero, Nat.sub_zero, Nat.sub_zero] at p1
  have p2 := run_cutLow (some ⟨g, off, none⟩) m c (k + 1) (by omega)
  have p0 := run_cut3 (some ⟨g, off, none⟩) m c k (k + 1) m (by omega) (by omega) (by omega)
  have c2 := (h.cut (k + 1) m c (by omega) (by omega) (Nat.le_refl _) (Nat.le_refl _)).1
  have hs2 := RowC.src (c2.carry (w' := w.drew) (fun _ _ => rfl)) 73 78 Try.underlying73 (fun u hu => ltCells_one ls u (List.mem_of_mem_drop (List.mem_of_mem_take hu)))
  have et : ((ltCells ls).drop ((k + 1) * 3)).take ((m - (k + 1)) * 3) = (ltCells ls).drop ((k + 1) * 3) := List.take_of_length_le (by rw [List.length_drop, hlen]; omega)
  rw [et] at hs2
  obtain ⟨W, hW⟩ : ∃ W, W = w.drew.setCells g (off + k * 3) ((ltCells ls).drop ((k + 1) * 3)) := ⟨_, rfl⟩
  have hdl : ((ltCells ls).drop ((k + 1) * 3)).length = (m - (k + 1)) * 3 := by rw [List.length_drop, hlen]; omega
  have hs2d : Src Try.prog i.size 73 (.slice (cutP (some ⟨g, off, none⟩) (k + 1) c 3) (m - (k + 1)) (c - (k + 1))) (m - (k + 1)) ((ltCells ls).drop ((k + 1) * 3)) w.drew := by rw [hz1]; exact hs2
  have hap := run_append_room_src (P := Try.prog) w.drew 73 73 73 78 i Try.underlying73 hi g off k c (.slice (cutP (some ⟨g, off, none⟩) (k + 1) c 3) (m - (k + 1)) (c - (k + 1))) (m - (k + 1)) ((ltCells ls).drop ((k + 1) * 3)) hs2d (by omega)
    (fun j hj => by rw [hz1, Nat.add_assoc]; exact (hR _ (by omega)).1) (fun j hj => by rw [hz1, Nat.add_assoc]; exact (hR _ (by omega)).2)
  rw [hz1, ← hW, show k + (m - (k + 1)) = m - 1 by omega] at hap
  have hRW : RoomAt W g off (c * 3) := by
    rw [hW]
    exact RoomAt.setCells (w := w.drew) (fun j hj => hR j hj) _ _ _
  have hcW : ∀ j x, (ltCells (ls.eraseIdx k))[j]? = some x → W.cell? ⟨g, off + j, none⟩ = some x := by
    intro j x hx
    rw [ltCells_erase] at hx
    have htl : ((ltCells ls).take (k * 3)).length = k * 3 := by rw [List.length_take, hlen]; omega
    by_cases hj : j < k * 3
    · rw [List.getElem?_append_left (by omega), List.getElem?_take_of_lt hj] at hx
      rw [hW, World.cell?_setCells_out g _ _ _ ⟨g, off + j, none⟩ (fun _ _ => .inl (by show off + j < off + k * 3; omega))]
      exact hC j x hx
    · rw [List.getElem?_append_right (by omega), htl] at hx
      obtain ⟨hlt, hge⟩ := List.getElem?_eq_some_iff.1 hx
      have := World.cell?_setCells_in g ((ltCells ls).drop ((k + 1) * 3)) (off + k * 3) w.drew (fun q hq => by rw [Nat.add_assoc]; exact (hR _ (by omega)).1) (j - k * 3) hlt
      rw [show off + k * 3 + (j - k * 3) = off + j by omega] at this
      rw [hW, this, hge]
  obtain ⟨X, rX, gX, sX, cX⟩ := run_clear_cut (w := W) (p := some ⟨g, off, none⟩) (n := m) (c := c) (.inr ⟨g, off, rfl, hRW⟩) (m - 1) m c (by omega) hc1 (Nat.le_refl _)
  have p3 := run_cut2 (some ⟨g, off, none⟩) (m - 1) c (m - 1) m (by omega) hc1
  have HF : Hid (RowC X 3 (.slice (some ⟨g, off, none⟩) (m - 1) c) (m - 1) (ltCells (ls.eraseIdx k)) ∧ w.grownBy X (some g) ∧ X.heap.size = w.heap.size) := by
    obtain ⟨q1, q2⟩ := cX g off rfl
    have hel : (ltCells (ls.eraseIdx k)).length = (m - 1) * 3 := by
      rw [ltCells_len, List.length_eraseIdx_of_lt (by omega), hm]
    refine ⟨RowC.anew hel (by omega) hc2 q1 (fun j x hx => ?_), ?_, ?_⟩
    · have hlt := (List.getElem?_eq_some_iff.1 hx).1
      rw [q2 j (.inl (by omega))]
      exact hcW j x hx
    · obtain ⟨cc, hcc⟩ : ∃ cc, c = cc + 1 := ⟨c - 1, by omega⟩
      have e : cBlk (.slice (some ⟨g, off, none⟩) m c) = some g := by rw [hcc]; rfl
      rw [e] at gX
      have g1 : w.grownBy W (some g) := by
        rw [hW]
        have := grown_setCells w.drew g (off + k * 3) ((ltCells ls).drop ((k + 1) * 3))
        exact ⟨this.os, this.tape, this.output, this.size, this.block⟩
      exact g1.trans gX
    · rw [sX, hW, size_setCells6]
      rfl
  obtain ⟨q, hq⟩ : ∃ q, q = cutP (some (⟨g, off, none⟩ : Addr)) (k + 1) c 3 := ⟨_, rfl⟩
  obtain ⟨q2, hq2⟩ : ∃ q2, q2 = cutP (some (⟨g, off, none⟩ : Addr)) (m - 1) c 3 := ⟨_, rfl⟩
  obtain ⟨q3, hq3⟩ : ∃ q3, q3 = cutP (some (⟨g, off, none⟩ : Addr)) k m 3 := ⟨_, rfl⟩
  obtain ⟨d1, hd1⟩ : ∃ d1, d1 = m - (k + 1) := ⟨_, rfl⟩
  obtain ⟨d2, hd2⟩ : ∃ d2, d2 = c - (k + 1) := ⟨_, rfl⟩
  obtain ⟨d3, hd3⟩ : ∃ d3, d3 = m - 1 := ⟨_, rfl⟩
  obtain ⟨d4, hd4⟩ : ∃ d4, d4 = m - d3 := ⟨_, rfl⟩
  obtain ⟨d5, hd5⟩ : ∃ d5, d5 = c - d3 := ⟨_, rfl⟩
  obtain ⟨d6, hd6⟩ : ∃ d6, d6 = k + 1 - k := ⟨_, rfl⟩
  obtain ⟨d7, hd7⟩ : ∃ d7, d7 = m - k := ⟨_, rfl⟩
  rw [← hq3, ← hd6, ← hd7] at p0
  rw [← hq, ← hd1, ← hd2] at p2 hap
  rw [← hd3] at hap HF p3 rX hq2 ⊢
  rw [← hq2] at p3 rX
  rw [← hd4, ← hd5] at p3 rX
  have hwr : IntKind.i64.wrap ((k : Int) + 1) = (k : Int) + 1 := by rw [IntKind.wrap_i64]; omega
  have hne : ((k : Int) == (k : Int) + 1) = false := by simp; omega
  have p0' : ∀ W : World, (Instr.slice 73 (.slice (some ⟨g, off, none⟩) m c) (some (.int .i64 (k : Int))) (some (.int .i64 ((k : Int) + 1))) (some (.int .i64 (m : Int)))).run Try.prog W = .ok (.slice q3 d6 d7) W := by simpa using p0
  have p2' : ∀ W : World, (Instr.slice 73 (.slice (some ⟨g, off, none⟩) m c) (some (.int .i64 ((k : Int) + 1))) none none).run Try.prog W = .ok (.slice q d1 d2) W := by simpa using p2
  clear hW h hm hk hc0 hc1 hc2 hi hz0 hz1 hz2 hlen hR hC hs2 et c2 hdl hs2d hRW hcW gX sX cX hq hq2 hq3 hd1 hd2 hd3 hd4 hd5 hd6 hd7 p0 p2
  go_enter Try.func96, Try.ntmps96
  go_wp2
  go_region_law (refine stepAppend rfl (.tmp 22) (.tmp 25) 73 73 rfl (.slice (some ⟨g, off, none⟩) k c) (.slice q d1 d2) _ (by simp [Act.eval, Act.put]) (by simp [Act.eval, Act.put]) hap ?_)
  go_wp2
  go_ret
  exact ⟨rfl, HF.out⟩

end Go.Proofs.Ytpopanfefpehnaa
