/-
  slices.Insert of one record into a row of records: at its end; in place; into a new row.
-/
import Derived.Test.YteaopnhjndnpnaaNdAdd
import Derived.Laws.IdiomCopy
import Derived.Lib.AppendZerosOnto
import Derived.Lib.Overlaps
import Derived.Laws.Externs
namespace Go.Proofs.Yteaopnhjndnpnaa
open Go.RowKit

theorem run_copy_rows {P : Program} (w : World) (dT sT ty elem : TypeId) (size b o dLen dCap : Nat) (a : Addr) (sLen sCap : Nat) (cs : List Value)
    (hu : P.underlying dT = some (.slice elem)) (hs : (P.info? elem).map (·.size) = some size) (hn : cs.length = Nat.min sLen dLen * size)
    (hsrc : ∀ j v, cs[j]? = some v → w.cell? (a.add j) = some v) (hc : ∀ j, j < cs.length → (w.cell? ⟨b, o + j, none⟩).isSome = true) (hf : ∀ j, j < cs.length → w.frozen? ⟨b, o + j, none⟩ = false) (h1 : ∀ v ∈ cs, v.oneCell' = true) :
    (Builtin.copy_ #[dT, sT] ty #[.slice (some ⟨b, o, none⟩) dLen dCap, .slice (some a) sLen sCap]).run P w = .ok (goInt (Nat.min sLen dLen)) (w.setCells b o cs) := by
  have hl := run_loadCells_list (P := P) w a cs hsrc
  have hst := run_storeCells_cells (P := P) b o cs 0 w (by simpa using hc) (by simpa using hf) h1
  rw [hn] at hl
  cases hq : P.info? elem with
  | none => simp [hq] at hs
  | some i =>
    have hi : i.size = size := by simpa [hq] using hs
    simp [Builtin.copy_, run_underlying hu, Builtin.lenOf, Builtin.firstCells, sizeOf, typeInfo, hq, hi, hl, hst]

theorem wpList_copy7 {P : Program} (w : World) {ops : Array Oper} {rest : List Oper} {o : Oper} {a : Act} {Q : Exit → Act → World → Prop} (hgd : o.guard = none) (d s : Operand) (t t' : TypeId)
    (ho : o.op = .call { callee := .builtin .copy, args := #[d, s], argTypes := #[t, t'] }) (v u : Value) (hd : a.eval d = v) (hs : a.eval s = u) {v' : Value} {w' : World}
    (hr : (Builtin.copy_ #[t, t'] o.type #[v, u]).run P w = .ok v' w') (h : wpList P ops Q rest (a.put o.dst v') w') : wpList P ops Q (o :: rest) a w := by
  refine wpList_plain hgd fun _ hK => ?_
  unfold Oper.wp execOp
  simp only [ho, resolve, invoke, builtin, Sem.run_bind, Sem.run_pure, Result.andThen_ok, List.map_toArray, List.map_cons, List.map_nil, hd, hs, hr]
  exact hK _ _ h

theorem step_copy7 {P : Program} {ops : Array Oper} {o : Oper} {a : Act} {w : World} {K : Act → World → Prop} {Q : Exit → Act → World → Prop} {E : Prop}
    (hg : o.guard = none) (d x : Operand) (dT sT : TypeId) (hop : o.op = Op.call { callee := Callee.builtin Builtin.copy, args := #[d, x], argTypes := #[dT, sT] })
    (v u : Value) (hd : a.eval d = v) (hx : a.eval x = u) {v' : Value} {w' : World} (hr : (Builtin.copy_ #[dT, sT] o.type #[v, u]).run P w = .ok v' w') (hK : K (a.put o.dst v') w') :
    if Region.wanted o (yielded ops a.tmps) = true then Oper.wp P o a w K Q else E := by
  have hw : Region.wanted o (yielded ops a.tmps) = true := by simp [Region.wanted, hg]
  rw [if_pos hw]
  unfold Oper.wp
  simp [execOp, hop, resolve, invoke, builtin, hd, hx, hr, Result.andThen]
  exact hK

theorem run_rcutLow (p : Option Addr) (n c l : Nat) (h1 : l ≤ n) (W : World) :
    (Instr.slice 55 (.slice p n c) (some (.int .i64 (l : Int))) none none).run Try.prog W = .ok (.slice (cutP p l c 6) (n - l) (c - l)) W := by
  simp [Instr.slice, run_underlying Try.underlying55, Instr.sliceBounds, Instr.sliceBound, asIntOf, h1, cutP]
theorem run_rcutHigh (p : Option Addr) (n c h : Nat) (h1 : h ≤ c) (W : World) :
    (Instr.slice 55 (.slice p n c) none (some (.int .i64 (h : Int))) none).run Try.prog W = .ok (.slice (cutP p 0 c 6) (h - 0) (c - 0)) W := by
  simp [Instr.slice, run_underlying Try.underlying55, Instr.sliceBounds, Instr.sliceBound, asIntOf, h1, cutP]
theorem cutP_at (g off l m size : Nat) (h : m ≠ l) : cutP (some ⟨g, off, none⟩) l m size = some ⟨g, off + l * size, none⟩ := by
  unfold cutP
  rw [if_neg h, Option.map_some, Addr.add_lit]
theorem cutP_0 (g off m size : Nat) : cutP (some ⟨g, off, none⟩) 0 m size = some ⟨g, off, none⟩ := by
  unfold cutP
  split
  · rfl
  · rw [Option.map_some, Addr.add_lit, Nat.zero_mul, Nat.add_zero]

/-- What Insert of one record at i answers. -/
def InsOut (w : World) (v : Value) (n i : Nat) (xs news : List Value) (e : Ending) (w' : World) : Prop :=
  ∃ v', e = .returned v' ∧ RowC w' 6 v' (n + 1) (xs.take (i * 6) ++ (news ++ xs.drop (i * 6))) ∧ w.grownBy w' (cBlk v) ∧ ∀ k, cBlk v' = some k → cBlk v = some k ∨ w.heap.size ≤ k

/-- The record that is inserted, in a block of its own. -/
structure Nw (w : World) (vb : Nat) (news : List Value) : Prop where
  len : news.length = 6
  one : ∀ u ∈ news, u.oneCell' = true
  obj : w.heap[vb]? = some (.cells news.toArray 99 (0, 0))

theorem Nw.cell {w : World} {vb : Nat} {news : List Value} (h : Nw w vb news) (j : Nat) (u : Value) (hj : news[j]? = some u) : w.cell? ⟨vb, j, none⟩ = some u := by
  unfold World.cell?
  rw [h.obj]
  simpa using hj
theorem Nw.src {w : World} {vb : Nat} {news : List Value} (h : Nw w vb news) : Src Try.prog 6 55 (.slice (some ⟨vb, 0, none⟩) 1 1) 1 news w := by
  refine Src.ofSlice w Try.underlying55 _ _ _ _ (by rw [h.len]) (fun j u hu => ?_) h.one
  rw [Addr.add_lit, Nat.zero_add]
  exact h.cell j u hu

set_option maxHeartbeats 800000 in
set_option maxRecDepth 20000 in
theorem Insert_end {w : World} {v : Value} {n vb : Nat} {xs news : List Value} (h : RowC w 6 v n xs) (hw : Nw w vb news) (hn : n ≤ 1000000000) :
    Calls Try.prog 63 #[v, .int .i64 (n : Int), .slice (some ⟨vb, 0, none⟩) 1 1] w (InsOut w v n n xs news) := by
  obtain ⟨p, c, hv, hc1, hc2⟩ := h.form
  subst hv
  have hcut := run_rcutLow p n c n (Nat.le_refl _)
  generalize cutP p n c 6 = p1 at hcut
  have HR : Hid _ := h
  have HS : Hid _ := hw.src
  have hL1 : Hid ((n + 1) * 56 ≤ 140737488355328) := by show _ ≤ _; omega
  have hL2 : Hid (n + 1 ≤ maxLen) := by unfold maxLen; show _ ≤ _; omega
  have HO : Hid (∀ v' w', RowC w' 6 v' (n + 1) (xs ++ news) → w.grownBy w' (cBlk (.slice p n c)) → (∀ k, cBlk v' = some k → cBlk (.slice p n c) = some k ∨ w.heap.size ≤ k) → InsOut w (.slice p n c) n n xs news (.returned v') w') := by
    intro v' w' a1 a2 a3
    refine ⟨v', rfl, ?_, a2, a3⟩
    have := h.1
    rw [List.take_of_length_le (by omega), List.drop_of_length_le (by omega), List.append_nil]
    exact a1
  generalize InsOut w (.slice p n c) n n xs news = Q at HO ⊢
  clear h hw hc1 hc2 hn
  go_enter Try.func63, Try.ntmps63
  go_wp2_with (at_builtin; refine wpList_append_rowC rfl (.tmp 23) (.tmp 24) 55 55 99 rfl Try.underlying55 _ 6 56 infoRec rfl (.slice p n c) n xs rfl HR.out _ 1 _ rfl HS.out hL1.out hL2.out ?qnext)
  intro v' w' a1 a2 a3
  obtain ⟨p', c', hv', _, _⟩ := a1.form
  subst hv'
  have HE := HO.out _ _ a1 a2 a3
  clear a1 a2 a3
  go_wp2
  exact HE

theorem isSome_setCells7 (b : Nat) (vs : List Value) (o : Nat) (w : World) (k : Nat) (hk : (w.cell? ⟨b, k, none⟩).isSome = true) : ((w.setCells b o vs).cell? ⟨b, k, none⟩).isSome = true := World.isSome_setCells b vs o w _ hk

/-- A row whose cells from i on were moved up by one element, and the new one laid between. -/
theorem shifted {w : World} {g off n c i : Nat} {xs news : List Value} (h : RowC w 6 (.slice (some ⟨g, off, none⟩) n (c + 1)) n xs) (hi : i < n) (hr : n + 1 ≤ c + 1) (hl : news.length = 6) :
    RowC (((w.setCells g (off + (i + 1) * 6) (xs.drop (i * 6))).setCells g (off + i * 6) news)) 6 (.slice (some ⟨g, off, none⟩) (n + 1) (c + 1)) (n + 1) (xs.take (i * 6) ++ (news ++ xs.drop (i * 6))) := by
  obtain ⟨hx, p, c0, hv, h2, h3, h4⟩ := h
  injection hv with q1 q2 q3
  subst q3
  rcases h4 with h4 | ⟨g0, off0, hp, hR, hC⟩
  · omega
  rw [← q1] at hp
  injection hp with hp
  injection hp with e1 e2
  subst e1 e2
  clear q1 q2
  have hdl : (xs.drop (i * 6)).length = (n - i) * 6 := by rw [List.length_drop, hx, Nat.sub_mul]
  have htl : (xs.take (i * 6)).length = i * 6 := by rw [List.length_take, hx]; omega
  have hR1 : ∀ j, j < (c + 1) * 6 → ((w.setCells g (off + (i + 1) * 6) (xs.drop (i * 6))).cell? ⟨g, off + j, none⟩).isSome = true := fun j hj => isSome_setCells7 _ _ _ _ _ (hR j hj).1
  refine ⟨by simp only [List.length_append, htl, hdl, hl]; omega, _, _, rfl, hr, h3, .inr ⟨g, off, rfl, fun j hj => ⟨isSome_setCells7 _ _ _ _ _ (hR1 j hj), by rw [World.frozen?_setCells, World.frozen?_setCells]; exact (hR j hj).2⟩, fun j x hj => ?_⟩⟩
  by_cases c1 : j < i * 6
  · rw [List.getElem?_append_left (by omega), List.getElem?_take, if_pos c1] at hj
    rw [World.cell?_setCells_out g news _ _ ⟨g, off + j, none⟩ (fun _ _ => .inl (by show off + j < off + i * 6; omega)), World.cell?_setCells_out g _ _ _ ⟨g, off + j, none⟩ (fun _ _ => .inl (by show off + j < off + (i + 1) * 6; omega))]
    exact hC j x hj
  · rw [List.getElem?_append_right (by omega), htl] at hj
    by_cases c2 : j < i * 6 + 6
    · rw [List.getElem?_append_left (by omega)] at hj
      obtain ⟨hlt, hge⟩ := List.getElem?_eq_some_iff.1 hj
      have := World.cell?_setCells_in g news (off + i * 6) (w.setCells g (off + (i + 1) * 6) (xs.drop (i * 6))) (fun q hq => by rw [Nat.add_assoc]; exact hR1 _ (by omega)) (j - i * 6) hlt
      rw [show off + i * 6 + (j - i * 6) = off + j by omega] at this
      rw [this, hge]
    · rw [List.getElem?_append_right (by omega), hl] at hj
      rw [World.cell?_setCells_out g news _ _ ⟨g, off + j, none⟩ (fun _ _ => .inr (by show off + i * 6 + news.length ≤ off + j; omega))]
      obtain ⟨hlt, hge⟩ := List.getElem?_eq_some_iff.1 hj
      have := World.cell?_setCells_in g (xs.drop (i * 6)) (off + (i + 1) * 6) w (fun q hq => by rw [Nat.add_assoc]; exact (hR _ (by omega)).1) (j - i * 6 - 6) hlt
      rw [show off + (i + 1) * 6 + (j - i * 6 - 6) = off + j by omega] at this
      rw [this, hge]

set_option maxHeartbeats 1600000 in
set_option maxRecDepth 20000 in
theorem Insert_room {w : World} {g off n c i vb : Nat} {xs news : List Value} (h : RowC w 6 (.slice (some ⟨g, off, none⟩) n (c + 1)) n xs) (hx1 : ∀ u ∈ xs, u.oneCell' = true) (hw : Nw w vb news) (hi : i < n) (hr : n + 1 ≤ c + 1) (hvb : vb ≠ g) :
    Calls Try.prog 63 #[.slice (some ⟨g, off, none⟩) n (c + 1), .int .i64 (i : Int), .slice (some ⟨vb, 0, none⟩) 1 1] w (InsOut w (.slice (some ⟨g, off, none⟩) n (c + 1)) n i xs news) := by
  have hsh := shifted h hi hr hw.len
  obtain ⟨hx, p, c0, hv, h2, h3, h4⟩ := id h
  injection hv with q1 q2 q3
  subst q3
  rcases h4 with h4 | ⟨g0, off0, hp, hR, hC⟩
  · omega
  rw [← q1] at hp
  injection hp with hp
  injection hp with e1 e2
  subst e1 e2
  clear q1 q2 h2
  have hdl : (xs.drop (i * 6)).length = (n - i) * 6 := by rw [List.length_drop, hx, Nat.sub_mul]
  have hsz : (Try.prog.info? 99).map (·.size) = some 6 := by
    have := infoRec
    cases hq : Try.prog.info? 99 with
    | none => rw [hq] at this; simp at this
    | some z => rw [hq] at this; simp at this; simp [this.2.1]
  have hc0 := run_rcutLow (some ⟨g, off, none⟩) n (c + 1) i (by omega)
  have hcA := run_rcutHigh (some ⟨g, off, none⟩) n (c + 1) (n + 1) hr
  rw [cutP_0, Nat.sub_zero, Nat.sub_zero] at hcA
  have hcB := run_rcutLow (some ⟨g, off, none⟩) (n + 1) (c + 1) (i + 1) (by omega)
  rw [cutP_at _ _ _ _ _ (by omega), show n + 1 - (i + 1) = n - i by omega, show c + 1 - (i + 1) = c - i by omega] at hcB
  have hcC := run_rcutLow (some ⟨g, off, none⟩) (n + 1) (c + 1) i (by omega)
  rw [cutP_at _ _ _ _ _ (by omega)] at hcC
  obtain ⟨b1, hb1⟩ : ∃ b1, b1 = off + (i + 1) * 6 := ⟨_, rfl⟩
  obtain ⟨b2, hb2⟩ : ∃ b2, b2 = off + i * 6 := ⟨_, rfl⟩
  rw [← hb1] at hcB
  rw [← hb2] at hcC
  rw [← hb1, ← hb2] at hsh
  have hov : ∀ lb cb, (callFunc 78 #[.slice (some ⟨vb, 0, none⟩) 1 1, .slice (some ⟨g, b1, none⟩) lb cb]).run Try.prog w = .ok (.value (.bool false)) w := fun lb cb => by
    have hgo : ∃ cs e fr, w.heap[g]? = some (.cells cs e fr) ∧ cs.size ≠ 0 := by
      have h0 := (hR 0 (by omega)).1
      unfold World.cell? at h0
      cases hq : w.heap[g]? with
      | none => simp [hq] at h0
      | some o =>
        cases o with
        | cells cs e fr =>
          refine ⟨cs, e, fr, rfl, fun e0 => ?_⟩
          have h9 : cs[off + 0]?.isSome = true := by simpa [World.cell?, hq] using (hR 0 (by omega)).1
          have : cs[off + 0]? = none := Array.getElem?_eq_none (by omega)
          rw [this] at h9
          cases h9
        | _ => simp [hq] at h0
    obtain ⟨cs, e, fr, hgo, hcs⟩ := hgo
    rw [run_callFunc_extern Try.func78 (by kernel_rfl) (by kernel_rfl) (by kernel_rfl) (e := Extern.SlicesOverlaps.overlaps #[55, 55] #[4]) (by kernel_rfl),
      Lib.run_overlaps_apart w 55 4 99 Try.underlying55 6 (fun w => by kernel_rfl) ⟨vb, 0, none⟩ ⟨g, b1, none⟩ 1 1 lb cb hvb 99 e 6 cs.size (by unfold World.shape?; rw [hw.obj]; simp [hw.len]) (by unfold World.shape?; rw [hgo]) hcs (by unfold World.frozen?; rw [hw.obj]; simp) (by unfold World.frozen?; rw [hw.obj]; simp)]
    rfl
  have hcp1 : ∀ ty dc sc, (Builtin.copy_ #[55, 55] ty #[.slice (some ⟨g, b1, none⟩) (n - i) dc, .slice (some ⟨g, b2, none⟩) (n + 1 - i) sc]).run Try.prog w.drew = .ok (goInt ((n - i : Nat) : Int)) (w.drew.setCells g b1 (xs.drop (i * 6))) := fun ty dc sc => by
    have := run_copy_rows (P := Try.prog) w.drew 55 55 ty 99 6 g b1 (n - i) dc ⟨g, b2, none⟩ (n + 1 - i) sc (xs.drop (i * 6)) Try.underlying55 hsz (by rw [hdl, show Nat.min (n + 1 - i) (n - i) = n - i from Nat.min_eq_right (by omega)])
      (fun j v hj => by
        rw [Addr.add_lit, hb2, Nat.add_assoc]
        exact hC (i * 6 + j) v (by rwa [List.getElem?_drop] at hj))
      (fun j hj => by rw [hb1, Nat.add_assoc]; exact (hR _ (by omega)).1) (fun j hj => by rw [hb1, Nat.add_assoc]; exact (hR _ (by omega)).2) (fun v hv => hx1 v (List.mem_of_mem_drop hv))
    rw [show Nat.min (n + 1 - i) (n - i) = n - i from Nat.min_eq_right (by omega)] at this
    exact this
  obtain ⟨W1, hW1⟩ : ∃ W1, W1 = w.drew.setCells g b1 (xs.drop (i * 6)) := ⟨_, rfl⟩
  rw [← hW1] at hcp1
  have hcp2 : ∀ ty dc, (Builtin.copy_ #[55, 55] ty #[.slice (some ⟨g, b2, none⟩) (n + 1 - i) dc, .slice (some ⟨vb, 0, none⟩) 1 1]).run Try.prog W1 = .ok (goInt 1) (W1.setCells g b2 news) := fun ty dc => by
    have := run_copy_rows (P := Try.prog) W1 55 55 ty 99 6 g b2 (n + 1 - i) dc ⟨vb, 0, none⟩ 1 1 news Try.underlying55 hsz (by rw [hw.len, show Nat.min 1 (n + 1 - i) = 1 from Nat.min_eq_left (by omega)])
      (fun j v hj => by
        rw [Addr.add_lit, Nat.zero_add, hW1, World.cell?_setCells_out g _ _ _ _ (fun h _ => absurd h hvb)]
        exact hw.cell j v hj)
      (fun j hj => by rw [hW1, hb2, Nat.add_assoc]; exact isSome_setCells7 _ _ _ _ _ (hR _ (by have := hw.len; omega)).1) (fun j hj => by rw [hW1, World.frozen?_setCells, hb2, Nat.add_assoc]; exact (hR _ (by have := hw.len; omega)).2) hw.one
    rw [show Nat.min 1 (n + 1 - i) = 1 from Nat.min_eq_left (by omega)] at this
    exact this
  have HO : Hid (InsOut w (.slice (some ⟨g, off, none⟩) n (c + 1)) n i xs news (.returned (.slice (some ⟨g, off, none⟩) (n + 1) (c + 1))) (W1.setCells g b2 news)) := by
    refine ⟨_, rfl, ?_, ?_, fun k hk => .inl hk⟩
    · rw [hW1]
      exact hsh.carry (fun k hk => by
        have e : ∀ (vs : List Value) (o : Nat) (w : World), (w.setCells g o vs).drew = w.drew.setCells g o vs := fun vs => by
          induction vs with
          | nil => intro o w; rfl
          | cons v r ih => intro o w; rw [World.setCells, World.setCells, ih]; rfl
        rw [← e, ← e]
        rfl)
    · rw [hW1]
      exact ⟨by rw [os_setCells6, os_setCells6]; rfl, by rw [tape_setCells6, tape_setCells6]; rfl, by rw [output_setCells6, output_setCells6]; rfl, by rw [size_setCells6, size_setCells6]; exact Nat.le_refl _, fun k hk hn => by
        have hkg : k ≠ g := fun e => hn (by rw [e]; rfl)
        rw [heap_setCells6 g hkg, heap_setCells6 g hkg]
        rfl⟩
  generalize InsOut w (.slice (some ⟨g, off, none⟩) n (c + 1)) n i xs news = Q at HO ⊢
  generalize cutP (some ⟨g, off, none⟩) i (c + 1) 6 = p0 at hc0
  have hz1 : ¬ ((i : Int) = (n : Int)) := by omega
  have hz2 : ¬ ((c : Int) + 1 < (n : Int) + 1) := by omega
  have hcm : c + 1 ≤ 9223372036854775807 := by unfold maxLen at h3; omega
  have hw1 : IntKind.i64.wrap ((i : Int) + 1) = (i : Int) + 1 := by rw [IntKind.wrap_i64]; omega
  have hw2 : IntKind.i64.wrap ((n : Int) + 1) = (n : Int) + 1 := by rw [IntKind.wrap_i64]; omega
  have hcA' : ∀ W, (Instr.slice 55 (.slice (some ⟨g, off, none⟩) n (c + 1)) none (some (.int .i64 ((n : Int) + 1))) none).run Try.prog W = .ok (.slice (some ⟨g, off, none⟩) (n + 1) (c + 1)) W := fun W => by
    rw [show (n : Int) + 1 = ((n + 1 : Nat) : Int) by omega]
    exact hcA W
  have hcB' : ∀ W, (Instr.slice 55 (.slice (some ⟨g, off, none⟩) (n + 1) (c + 1)) (some (.int .i64 ((i : Int) + 1))) none none).run Try.prog W = .ok (.slice (some ⟨g, b1, none⟩) (n - i) (c - i)) W := fun W => by
    rw [show (i : Int) + 1 = ((i + 1 : Nat) : Int) by omega]
    exact hcB W
  clear h hx1 hw hR hC hx h3 hsh hdl hvb hW1 hsz hcB hcA hb1 hb2
  go_enter Try.func63, Try.ntmps63
  go_wp2_with (simp only [hov])
  go_region_law (refine step_copy7 rfl _ _ 55 55 rfl (.slice (some ⟨g, b1, none⟩) (n - i) (c - i)) (.slice (some ⟨g, b2, none⟩) (n + 1 - i) (c + 1 - i)) (by simp [Act.eval, Act.put]) (by simp [Act.eval, Act.put]) (hcp1 _ _ _) ?_)
  go_wp2_with (at_builtin; refine wpList_copy7 _ rfl _ _ 55 55 rfl _ _ rfl rfl (hcp2 _ _) ?_)
  exact HO.out

theorem drew_setCells7 (b : Nat) : ∀ (vs : List Value) (o : Nat) (w : World), (w.setCells b o vs).drew = w.drew.setCells b o vs
  | [], _, _ => rfl
  | v :: r, o, w => by rw [World.setCells, World.setCells, drew_setCells7 b r]; rfl

/-- A new row: what stood ahead of i, the new one, what stood from i on. -/
theorem laidNew {W1 : World} {N n i G : Nat} {xs news : List Value} {ROW : Array Value} {e : TypeId} (hN : W1.heap[N]? = some (.cells ROW e (0, 0))) (hx : xs.length = n * 6) (hi : i < n) (hl : news.length = 6) (hG : n + 1 ≤ G) (hGm : G ≤ maxLen)
    (hR : ROW.size = G * 6) (hT : ∀ (j : Nat) (x : Value), (xs.take (i * 6))[j]? = some x → ROW[j]? = some x) :
    RowC ((W1.setCells N (i * 6) news).setCells N ((i + 1) * 6) (xs.drop (i * 6))) 6 (.slice (some ⟨N, 0, none⟩) (n + 1) G) (n + 1) (xs.take (i * 6) ++ (news ++ xs.drop (i * 6))) := by
  have hdl : (xs.drop (i * 6)).length = (n - i) * 6 := by rw [List.length_drop, hx, Nat.sub_mul]
  have htl : (xs.take (i * 6)).length = i * 6 := by rw [List.length_take, hx]; omega
  have hc : ∀ j, W1.cell? ⟨N, j, none⟩ = ROW[j]? := fun j => by unfold World.cell?; rw [hN]; rfl
  have hR0 : ∀ j, j < G * 6 → (W1.cell? ⟨N, j, none⟩).isSome = true := fun j hj => by
    rw [hc, Array.getElem?_eq_getElem (by omega)]
    rfl
  have hR1 : ∀ j, j < G * 6 → ((W1.setCells N (i * 6) news).cell? ⟨N, j, none⟩).isSome = true := fun j hj => isSome_setCells7 _ _ _ _ _ (hR0 j hj)
  have hf : ∀ j, W1.frozen? ⟨N, j, none⟩ = false := fun j => by unfold World.frozen?; rw [hN]; simp
  refine ⟨by simp only [List.length_append, htl, hdl, hl]; omega, _, _, rfl, hG, hGm, .inr ⟨N, 0, rfl, fun j hj => ⟨isSome_setCells7 _ _ _ _ _ (hR1 _ (by omega)), by rw [World.frozen?_setCells, World.frozen?_setCells]; exact hf _⟩, fun j x hj => ?_⟩⟩
  rw [Nat.zero_add]
  by_cases c1 : j < i * 6
  · rw [List.getElem?_append_left (by omega)] at hj
    rw [World.cell?_setCells_out N _ _ _ ⟨N, j, none⟩ (fun _ _ => .inl (by show j < (i + 1) * 6; omega)), World.cell?_setCells_out N news _ _ ⟨N, j, none⟩ (fun _ _ => .inl (by show j < i * 6; omega)), hc]
    exact hT j x hj
  · rw [List.getElem?_append_right (by omega), htl] at hj
    by_cases c2 : j < i * 6 + 6
    · rw [List.getElem?_append_left (by omega)] at hj
      rw [World.cell?_setCells_out N _ _ _ ⟨N, j, none⟩ (fun _ _ => .inl (by show j < (i + 1) * 6; omega))]
      obtain ⟨hlt, hge⟩ := List.getElem?_eq_some_iff.1 hj
      have := World.cell?_setCells_in N news (i * 6) W1 (fun q hq => hR0 _ (by omega)) (j - i * 6) hlt
      rw [show i * 6 + (j - i * 6) = j by omega] at this
      rw [this, hge]
    · rw [List.getElem?_append_right (by omega), hl] at hj
      obtain ⟨hlt, hge⟩ := List.getElem?_eq_some_iff.1 hj
      have := World.cell?_setCells_in N (xs.drop (i * 6)) ((i + 1) * 6) (W1.setCells N (i * 6) news) (fun q hq => hR1 _ (by omega)) (j - i * 6 - 6) hlt
      rw [show (i + 1) * 6 + (j - i * 6 - 6) = j by omega] at this
      rw [this, hge]

set_option maxHeartbeats 1600000 in
set_option maxRecDepth 20000 in
theorem Insert_grow {w : World} {g off n c i vb : Nat} {xs news : List Value} (h : RowC w 6 (.slice (some ⟨g, off, none⟩) n (c + 1)) n xs) (hx1 : ∀ u ∈ xs, u.oneCell' = true) (hw : Nw w vb news) (hi : i < n) (hr : c + 1 < n + 1) (hn : n ≤ 1000000000) :
    Calls Try.prog 63 #[.slice (some ⟨g, off, none⟩) n (c + 1), .int .i64 (i : Int), .slice (some ⟨vb, 0, none⟩) 1 1] w (InsOut w (.slice (some ⟨g, off, none⟩) n (c + 1)) n i xs news) := by
  obtain ⟨hx, p, c0, hv, h2, h3, h4⟩ := id h
  injection hv with q1 q2 q3
  subst q3
  rcases h4 with h4 | ⟨g0, off0, hp, hR, hC⟩
  · omega
  rw [← q1] at hp
  injection hp with hp
  injection hp with e1 e2
  subst e1 e2
  clear q1 q2
  obtain ⟨i0, hi0, hz0, hzs, hzb⟩ := info_parts infoRec
  have hsz : (Try.prog.info? 99).map (·.size) = some 6 := by rw [hi0]; simp [hzs]
  have hdl : (xs.drop (i * 6)).length = (n - i) * 6 := by rw [List.length_drop, hx, Nat.sub_mul]
  have htl : (xs.take (i * 6)).length = i * 6 := by rw [List.length_take, hx]; omega
  have hgw : g < w.heap.size := by
    obtain ⟨x, hx⟩ := Option.isSome_iff_exists.1 (hR 0 (by omega)).1
    exact World.block_lt_of_cell? _ _ hx
  have hvw : vb < w.heap.size := by
    have := hw.obj
    rcases Nat.lt_or_ge vb w.heap.size with q | q
    · exact q
    · rw [Array.getElem?_eq_none q] at this; cases this
  have hold : (Builtin.firstCells i0.size i (.slice (some ⟨g, off, none⟩) i (c + 1))).run Try.prog w.drew = .ok (xs.take (i * 6)).toArray w.drew := by
    rw [hzs]
    exact run_firstCells_some w.drew 6 i ⟨g, off, none⟩ i (c + 1) (xs.take (i * 6)) htl (fun j v hj => by
      rw [Addr.add_lit]
      rw [List.getElem?_take] at hj
      split at hj
      · exact hC j v hj
      · cases hj)
  have hik : i + (n + 1 - i) = n + 1 := by omega
  obtain ⟨G, hG⟩ : ∃ G, G = grownCap w (n + 1) (c + 1) 99 := ⟨_, rfl⟩
  obtain ⟨z, hz⟩ : ∃ z : Value, z = .agg #[.int .i64 0, .int .i64 0, .int .i64 0, .int .i64 0, .int .i64 0, .string ⟨#[]⟩] := ⟨_, rfl⟩
  have hzc : z.cells.size = 6 := by rw [hz]; rfl
  obtain ⟨ROW, hROW⟩ : ∃ ROW : Array Value, ROW = (xs.take (i * 6)).toArray ++ Builtin.zeroCells z.cells (n + 1 - i) ++ Builtin.zeroCells z.cells (G - (n + 1)) := ⟨_, rfl⟩
  have hrz : ∀ ty, (Builtin.append_ #[55, 3] ty #[.slice (some ⟨g, off, none⟩) i (c + 1), .int .i64 ((n : Int) + 1 - (i : Int))]).run Try.prog w =
      .ok (.slice (some ⟨w.heap.size, 0, none⟩) (n + 1) G) (w.drew.alloc (.cells ROW 99)) := fun ty => by
    have h := Lib.run_append_grow_zeros w 55 3 ty 99 i0 _ .i64 .i64 Try.underlying55 Try.underlying3 hi0 hz0 (some ⟨g, off, none⟩) i (c + 1) (xs.take (i * 6)) hold (n + 1 - i) (by omega) (by omega) (by omega) (by omega) (by rw [hzb]; omega) (by rw [hzb, hik]; exact growslice_fits hr (by omega))
    rw [hik, ← hG, ← hz, ← hROW] at h
    rw [show (n : Int) + 1 - (i : Int) = ((n + 1 - i : Nat) : Int) by omega]
    exact h
  have hGn : n + 1 ≤ G := by rw [hG]; exact grownCap_ge w _ _ _
  have hGm : G ≤ maxLen := by rw [hG]; exact grownCap_le_maxLen w (n + 1) (c + 1) _ (by unfold maxLen; omega)
  have hRs : ROW.size = G * 6 := by
    rw [hROW]
    simp only [Array.size_append, List.size_toArray, size_zeroCells, hzc, htl]
    omega
  have hRT : ∀ (j : Nat) (x : Value), (xs.take (i * 6))[j]? = some x → ROW[j]? = some x := fun j x hj => by
    have hlt := (List.getElem?_eq_some_iff.1 hj).1
    rw [hROW, Array.getElem?_append_left (by simp; omega), Array.getElem?_append_left (by simpa using hlt)]
    simpa using hj
  obtain ⟨W1, hW1⟩ : ∃ W1, W1 = w.drew.alloc (.cells ROW 99) := ⟨_, rfl⟩
  rw [← hW1] at hrz
  obtain ⟨N, hN⟩ : ∃ N, N = w.heap.size := ⟨_, rfl⟩
  have hWN : W1.heap[N]? = some (.cells ROW 99 (0, 0)) := by rw [hW1, hN]; exact heap_alloc_new w.drew _
  have hb1 : Below w.heap.size w W1 := by rw [hW1]; exact (Below.refl _ _).drew.alloc (Nat.le_refl _) _
  have hrow := laidNew hWN hx hi hw.len hGn hGm hRs hRT
  have hc1 : ∀ j, W1.cell? ⟨N, j, none⟩ = ROW[j]? := fun j => by unfold World.cell?; rw [hWN]; rfl
  have hR0 : ∀ j, j < G * 6 → (W1.cell? ⟨N, j, none⟩).isSome = true := fun j hj => by
    rw [hc1, Array.getElem?_eq_getElem (by omega)]
    rfl
  have hf : ∀ j, W1.frozen? ⟨N, j, none⟩ = false := fun j => by unfold World.frozen?; rw [hWN]; simp
  have hcpA : ∀ ty dc, (Builtin.copy_ #[55, 55] ty #[.slice (some ⟨N, i * 6, none⟩) (n + 1 - i) dc, .slice (some ⟨vb, 0, none⟩) 1 1]).run Try.prog W1 = .ok (goInt 1) (W1.setCells N (i * 6) news) := fun ty dc => by
    have := run_copy_rows (P := Try.prog) W1 55 55 ty 99 6 N (i * 6) (n + 1 - i) dc ⟨vb, 0, none⟩ 1 1 news Try.underlying55 hsz (by rw [hw.len, show Nat.min 1 (n + 1 - i) = 1 from Nat.min_eq_left (by omega)])
      (fun j v hj => by
        rw [Addr.add_lit, Nat.zero_add, hb1.cell (p := ⟨vb, j, none⟩) hvw]
        exact hw.cell j v hj)
      (fun j hj => hR0 _ (by have := hw.len; omega)) (fun j hj => hf _) hw.one
    rw [show Nat.min 1 (n + 1 - i) = 1 from Nat.min_eq_left (by omega)] at this
    exact this
  obtain ⟨W2, hW2⟩ : ∃ W2, W2 = W1.setCells N (i * 6) news := ⟨_, rfl⟩
  rw [← hW2] at hcpA
  have hcpB : ∀ ty dc sc, (Builtin.copy_ #[55, 55] ty #[.slice (some ⟨N, (i + 1) * 6, none⟩) (n - i) dc, .slice (some ⟨g, off + i * 6, none⟩) (n - i) sc]).run Try.prog W2.drew = .ok (goInt ((n - i : Nat) : Int)) (W2.drew.setCells N ((i + 1) * 6) (xs.drop (i * 6))) := fun ty dc sc => by
    have := run_copy_rows (P := Try.prog) W2.drew 55 55 ty 99 6 N ((i + 1) * 6) (n - i) dc ⟨g, off + i * 6, none⟩ (n - i) sc (xs.drop (i * 6)) Try.underlying55 hsz (by rw [hdl, show Nat.min (n - i) (n - i) = n - i from Nat.min_self _])
      (fun j v hj => by
        rw [Addr.add_lit, Nat.add_assoc]
        show W2.cell? _ = _
        rw [hW2, World.cell?_setCells_out N _ _ _ _ (fun h _ => absurd h (by show g ≠ N; omega)), hb1.cell (p := ⟨g, off + (i * 6 + j), none⟩) hgw]
        exact hC (i * 6 + j) v (by rwa [List.getElem?_drop] at hj))
      (fun j hj => by show (W2.cell? _).isSome = true; rw [hW2]; exact isSome_setCells7 _ _ _ _ _ (hR0 _ (by omega))) (fun j hj => by show W2.frozen? _ = false; rw [hW2, World.frozen?_setCells]; exact hf _) (fun v hv => hx1 v (List.mem_of_mem_drop hv))
    rw [show Nat.min (n - i) (n - i) = n - i from Nat.min_self _] at this
    exact this
  have HO : Hid (InsOut w (.slice (some ⟨g, off, none⟩) n (c + 1)) n i xs news (.returned (.slice (some ⟨N, 0, none⟩) (n + 1) G)) (W2.drew.setCells N ((i + 1) * 6) (xs.drop (i * 6)))) := by
    refine ⟨_, rfl, ?_, ?_, fun k hk => .inr ?_⟩
    · rw [← drew_setCells7, hW2]
      exact hrow.carry (fun _ _ => rfl)
    · rw [hW2]
      refine ⟨by rw [os_setCells6]; show (W1.setCells _ _ _).os = _; rw [os_setCells6]; exact hb1.os, by rw [tape_setCells6]; show (W1.setCells _ _ _).tape = _; rw [tape_setCells6]; exact hb1.tape, by rw [output_setCells6]; show (W1.setCells _ _ _).output = _; rw [output_setCells6]; exact hb1.output, by rw [size_setCells6]; show _ ≤ (W1.setCells _ _ _).heap.size; rw [size_setCells6]; exact hb1.size, fun k hk _ => ?_⟩
      have hkN : k ≠ N := by omega
      rw [heap_setCells6 N hkN]
      show (W1.setCells _ _ _).heap[k]? = _
      rw [heap_setCells6 N hkN]
      exact hb1.block k hk
    · cases G with
      | zero => omega
      | succ G' => simp [cBlk] at hk; omega
  generalize InsOut w (.slice (some ⟨g, off, none⟩) n (c + 1)) n i xs news = Q at HO ⊢
  have hc0 := run_rcutLow (some ⟨g, off, none⟩) n (c + 1) i (by omega)
  rw [cutP_at _ _ _ _ _ (by omega)] at hc0
  have hcA := run_rcutHigh (some ⟨g, off, none⟩) n (c + 1) i (by omega)
  rw [cutP_0, Nat.sub_zero, Nat.sub_zero] at hcA
  have hcB := run_rcutLow (some ⟨N, 0, none⟩) (n + 1) G i (by omega)
  rw [cutP_at _ _ _ _ _ (by omega), Nat.zero_add] at hcB
  have hcC : ∀ W, (Instr.slice 55 (.slice (some ⟨N, 0, none⟩) (n + 1) G) (some (.int .i64 ((i : Int) + 1))) none none).run Try.prog W = .ok (.slice (some ⟨N, (i + 1) * 6, none⟩) (n - i) (G - (i + 1))) W := fun W => by
    have := run_rcutLow (some ⟨N, 0, none⟩) (n + 1) G (i + 1) (by omega) W
    rw [cutP_at _ _ _ _ _ (by omega), Nat.zero_add, show n + 1 - (i + 1) = n - i by omega] at this
    rw [show (i : Int) + 1 = ((i + 1 : Nat) : Int) by omega]
    exact this
  rw [← hN] at hrz
  obtain ⟨b1, hb1'⟩ : ∃ b1, b1 = (i + 1) * 6 := ⟨_, rfl⟩
  obtain ⟨b2, hb2'⟩ : ∃ b2, b2 = off + i * 6 := ⟨_, rfl⟩
  obtain ⟨b3, hb3'⟩ : ∃ b3, b3 = i * 6 := ⟨_, rfl⟩
  rw [← hb1'] at hcC hcpB HO
  rw [← hb2'] at hc0 hcpB
  rw [← hb3'] at hcB hcpA
  have hz1 : ¬ ((i : Int) = (n : Int)) := by omega
  have hz2 : (c : Int) + 1 < (n : Int) + 1 := by omega
  have hw1 : IntKind.i64.wrap ((i : Int) + 1) = (i : Int) + 1 := by rw [IntKind.wrap_i64]; omega
  have hw2 : IntKind.i64.wrap ((n : Int) + 1) = (n : Int) + 1 := by rw [IntKind.wrap_i64]; omega
  have hw3 : IntKind.i64.wrap ((n : Int) + 1 - (i : Int)) = (n : Int) + 1 - (i : Int) := by rw [IntKind.wrap_i64]; omega
  clear h hx1 hw hR hC hx h3 hdl htl hb1' hb2' hb3' hW1 hW2 hsz hold hG hROW hz hzc hik hGn hGm hRs hRT hN hWN hb1 hrow hc1 hR0 hf hgw hvw hi0 hz0 hzs hzb hn
  go_enter Try.func63, Try.ntmps63
  go_wp2_with (first
    | (at_builtin; refine Lib.wpList_append_run _ rfl _ _ _ _ rfl _ _ rfl rfl _ _ (hrz _) ?_)
    | (at_builtin; refine wpList_copy7 _ rfl _ _ 55 55 rfl _ _ rfl rfl (hcpA _ _) ?_))
  go_region_law (refine step_copy7 rfl _ _ 55 55 rfl (.slice (some ⟨N, b1, none⟩) (n - i) (G - (i + 1))) (.slice (some ⟨g, b2, none⟩) (n - i) (c + 1 - i)) (by simp [Act.eval, Act.put]) (by simp [Act.eval, Act.put]) (hcpB _ _ _) ?_)
  go_wp2
  exact HO.out

theorem Insert_c {w : World} {v : Value} {n i vb : Nat} {xs news : List Value} (h : RowC w 6 v n xs) (hx1 : ∀ u ∈ xs, u.oneCell' = true) (hw : Nw w vb news) (hi : i ≤ n) (hn : n ≤ 1000000000) (hvb : cBlk v ≠ some vb) :
    Calls Try.prog 63 #[v, .int .i64 (i : Int), .slice (some ⟨vb, 0, none⟩) 1 1] w (InsOut w v n i xs news) := by
  by_cases e : i = n
  · subst e
    exact Insert_end h hw hn
  · obtain ⟨g, off, c, rfl, h1, h2, _, _⟩ := h.cells (by omega)
    by_cases r : n + 1 ≤ c + 1
    · exact Insert_room h hx1 hw (by omega) r (fun q => hvb (by rw [q]; rfl))
    · exact Insert_grow h hx1 hw (by omega) (by omega) hn

end Go.Proofs.Yteaopnhjndnpnaa
