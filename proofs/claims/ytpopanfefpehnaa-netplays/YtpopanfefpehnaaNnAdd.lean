/-
  A letter is put behind all others.
-/
import Derived.Test.YtpopanfefpehnaaNnNet
import Derived.StillTailTactics
import Derived.Deep.RegionHeld3
namespace Go.Proofs.Ytpopanfefpehnaa
open Go.RowKit

/-- An operation that only reads is taken first. -/
theorem take7 {P : Program} {md : Region.Mode} {ops : Array Oper} {Q : Exit → Act → World → Prop} {S : World → Prop} {i d : Nat} {oi : Oper} {v : Value} {fuel : Nat} {listed : Array Bool} {a : Act} {w : World} (hi : ops[i]? = some oi) (hd : oi.dst = some d)
    (hs : Region.noSelect ops = true) (hf : Region.free md ops listed i = true) (hr : (Region.ready md ops listed).contains i = true)
    (hQ : ∀ c a w, Q (.panic c) (a.put (some d) v) w → Q (.panic c) a w) (hy : YieldsIf P ops S oi v a) (hS : S w)
    (h : wpAnyH P md ops Q S fuel (listed.setIfInBounds i true) (a.put (some d) v) w) : wpAnyH P md ops Q S (fuel + 1) listed a w :=
  wpAnyH_take hi hs hf hr (by rw [hd]; exact hQ) hy hS (by rw [hd]; exact h)

/-- append, as one step of a region that draws. -/
theorem step7 {P : Program} {w : World} {ops : Array Oper} {o : Oper} {a : Act} {K : Act → World → Prop} {Q : Exit → Act → World → Prop} {E : Prop} (d : Nat) (hd : o.dst = some d) (hgd : o.guard = none) (s x : Operand) (t tx e : TypeId)
    (ho : o.op = .call { callee := .builtin .append, args := #[s, x], argTypes := #[t, tx] })
    (ht : P.underlying t = some (.slice e)) (z : Value) (size bytes : Nat) (hinfo : (P.info? e).map (fun i => (i.zero, i.size, i.bytes)) = some (some z, size, bytes)) (hzs : z.cells.size = size)
    (v : Value) (n : Nat) (xs : List Value) (hv : a.eval s = v) (hown : RowC w size v n xs) (xv : Value) (m : Nat) (news : List Value) (hx : a.eval x = xv) (hs : Src P size tx xv m news w)
    (hlen : (n + m) * bytes ≤ 140737488355328) (hmax : n + m ≤ maxLen)
    (h : ∀ v' w', RowC w' size v' (n + m) (xs ++ news) → w.grownBy w' (cBlk v) → (∀ k, cBlk v' = some k → cBlk v = some k ∨ w.heap.size ≤ k) → K (a.put (some d) v') w') :
    if Region.wanted o (yielded ops a.tmps) = true then Oper.wp P o a w K Q else E :=
  step_append_rowC hgd s x t tx e ho ht z size bytes hinfo hzs v n xs hv hown xv m news hx hs hlen hmax (by rw [hd]; exact h)

/-- A map's entry made ready, as one step. -/
theorem stepEntry {P : Program} {w w1 : World} {ops : Array Oper} {o : Oper} {a : Act} {K : Act → World → Prop} {Q : Exit → Act → World → Prop} {E : Prop} (d : Nat) (hd : o.dst = some d) (hgd : o.guard = none) (t : TypeId) (m x : Operand)
    (ho : o.op = .mapEntry t m x) {mv xv v : Value} (hm : a.eval m = mv) (hx : a.eval x = xv) (hr : (Instr.mapEntry t mv xv).run P w = .ok v w1) (h : K (a.put (some d) v) w1) :
    if Region.wanted o (yielded ops a.tmps) = true then Oper.wp P o a w K Q else E := by
  have hw : Region.wanted o (yielded ops a.tmps) = true := by simp [Region.wanted, hgd]
  rw [if_pos hw]
  unfold Oper.wp
  simp [execOp, ho, hm, hx, hr, Result.andThen]
  show K (a.put o.dst v) w1
  rw [hd]
  exact h

/-- A map's entry stored, as one step. -/
theorem stepStore {P : Program} {w w1 : World} {ops : Array Oper} {o : Oper} {a : Act} {K : Act → World → Prop} {Q : Exit → Act → World → Prop} {E : Prop} (hd : o.dst = none) (hgd : o.guard = none) (t : TypeId) (m x y : Operand)
    (ho : o.op = .entryStore t m x y) {mv xv yv : Value} (hm : a.eval m = mv) (hx : a.eval x = xv) (hy : a.eval y = yv) (hr : (Instr.entryStore t mv xv yv).run P w = .ok () w1) (h : K a w1) :
    if Region.wanted o (yielded ops a.tmps) = true then Oper.wp P o a w K Q else E := by
  have hw : Region.wanted o (yielded ops a.tmps) = true := by simp [Region.wanted, hgd]
  rw [if_pos hw]
  unfold Oper.wp
  simp [execOp, ho, hm, hx, hy, hr, Result.andThen]
  show K (a.put o.dst undef) w1
  rw [hd]
  exact h

theorem cell_set6 {w : World} {b o : Nat} {y : Value} (x : Value) (h : w.cell? ⟨b, o, none⟩ = some y) (q : Nat) : (w.setCell ⟨b, o, none⟩ x).cell? ⟨b, q, none⟩ = if q = o then some x else w.cell? ⟨b, q, none⟩ := by
  split
  · rename_i e
    subst e
    exact World.cell?_setCell_same _ _ _ (by rw [h])
  · rename_i e
    exact World.cell?_setCell_other _ _ _ _ (fun e' => e (by injection e' with _ e2; exact e2.symm))
theorem size_set6 (w : World) (p : Addr) (x : Value) : (w.setCell p x).heap.size = w.heap.size := by simp [World.setCell]

/-- What a call that stored anew left. -/
theorem NnV.put {w w' : World} {B : Nat} {s s' : Q.St} {own : Nat → Prop} {n n' : Nat} {v v' : Value} {mb em em' : Nat} (h : NnV w B s own n v mb em) (hk : KeptB B own w w')
    (c0 : w'.cell? ⟨B, 0, none⟩ = some (.int .i64 s'.most)) (c1 : w'.cell? ⟨B, 1, none⟩ = some v') (c2 : w'.cell? ⟨B, 2, none⟩ = some (.map (some mb))) (c3 : w'.cell? ⟨B, 3, none⟩ = some (.int .i64 (em' : Int)))
    (fz : ∀ j, j < 4 → w'.frozen? ⟨B, j, none⟩ = false) (row : RowC w' 3 v' s'.ls.length (ltCells s'.ls)) (map : Mp w' mb n' (fun a b => (Q.cnt s'.ls a b : Int))) (hl : ∀ k, cBlk v' = some k → own k ∨ (w.heap.size ≤ k ∧ k < w'.heap.size))
    (few : em' ≤ n') (len : s'.ls.length ≤ n') (ok : Q.Ok s') : NnV w' B s' (sinceB own w w') n' v' mb em' ∧ KeptB B own w w' := by
  have hB := h.lt
  refine ⟨⟨Nat.lt_of_lt_of_le hB hk.size, c0, c1, c2, c3, fz, row, map, hl, .inl h.mmine, fun k hk' => ?_, few, len, ok⟩, hk⟩
  rcases hk' with e | e
  · exact ⟨Nat.lt_of_lt_of_le (h.here k e).1 hk.size, (h.here k e).2⟩
  · exact ⟨e.2, by omega⟩

theorem setW_snoc (ls : List Q.Lt) (l : Q.Lt) : setW (fun a b => (Q.cnt ls a b : Int)) l.fr l.tt ((Q.cnt ls l.fr l.tt : Int) + 1) = fun a b => (Q.cnt (ls ++ [l]) a b : Int) := by
  funext a b
  unfold setW
  rw [Q.cnt_snoc]
  split
  · rename_i e
    rw [if_pos ⟨e.1.symm, e.2.symm⟩, e.1, e.2]
    rfl
  · rename_i e
    rw [if_neg (fun q => e ⟨q.1.symm, q.2.symm⟩)]
    rfl

section
variable {w : World} {B : Nat} {s : Q.St} {own : Nat → Prop} {n : Nat}

/-- What could be read can be read. -/
def Keeps (X Y : World) : Prop := ∀ b o u, X.cell? ⟨b, o, none⟩ = some u → Y.cell? ⟨b, o, none⟩ = some u
theorem Keeps.refl (X : World) : Keeps X X := fun _ _ _ h => h
theorem Keeps.trans {X Y Z : World} (h : Keeps X Y) (k : Keeps Y Z) : Keeps X Z := fun b o u e => k b o u (h b o u e)
theorem Keeps.below {X Y : World} (h : Below X.heap.size X Y) : Keeps X Y := fun b o _ e => (h.cell (p := ⟨b, o, none⟩) (World.block_lt_of_cell? _ _ e)).trans e
theorem Keeps.grown {X Y : World} {mb n : Nat} {f : Int → Int → Int} (hM : Mp X mb n f) (h : X.grownBy Y (some mb)) : Keeps X Y := fun b o _ e => by
  have hne : b ≠ mb := fun q => by rw [q, hM.noCell] at e; cases e
  rw [World.cell?_of_block (a := ⟨b, o, none⟩) (h.block b (World.block_lt_of_cell? _ _ e) (fun q => hne (by injection q)))]
  exact e

/-- 'm[k] = v' in two steps, a look-up ahead of them or between. -/
theorem inc_all {X : World} {mb n : Nat} {f : Int → Int → Int} (hM : Mp X mb n f) (hn : n < maxLen) {fr tt : Int} (hfr : In64 fr) (htt : In64 tt) {v : Int} (hv : In64 v) :
    ∀ Y, Below X.heap.size X Y → Keeps X Y ∧ (Instr.lookup 72 (.map (some mb)) (.agg #[.int .i64 fr, .int .i64 tt]) false).run Try.prog Y = .ok (.int .i64 (f fr tt)) Y ∧
      ∃ v0 st w1, (Instr.mapEntry 72 (.map (some mb)) (.agg #[.int .i64 fr, .int .i64 tt])).run Try.prog Y = .ok (.tuple #[v0, .int .i64 st]) w1 ∧ Keeps X w1 ∧
        (Instr.lookup 72 (.map (some mb)) (.agg #[.int .i64 fr, .int .i64 tt]) false).run Try.prog w1 = .ok (.int .i64 (f fr tt)) w1 ∧
        ∃ w3, (Instr.entryStore 72 (.map (some mb)) (.int .i64 st) (.int .i64 v)).run Try.prog w1 = .ok () w3 ∧ Keeps X w3 ∧ X.grownBy w3 (some mb) ∧ Mp w3 mb (n + 1) (setW f fr tt v) := by
  intro Y hY
  have hMY : Mp Y mb n f := hM.carry (hY.block mb hM.lt)
  refine ⟨Keeps.below hY, hMY.look hfr htt, ?_⟩
  obtain ⟨v0, st, w1, r1, t1, m1, hst⟩ := hMY.entry hn hfr htt
  obtain ⟨w3, r3, t3, m3⟩ := hst w1 v rfl hv
  have k1 : Keeps X w1 := (Keeps.below hY).trans (Keeps.grown hMY t1.grown)
  have gY : X.grownBy Y (some mb) := ⟨hY.os, hY.tape, hY.output, hY.size, fun i hi _ => hY.block i hi⟩
  exact ⟨v0, st, w1, r1, k1, m1.look hfr htt, w3, r3, k1.trans (Keeps.grown m1 t3.grown), (gY.trans t1.grown).trans t3.grown, m3⟩

set_option maxHeartbeats 800000 in
set_option maxRecDepth 20000 in
theorem add_c (h : Nn w B s own n) (hn : n < 1099511627776) (l : Q.Lt) (hl : Q.LtOk l) : Calls Try.prog 66 #[.pointer (some ⟨B, 0, none⟩), .agg #[.int .i64 l.fr, .int .i64 l.tt, .string l.tx]] w fun e w' => e = .returned (.tuple #[]) ∧ AftQ own w w' B { s with ls := s.ls ++ [l] } (n + 1) := by
  obtain ⟨v, mb, em, h⟩ := h
  have hfr : In64 l.fr := ⟨by have := hl.1; omega, by have := hl.1; omega⟩
  have htt : In64 l.tt := ⟨by have := hl.2.1; omega, by have := hl.2.1; omega⟩
  obtain ⟨l0, hl0⟩ : ∃ l0, l0 = l := ⟨_, rfl⟩
  have HL0 : Hid (l0 = l) := hl0
  obtain ⟨fr, tt, tx⟩ := l
  dsimp only at hfr htt ⊢
  obtain ⟨u, hu⟩ : ∃ u, u = w.alloc (.cells #[.int .i64 fr, .int .i64 tt, .string tx] 78) := ⟨_, rfl⟩
  obtain ⟨bx, hbx⟩ : ∃ bx, bx = w.heap.size := ⟨_, rfl⟩
  have hbu : Below w.heap.size w u := by rw [hu]; exact below_alloc w _
  have hU := h.below hbu
  obtain ⟨p, c, hv, hc1, hc2⟩ := h.row.form
  obtain ⟨m, hm⟩ : ∃ m, m = s.ls.length := ⟨_, rfl⟩
  have hlen := h.len
  rw [← hm] at hv hc1 hlen
  have h1 := hU.c1
  rw [hv] at h1
  have hlbx : bx < u.heap.size := by rw [hu, hbx]; simp
  have HS0 : Hid (∀ Y, Below u.heap.size u Y → Y.cell? ⟨bx, 0, none⟩ = some (.int .i64 fr) ∧ Y.cell? ⟨bx, 1, none⟩ = some (.int .i64 tt) ∧ Y.cell? ⟨bx, 2, none⟩ = some (.string tx)) := by
    intro X hX
    have hcs : ∀ j, X.cell? ⟨bx, j, none⟩ = (#[.int .i64 fr, .int .i64 tt, .string tx] : Array Value)[j]? := fun j => by
      rw [hX.cell (p := ⟨bx, j, none⟩) hlbx, hu, hbx]
      exact World.cell?_alloc_mark w _ _ _ j
    exact ⟨hcs 0, hcs 1, hcs 2⟩
  obtain ⟨W, hW⟩ : ∃ W, W = (u.alloc (.cells #[.int .i64 fr, .int .i64 tt, .string tx] 78)).drew := ⟨_, rfl⟩
  have HG : Hid (Below u.heap.size u W) := by rw [hW]; exact (below_alloc u _).drew
  have hVW := hU.below HG.out
  have HR : Hid (RowC W 3 (.slice p m c) m (ltCells s.ls)) := by
    have := hVW.row
    rw [hv, ← hm] at this
    exact this
  have HSrc : Hid (Src Try.prog 3 73 (.slice (some ⟨u.heap.size, 0, none⟩) 1 1) 1 [.int .i64 fr, .int .i64 tt, .string tx] W) := by
    refine Src.ofSlice W Try.underlying73 _ _ _ _ rfl (fun j u hu => ?_) (fun u hu => by simp at hu; rcases hu with rfl | rfl | rfl <;> rfl)
    rw [Addr.add_lit, Nat.zero_add, hW]
    show (World.alloc _ _).cell? _ = _
    rw [World.cell?_alloc_mark]
    simpa using hu
  have h1a : (u.alloc (.cells #[.int .i64 fr, .int .i64 tt, .string tx] 78)).cell? ⟨B, 1, none⟩ = some (.slice p m c) := (Below.cell (below_alloc u _) (p := ⟨B, 1, none⟩) hU.lt).trans h1
  have hL1 : Hid ((m + 1) * 32 ≤ 140737488355328) := by show _ ≤ _; omega
  have hL2 : Hid (m + 1 ≤ maxLen) := by unfold maxLen; show _ ≤ _; omega
  have HEnd : Hid (∀ w4 v', RowC w4 3 v' (m + 1) (ltCells s.ls ++ [.int .i64 fr, .int .i64 tt, .string tx]) → W.grownBy w4 (cBlk (.slice p m c)) → (∀ k, cBlk v' = some k → cBlk (.slice p m c) = some k ∨ W.heap.size ≤ k) →
      ∃ p' c', v' = .slice p' (m + 1) c' ∧ (fun Y : World => Y.cell? ⟨bx, 0, none⟩ = some (.int .i64 fr) ∧ Y.cell? ⟨bx, 1, none⟩ = some (.int .i64 tt) ∧ Y.cell? ⟨bx, 2, none⟩ = some (.string tx)) w4 ∧
        (fun Y : World => Y.cell? ⟨bx, 0, none⟩ = some (.int .i64 fr) ∧ Y.cell? ⟨bx, 1, none⟩ = some (.int .i64 tt) ∧ Y.cell? ⟨bx, 2, none⟩ = some (.string tx)) (w4.setCell ⟨B, 1, none⟩ v') ∧ w4.cell? ⟨B, 1, none⟩ = some (.slice p m c) ∧ w4.frozen? ⟨B, 1, none⟩ = false ∧
        Hid (((w4.setCell ⟨B, 1, none⟩ v').cell? ⟨B, 2, none⟩ = some (.map (some mb)) ∧ Mp (w4.setCell ⟨B, 1, none⟩ v') mb n (fun a b => (Q.cnt s.ls a b : Int))) ∧ ∀ Y, (w4.setCell ⟨B, 1, none⟩ v').grownBy Y (some mb) → Mp Y mb (n + 1) (setW (fun a b => (Q.cnt s.ls a b : Int)) fr tt ((Q.cnt s.ls fr tt : Int) + 1)) → AftQ own w Y B { s with ls := s.ls ++ [l0] } (n + 1))) := by
    intro w4 v' a1 a2 a3
    obtain ⟨p', c', hv', _⟩ := a1.form
    have hBW : B < W.heap.size := hVW.lt
    have hcv : ∀ k, cBlk (.slice p m c) = some k → own k := fun k hk => h.mine k (by rw [hv]; exact hk)
    have hB4 : w4.heap[B]? = W.heap[B]? := a2.block B hBW (fun e => (h.here B (hcv B e.symm)).2 rfl)
    have hbxW : bx < W.heap.size := Nat.lt_of_lt_of_le hlbx HG.out.size
    have hx4 : w4.heap[bx]? = W.heap[bx]? := a2.block bx hbxW (fun e => by have := (h.here bx (hcv bx e.symm)).1; omega)
    have hmbW : mb < W.heap.size := (hVW.here mb h.mmine).1
    have hm4 : w4.heap[mb]? = W.heap[mb]? := a2.block mb hmbW (fun e => h.apart (by rw [hv]; exact e.symm))
    have hmB : mb ≠ B := (h.here mb h.mmine).2
    have hbB : bx ≠ B := by have := h.lt; omega
    have hx5 : (w4.setCell ⟨B, 1, none⟩ v').heap[bx]? = W.heap[bx]? := (Below.heap_setCell _ _ _ _ hbB).trans hx4
    have hm5 : (w4.setCell ⟨B, 1, none⟩ v').heap[mb]? = W.heap[mb]? := (Below.heap_setCell _ _ _ _ hmB).trans hm4
    obtain ⟨z0, z1, z2⟩ := HS0.out W HG.out
    have y1 : w4.cell? ⟨B, 1, none⟩ = some (.slice p m c) := by rw [World.cell?_of_block (a := ⟨B, 1, none⟩) hB4, hVW.c1, hv]
    have hcB : ∀ q, (w4.setCell ⟨B, 1, none⟩ v').cell? ⟨B, q, none⟩ = if q = 1 then some v' else W.cell? ⟨B, q, none⟩ := fun q => by
      rw [cell_set6 _ y1]
      split
      · rfl
      · exact World.cell?_of_block (a := ⟨B, q, none⟩) hB4
    have hfB : ∀ q, (w4.setCell ⟨B, 1, none⟩ v').frozen? ⟨B, q, none⟩ = W.frozen? ⟨B, q, none⟩ := fun q => by
      rw [World.frozen?_setCell]
      exact World.frozen?_of_block (a := ⟨B, q, none⟩) hB4
    have hkW : KeptB B own w W := KeptB.ofBelow (hbu.trans (HG.out.mono hbu.size))
    have hk4 : KeptB B own w (w4.setCell ⟨B, 1, none⟩ v') := (hkW.grown a2 (fun k hk => .inr (.inl (hcv k hk)))).setCell ⟨B, 1, none⟩ (.inl rfl) _
    refine ⟨p', c', hv', ⟨(World.cell?_of_block (a := ⟨bx, 0, none⟩) hx4).trans z0, (World.cell?_of_block (a := ⟨bx, 1, none⟩) hx4).trans z1, (World.cell?_of_block (a := ⟨bx, 2, none⟩) hx4).trans z2⟩, ⟨(World.cell?_of_block (a := ⟨bx, 0, none⟩) hx5).trans z0, (World.cell?_of_block (a := ⟨bx, 1, none⟩) hx5).trans z1, (World.cell?_of_block (a := ⟨bx, 2, none⟩) hx5).trans z2⟩, y1, by rw [World.frozen?_of_block (a := ⟨B, 1, none⟩) hB4]; exact hVW.fz 1 (by omega), ⟨?_, hVW.map.carry hm5⟩, fun Y hY hMY => ?_⟩
    · rw [hcB, if_neg (by omega)]
      exact hVW.c2
    · have hl5 : B < (w4.setCell ⟨B, 1, none⟩ v').heap.size := Nat.lt_of_lt_of_le h.lt hk4.size
      have hBY : Y.heap[B]? = (w4.setCell ⟨B, 1, none⟩ v').heap[B]? := hY.block B hl5 (fun e => hmB (by injection e with e; exact e.symm))
      have hcY : ∀ q, Y.cell? ⟨B, q, none⟩ = if q = 1 then some v' else W.cell? ⟨B, q, none⟩ := fun q => (World.cell?_of_block (a := ⟨B, q, none⟩) hBY).trans (hcB q)
      have e1 : setW (fun a b => (Q.cnt s.ls a b : Int)) fr tt ((Q.cnt s.ls fr tt : Int) + 1) = fun a b => (Q.cnt (s.ls ++ [l0]) a b : Int) := by rw [HL0.out]; exact setW_snoc s.ls ⟨fr, tt, tx⟩
      rw [e1] at hMY
      have hvk : ∀ k, cBlk v' = some k → own k ∨ (w.heap.size ≤ k ∧ k < w4.heap.size) := fun k hk => by
        rcases a3 k hk with q | q
        · exact .inl (hcv k q)
        · exact .inr ⟨Nat.le_trans hkW.size q, a1.lt (by omega) hk⟩
      have hvm : ∀ k, cBlk v' = some k → k ≠ mb := fun k hk e => by
        rcases a3 k hk with q | q
        · exact h.apart (by rw [hv, ← e]; exact q)
        · omega
      have hvB : ∀ k, cBlk v' = some k → k ≠ B := fun k hk e => by
        rcases a3 k hk with q | q
        · exact (h.here k (hcv k q)).2 e
        · omega
      have hpp := h.put (s' := { s with ls := s.ls ++ [l0] }) (n' := n + 1) (v' := v') (em' := em) (hk4.grown hY (fun k hk => .inr (.inl (by injection hk with hk; rw [← hk]; exact h.mmine))))
        (by rw [hcY, if_neg (by omega)]; exact hVW.c0) (by rw [hcY, if_pos rfl]) (by rw [hcY, if_neg (by omega)]; exact hVW.c2) (by rw [hcY, if_neg (by omega)]; exact hVW.c3)
        (fun j hj => by rw [World.frozen?_of_block (a := ⟨B, j, none⟩) hBY, hfB]; exact hVW.fz j hj)
        (by
          have e2 : ltCells (s.ls ++ [l0]) = ltCells s.ls ++ [.int .i64 fr, .int .i64 tt, .string tx] := by rw [HL0.out]; exact ltCells_snoc _ _
          have e3 : (s.ls ++ [l0]).length = m + 1 := by rw [hm]; simp
          show RowC Y 3 v' (s.ls ++ [l0]).length (ltCells (s.ls ++ [l0]))
          rw [e2, e3]
          refine a1.carry (fun k hk => ?_)
          rw [hY.block k (by rw [size_set6]; exact a1.lt (by omega) hk) (fun e => hvm k hk (by injection e with e)), Below.heap_setCell _ _ _ _ (hvB k hk)])
        hMY (fun k hk => by
          rcases hvk k hk with q | q
          · exact .inl q
          · exact .inr ⟨q.1, by have := hY.size; rw [size_set6] at this; omega⟩)
        (by have := h.few; omega) (by show (s.ls ++ [l0]).length ≤ n + 1; have := h.len; simp; omega)
        (by
          refine ⟨h.ok.most, fun x hx => ?_⟩
          have hx' : x ∈ s.ls ++ [l0] := hx
          rcases List.mem_append.1 hx' with q | q
          · exact h.ok.ls x q
          · have : x = l0 := by simpa using q
            rw [this, HL0.out]
            exact hl)
      exact ⟨⟨_, _, _, hpp.1⟩, hpp.2⟩
  have hcn : (0 : Int) ≤ (Q.cnt s.ls fr tt : Int) ∧ (Q.cnt s.ls fr tt : Int) ≤ 1099511627776 := by have := Q.cnt_le s.ls fr tt; omega
  have HI : Hid (In64 fr ∧ In64 tt ∧ n < maxLen) := ⟨hfr, htt, by unfold maxLen; omega⟩
  obtain ⟨ct, hct⟩ : ∃ ct : Int, ct = (Q.cnt s.ls fr tt : Int) := ⟨_, rfl⟩
  have HCt : Hid (ct = (Q.cnt s.ls fr tt : Int)) := hct
  rw [← hct] at hcn
  have hwr : IntKind.i64.wrap (ct + 1) = ct + 1 := by rw [IntKind.wrap_i64]; omega
  have HWy : Hid (∀ X : World, Calls Try.prog 94 #[.agg #[.int .i64 fr, .int .i64 tt, .string tx]] X fun e w' => e = .returned (.agg #[.int .i64 fr, .int .i64 tt]) ∧ Below X.heap.size X w') := fun X => way_c ⟨fr, tt, tx⟩ X
  have HV64 : Hid (In64 (ct + 1)) := ⟨by omega, by omega⟩
  rw [← hl0]
  clear h hU hVW hl hl0 hv hm hlen hc1 hc2 hlbx hbu hcn hct hfr htt hn HL0
  go_enter Try.func66, Try.ntmps66
  go_wp2
  rw [← hu]
  try rw [← hbx]
  subst hW
  clear hu hbx
  refine wp_region_held_drew (S := fun Y => Y.cell? ⟨bx, 0, none⟩ = some (.int .i64 fr) ∧ Y.cell? ⟨bx, 1, none⟩ = some (.int .i64 tt) ∧ Y.cell? ⟨bx, 2, none⟩ = some (.string tx)) (by kernel_rfl) (HS0.out _ (Below.refl _ _).drew) (fun hHeld => ?_)
  refine take7 (i := 0) (d := 4) (v := .pointer (some ⟨B, 0, none⟩)) rfl rfl (by kernel_rfl) (by kernel_rfl) (by kernel_rfl) (fun _ _ _ h => h) (Or.inl ⟨by rfl, ?_⟩) (by assumption) ?_
  · intro X hSw
    go_simp
  simp only [Act.put, List.setIfInBounds_toArray, List.set_cons_zero, List.set_cons_succ]
  refine take7 (i := 1) (d := 5) (v := .pointer (some ⟨B, 0, none⟩)) rfl rfl (by kernel_rfl) (by kernel_rfl) (by kernel_rfl) (fun _ _ _ h => h) (Or.inl ⟨by rfl, ?_⟩) (by assumption) ?_
  · intro X hSw
    go_simp
  simp only [Act.put, List.setIfInBounds_toArray, List.set_cons_zero, List.set_cons_succ]
  refine take7 (i := 2) (d := 6) (v := .pointer (some ⟨B, 0, none⟩)) rfl rfl (by kernel_rfl) (by kernel_rfl) (by kernel_rfl) (fun _ _ _ h => h) (Or.inl ⟨by rfl, ?_⟩) (by assumption) ?_
  · intro X hSw
    go_simp
  simp only [Act.put, List.setIfInBounds_toArray, List.set_cons_zero, List.set_cons_succ]
  refine take7 (i := 3) (d := 7) (v := .pointer (some ⟨B, 1, none⟩)) rfl rfl (by kernel_rfl) (by kernel_rfl) (by kernel_rfl) (fun _ _ _ h => h) (Or.inl ⟨by rfl, ?_⟩) (by assumption) ?_
  · intro X hSw
    go_simp
  simp only [Act.put, List.setIfInBounds_toArray, List.set_cons_zero, List.set_cons_succ]
  refine take7 (i := 5) (d := 9) (v := .agg #[.int .i64 fr, .int .i64 tt, .string tx]) rfl rfl (by kernel_rfl) (by kernel_rfl) (by kernel_rfl) (fun _ _ _ h => h) (Or.inl ⟨by rfl, ?_⟩) (by assumption) ?_
  · intro X hSw
    go_simp
  simp only [Act.put, List.setIfInBounds_toArray, List.set_cons_zero, List.set_cons_succ]
  refine wpAnyH_ready (rs := [4, 6]) (by kernel_rfl) (by simp) ?_
  refine AllReadyH.cons rfl (fun K hK => ?_) (AllReadyH.cons rfl (fun K hK => ?_) AllReadyH.nil)
  · go_simp
    refine hK.out _ _ (HS0.out _ (Below.refl _ _).drew) (fun hHeld2 => ?_)
    clear hK K hHeld
    refine wpAnyH_ready (rs := [6]) (by kernel_rfl) (by simp) ?_
    refine AllReadyH.cons rfl (fun K hK => ?_) AllReadyH.nil
    go_simp
    refine hK.out _ _ (HS0.out _ HG.out) (fun hHeld3 => ?_)
    clear hK K hHeld2
    refine wpAnyH_ready (rs := [7]) (by kernel_rfl) (by simp) ?_
    refine AllReadyH.cons rfl (fun K hK => ?_) AllReadyH.nil
    refine step7 11 rfl rfl (.tmp 8) (.tmp 10) 73 73 78 rfl Try.underlying73 _ 3 32 infoLt rfl (.slice p m c) m (ltCells s.ls) (by simp [Act.eval]) HR.out _ 1 _ (by simp [Act.eval]) HSrc.out hL1.out hL2.out ?_
    intro v' w4 ho hg hl
    obtain ⟨p', c', hv', s4, s5, y1, g1, HQ2⟩ := HEnd.out w4 v' ho hg hl
    subst hv'
    clear ho hg hl
    refine hK.out _ _ s4 (fun hHeld4 => ?_)
    clear hK K hHeld3
    simp only [Act.put, List.setIfInBounds_toArray, List.set_cons_zero, List.set_cons_succ]
    refine take7 (i := 8) (d := 12) (v := .pointer (some ⟨B, 0, none⟩)) rfl rfl (by kernel_rfl) (by kernel_rfl) (by kernel_rfl) (fun _ _ _ h => h) (Or.inl ⟨by rfl, ?_⟩) (by assumption) ?_
    · intro X hSw
      go_simp
    simp only [Act.put, List.setIfInBounds_toArray, List.set_cons_zero, List.set_cons_succ]
    refine take7 (i := 9) (d := 13) (v := .pointer (some ⟨B, 1, none⟩)) rfl rfl (by kernel_rfl) (by kernel_rfl) (by kernel_rfl) (fun _ _ _ h => h) (Or.inl ⟨by rfl, ?_⟩) (by assumption) ?_
    · intro X hSw
      go_simp
    simp only [Act.put, List.setIfInBounds_toArray, List.set_cons_zero, List.set_cons_succ]
    refine wpAnyH_ready (rs := [10]) (by kernel_rfl) (by simp) ?_
    refine AllReadyH.cons rfl (fun K hK => ?_) AllReadyH.nil
    go_simp
    refine hK.out _ _ s5 (fun hHeld5 => ?_)
    clear hK K hHeld4 s4 s5
    refine wpAnyH_done (by kernel_rfl) ?_ _
    go_wp2
    have x0 := hHeld5
    clear hHeld5 y1 g1
    generalize w4.setCell ⟨B, 1, none⟩ (.slice p' (m + 1) c') = X at HQ2 x0 ⊢
    have HSx : Hid (∀ Y, Keeps X Y → Y.cell? ⟨B, 2, none⟩ = some (.map (some mb)) ∧ Y.cell? ⟨bx, 0, none⟩ = some (.int .i64 fr) ∧ Y.cell? ⟨bx, 1, none⟩ = some (.int .i64 tt) ∧ Y.cell? ⟨bx, 2, none⟩ = some (.string tx)) := fun Y hY => ⟨hY _ _ _ HQ2.out.1.1, hY _ _ _ x0.1, hY _ _ _ x0.2.1, hY _ _ _ x0.2.2⟩
    have HAll : Hid _ := inc_all HQ2.out.1.2 HI.out.2.2 HI.out.1 HI.out.2.1 HV64.out
    rw [← HCt.out] at HAll
    clear x0
    refine wp_region_held_drew (S := fun Y => Y.cell? ⟨B, 2, none⟩ = some (.map (some mb)) ∧ Y.cell? ⟨bx, 0, none⟩ = some (.int .i64 fr) ∧ Y.cell? ⟨bx, 1, none⟩ = some (.int .i64 tt) ∧ Y.cell? ⟨bx, 2, none⟩ = some (.string tx)) (by kernel_rfl) (HSx.out _ (Keeps.below (Below.refl _ _).drew)) (fun hHeld => ?_)
    refine take7 (i := 0) (d := 14) (v := .pointer (some ⟨B, 0, none⟩)) rfl rfl (by kernel_rfl) (by kernel_rfl) (by kernel_rfl) (fun _ _ _ h => h) (Or.inl ⟨by rfl, ?_⟩) (by assumption) ?_
    · intro X hSw
      go_simp
    simp only [Act.put, List.setIfInBounds_toArray, List.set_cons_zero, List.set_cons_succ]
    refine take7 (i := 1) (d := 15) (v := .pointer (some ⟨B, 0, none⟩)) rfl rfl (by kernel_rfl) (by kernel_rfl) (by kernel_rfl) (fun _ _ _ h => h) (Or.inl ⟨by rfl, ?_⟩) (by assumption) ?_
    · intro X hSw
      go_simp
    simp only [Act.put, List.setIfInBounds_toArray, List.set_cons_zero, List.set_cons_succ]
    refine take7 (i := 2) (d := 16) (v := .pointer (some ⟨B, 2, none⟩)) rfl rfl (by kernel_rfl) (by kernel_rfl) (by kernel_rfl) (fun _ _ _ h => h) (Or.inl ⟨by rfl, ?_⟩) (by assumption) ?_
    · intro X hSw
      go_simp
    simp only [Act.put, List.setIfInBounds_toArray, List.set_cons_zero, List.set_cons_succ]
    refine take7 (i := 3) (d := 17) (v := .map (some mb)) rfl rfl (by kernel_rfl) (by kernel_rfl) (by kernel_rfl) (fun _ _ _ h => h) (Or.inl ⟨by rfl, ?_⟩) (by assumption) ?_
    · intro X hSw
      go_simp
    simp only [Act.put, List.setIfInBounds_toArray, List.set_cons_zero, List.set_cons_succ]
    refine take7 (i := 4) (d := 18) (v := .agg #[.int .i64 fr, .int .i64 tt, .string tx]) rfl rfl (by kernel_rfl) (by kernel_rfl) (by kernel_rfl) (fun _ _ _ h => h) (Or.inl ⟨by rfl, ?_⟩) (by assumption) ?_
    · intro X hSw
      go_simp
    simp only [Act.put, List.setIfInBounds_toArray, List.set_cons_zero, List.set_cons_succ]
    refine wpAnyH_ready (rs := [5]) (by kernel_rfl) (by simp) ?_
    refine AllReadyH.cons rfl (fun K hK => ?_) AllReadyH.nil
    go_wp2_with fail
    refine (HWy.out _).mono ?_
    rintro e Y ⟨rfl, hbY⟩
    have hbY : Below X.heap.size X Y := (Below.refl _ X).drew.trans hbY
    obtain ⟨kY, lY, v0, st, w1, r1, k1, l1, w3, r3, k3, g3, m3⟩ := HAll.out Y hbY
    clear hbY HAll
    refine hK.out _ _ (HSx.out _ kY) (fun hHeld => ?_)
    clear hK K
    try simp only [Act.put, List.setIfInBounds_toArray, List.set_cons_zero, List.set_cons_succ]
    refine wpAnyH_ready (rs := [6, 8]) (by kernel_rfl) (by simp) ?_
    refine AllReadyH.cons rfl (fun K hK => ?_) (AllReadyH.cons rfl (fun K hK => ?_) AllReadyH.nil)
    · go_simp
      refine hK.out _ _ (HSx.out _ kY) (fun hHeld => ?_)
      clear hK K
      refine take7 (i := 7) (d := 21) (v := .int .i64 (ct + 1)) rfl rfl (by kernel_rfl) (by kernel_rfl) (by kernel_rfl) (fun _ _ _ h => h) (Or.inl ⟨by rfl, ?_⟩) (by assumption) ?_
      · intro X hSw
        go_simp
      simp only [Act.put, List.setIfInBounds_toArray, List.set_cons_zero, List.set_cons_succ]
      refine wpAnyH_ready (rs := [8]) (by kernel_rfl) (by simp) ?_
      refine AllReadyH.cons rfl (fun K hK => ?_) AllReadyH.nil
      refine stepEntry 22 rfl rfl 72 (.tmp 17) (.tmp 19) rfl (by simp [Act.eval]) (by simp [Act.eval]) r1 ?_
      refine hK.out _ _ (HSx.out _ k1) (fun hHeld => ?_)
      clear hK K
      simp only [Act.put, List.setIfInBounds_toArray, List.set_cons_zero, List.set_cons_succ]
      refine take7 (i := 9) (d := 23) (v := .int .i64 st) rfl rfl (by kernel_rfl) (by kernel_rfl) (by kernel_rfl) (fun _ _ _ h => h) (Or.inl ⟨by rfl, ?_⟩) (by assumption) ?_
      · intro X hSw
        go_simp
      simp only [Act.put, List.setIfInBounds_toArray, List.set_cons_zero, List.set_cons_succ]
      refine wpAnyH_ready (rs := [10]) (by kernel_rfl) (by simp) ?_
      refine AllReadyH.cons rfl (fun K hK => ?_) AllReadyH.nil
      refine stepStore rfl rfl 72 (.tmp 17) (.tmp 23) (.tmp 21) rfl (by simp [Act.eval]) (by simp [Act.eval]) (by simp [Act.eval]) r3 ?_
      refine hK.out _ _ (HSx.out _ k3) (fun hHeld => ?_)
      clear hK K hHeld
      refine wpAnyH_done (by kernel_rfl) ?_ _
      clear hHeld
      go_wp2
      exact bodyPost_end (v := .tuple #[]) (by simp [results, Try.results66]) rfl ⟨rfl, HQ2.out.2 _ g3 (by rw [← HCt.out]; exact m3)⟩
    · refine stepEntry 22 rfl rfl 72 (.tmp 17) (.tmp 19) rfl (by simp [Act.eval]) (by simp [Act.eval]) r1 ?_
      refine hK.out _ _ (HSx.out _ k1) (fun hHeld => ?_)
      clear hK K
      simp only [Act.put, List.setIfInBounds_toArray, List.set_cons_zero, List.set_cons_succ]
      refine take7 (i := 9) (d := 23) (v := .int .i64 st) rfl rfl (by kernel_rfl) (by kernel_rfl) (by kernel_rfl) (fun _ _ _ h => h) (Or.inl ⟨by rfl, ?_⟩) (by assumption) ?_
      · intro X hSw
        go_simp
      simp only [Act.put, List.setIfInBounds_toArray, List.set_cons_zero, List.set_cons_succ]
      refine wpAnyH_ready (rs := [6]) (by kernel_rfl) (by simp) ?_
      refine AllReadyH.cons rfl (fun K hK => ?_) AllReadyH.nil
      go_simp
      refine hK.out _ _ (HSx.out _ k1) (fun hHeld => ?_)
      clear hK K
      refine take7 (i := 7) (d := 21) (v := .int .i64 (ct + 1)) rfl rfl (by kernel_rfl) (by kernel_rfl) (by kernel_rfl) (fun _ _ _ h => h) (Or.inl ⟨by rfl, ?_⟩) (by assumption) ?_
      · intro X hSw
        go_simp
      simp only [Act.put, List.setIfInBounds_toArray, List.set_cons_zero, List.set_cons_succ]
      refine wpAnyH_ready (rs := [10]) (by kernel_rfl) (by simp) ?_
      refine AllReadyH.cons rfl (fun K hK => ?_) AllReadyH.nil
      refine stepStore rfl rfl 72 (.tmp 17) (.tmp 23) (.tmp 21) rfl (by simp [Act.eval]) (by simp [Act.eval]) (by simp [Act.eval]) r3 ?_
      refine hK.out _ _ (HSx.out _ k3) (fun hHeld => ?_)
      clear hK K hHeld
      refine wpAnyH_done (by kernel_rfl) ?_ _
      clear hHeld
      go_wp2
      exact bodyPost_end (v := .tuple #[]) (by simp [results, Try.results66]) rfl ⟨rfl, HQ2.out.2 _ g3 (by rw [← HCt.out]; exact m3)⟩
  · go_simp
    refine hK.out _ _ (HS0.out _ HG.out) (fun hHeld2 => ?_)
    clear hK K hHeld
    refine wpAnyH_ready (rs := [4]) (by kernel_rfl) (by simp) ?_
    refine AllReadyH.cons rfl (fun K hK => ?_) AllReadyH.nil
    go_simp
    refine hK.out _ _ (HS0.out _ HG.out) (fun hHeld3 => ?_)
    clear hK K hHeld2
    refine wpAnyH_ready (rs := [7]) (by kernel_rfl) (by simp) ?_
    refine AllReadyH.cons rfl (fun K hK => ?_) AllReadyH.nil
    refine step7 11 rfl rfl (.tmp 8) (.tmp 10) 73 73 78 rfl Try.underlying73 _ 3 32 infoLt rfl (.slice p m c) m (ltCells s.ls) (by simp [Act.eval]) HR.out _ 1 _ (by simp [Act.eval]) HSrc.out hL1.out hL2.out ?_
    intro v' w4 ho hg hl
    obtain ⟨p', c', hv', s4, s5, y1, g1, HQ2⟩ := HEnd.out w4 v' ho hg hl
    subst hv'
    clear ho hg hl
    refine hK.out _ _ s4 (fun hHeld4 => ?_)
    clear hK K hHeld3
    simp only [Act.put, List.setIfInBounds_toArray, List.set_cons_zero, List.set_cons_succ]
    refine take7 (i := 8) (d := 12) (v := .pointer (some ⟨B, 0, none⟩)) rfl rfl (by kernel_rfl) (by kernel_rfl) (by kernel_rfl) (fun _ _ _ h => h) (Or.inl ⟨by rfl, ?_⟩) (by assumption) ?_
    · intro X hSw
      go_simp
    simp only [Act.put, List.setIfInBounds_toArray, List.set_cons_zero, List.set_cons_succ]
    refine take7 (i := 9) (d := 13) (v := .pointer (some ⟨B, 1, none⟩)) rfl rfl (by kernel_rfl) (by kernel_rfl) (by kernel_rfl) (fun _ _ _ h => h) (Or.inl ⟨by rfl, ?_⟩) (by assumption) ?_
    · intro X hSw
      go_simp
    simp only [Act.put, List.setIfInBounds_toArray, List.set_cons_zero, List.set_cons_succ]
    refine wpAnyH_ready (rs := [10]) (by kernel_rfl) (by simp) ?_
    refine AllReadyH.cons rfl (fun K hK => ?_) AllReadyH.nil
    go_simp
    refine hK.out _ _ s5 (fun hHeld5 => ?_)
    clear hK K hHeld4 s4 s5
    refine wpAnyH_done (by kernel_rfl) ?_ _
    go_wp2
    have x0 := hHeld5
    clear hHeld5 y1 g1
    generalize w4.setCell ⟨B, 1, none⟩ (.slice p' (m + 1) c') = X at HQ2 x0 ⊢
    have HSx : Hid (∀ Y, Keeps X Y → Y.cell? ⟨B, 2, none⟩ = some (.map (some mb)) ∧ Y.cell? ⟨bx, 0, none⟩ = some (.int .i64 fr) ∧ Y.cell? ⟨bx, 1, none⟩ = some (.int .i64 tt) ∧ Y.cell? ⟨bx, 2, none⟩ = some (.string tx)) := fun Y hY => ⟨hY _ _ _ HQ2.out.1.1, hY _ _ _ x0.1, hY _ _ _ x0.2.1, hY _ _ _ x0.2.2⟩
    have HAll : Hid _ := inc_all HQ2.out.1.2 HI.out.2.2 HI.out.1 HI.out.2.1 HV64.out
    rw [← HCt.out] at HAll
    clear x0
    refine wp_region_held_drew (S := fun Y => Y.cell? ⟨B, 2, none⟩ = some (.map (some mb)) ∧ Y.cell? ⟨bx, 0, none⟩ = some (.int .i64 fr) ∧ Y.cell? ⟨bx, 1, none⟩ = some (.int .i64 tt) ∧ Y.cell? ⟨bx, 2, none⟩ = some (.string tx)) (by kernel_rfl) (HSx.out _ (Keeps.below (Below.refl _ _).drew)) (fun hHeld => ?_)
    refine take7 (i := 0) (d := 14) (v := .pointer (some ⟨B, 0, none⟩)) rfl rfl (by kernel_rfl) (by kernel_rfl) (by kernel_rfl) (fun _ _ _ h => h) (Or.inl ⟨by rfl, ?_⟩) (by assumption) ?_
    · intro X hSw
      go_simp
    simp only [Act.put, List.setIfInBounds_toArray, List.set_cons_zero, List.set_cons_succ]
    refine take7 (i := 1) (d := 15) (v := .pointer (some ⟨B, 0, none⟩)) rfl rfl (by kernel_rfl) (by kernel_rfl) (by kernel_rfl) (fun _ _ _ h => h) (Or.inl ⟨by rfl, ?_⟩) (by assumption) ?_
    · intro X hSw
      go_simp
    simp only [Act.put, List.setIfInBounds_toArray, List.set_cons_zero, List.set_cons_succ]
    refine take7 (i := 2) (d := 16) (v := .pointer (some ⟨B, 2, none⟩)) rfl rfl (by kernel_rfl) (by kernel_rfl) (by kernel_rfl) (fun _ _ _ h => h) (Or.inl ⟨by rfl, ?_⟩) (by assumption) ?_
    · intro X hSw
      go_simp
    simp only [Act.put, List.setIfInBounds_toArray, List.set_cons_zero, List.set_cons_succ]
    refine take7 (i := 3) (d := 17) (v := .map (some mb)) rfl rfl (by kernel_rfl) (by kernel_rfl) (by kernel_rfl) (fun _ _ _ h => h) (Or.inl ⟨by rfl, ?_⟩) (by assumption) ?_
    · intro X hSw
      go_simp
    simp only [Act.put, List.setIfInBounds_toArray, List.set_cons_zero, List.set_cons_succ]
    refine take7 (i := 4) (d := 18) (v := .agg #[.int .i64 fr, .int .i64 tt, .string tx]) rfl rfl (by kernel_rfl) (by kernel_rfl) (by kernel_rfl) (fun _ _ _ h => h) (Or.inl ⟨by rfl, ?_⟩) (by assumption) ?_
    · intro X hSw
      go_simp
    simp only [Act.put, List.setIfInBounds_toArray, List.set_cons_zero, List.set_cons_succ]
    refine wpAnyH_ready (rs := [5]) (by kernel_rfl) (by simp) ?_
    refine AllReadyH.cons rfl (fun K hK => ?_) AllReadyH.nil
    go_wp2_with fail
    refine (HWy.out _).mono ?_
    rintro e Y ⟨rfl, hbY⟩
    have hbY : Below X.heap.size X Y := (Below.refl _ X).drew.trans hbY
    obtain ⟨kY, lY, v0, st, w1, r1, k1, l1, w3, r3, k3, g3, m3⟩ := HAll.out Y hbY
    clear hbY HAll
    refine hK.out _ _ (HSx.out _ kY) (fun hHeld => ?_)
    clear hK K
    try simp only [Act.put, List.setIfInBounds_toArray, List.set_cons_zero, List.set_cons_succ]
    refine wpAnyH_ready (rs := [6, 8]) (by kernel_rfl) (by simp) ?_
    refine AllReadyH.cons rfl (fun K hK => ?_) (AllReadyH.cons rfl (fun K hK => ?_) AllReadyH.nil)
    · go_simp
      refine hK.out _ _ (HSx.out _ kY) (fun hHeld => ?_)
      clear hK K
      refine take7 (i := 7) (d := 21) (v := .int .i64 (ct + 1)) rfl rfl (by kernel_rfl) (by kernel_rfl) (by kernel_rfl) (fun _ _ _ h => h) (Or.inl ⟨by rfl, ?_⟩) (by assumption) ?_
      · intro X hSw
        go_simp
      simp only [Act.put, List.setIfInBounds_toArray, List.set_cons_zero, List.set_cons_succ]
      refine wpAnyH_ready (rs := [8]) (by kernel_rfl) (by simp) ?_
      refine AllReadyH.cons rfl (fun K hK => ?_) AllReadyH.nil
      refine stepEntry 22 rfl rfl 72 (.tmp 17) (.tmp 19) rfl (by simp [Act.eval]) (by simp [Act.eval]) r1 ?_
      refine hK.out _ _ (HSx.out _ k1) (fun hHeld => ?_)
      clear hK K
      simp only [Act.put, List.setIfInBounds_toArray, List.set_cons_zero, List.set_cons_succ]
      refine take7 (i := 9) (d := 23) (v := .int .i64 st) rfl rfl (by kernel_rfl) (by kernel_rfl) (by kernel_rfl) (fun _ _ _ h => h) (Or.inl ⟨by rfl, ?_⟩) (by assumption) ?_
      · intro X hSw
        go_simp
      simp only [Act.put, List.setIfInBounds_toArray, List.set_cons_zero, List.set_cons_succ]
      refine wpAnyH_ready (rs := [10]) (by kernel_rfl) (by simp) ?_
      refine AllReadyH.cons rfl (fun K hK => ?_) AllReadyH.nil
      refine stepStore rfl rfl 72 (.tmp 17) (.tmp 23) (.tmp 21) rfl (by simp [Act.eval]) (by simp [Act.eval]) (by simp [Act.eval]) r3 ?_
      refine hK.out _ _ (HSx.out _ k3) (fun hHeld => ?_)
      clear hK K hHeld
      refine wpAnyH_done (by kernel_rfl) ?_ _
      clear hHeld
      go_wp2
      exact bodyPost_end (v := .tuple #[]) (by simp [results, Try.results66]) rfl ⟨rfl, HQ2.out.2 _ g3 (by rw [← HCt.out]; exact m3)⟩
    · refine stepEntry 22 rfl rfl 72 (.tmp 17) (.tmp 19) rfl (by simp [Act.eval]) (by simp [Act.eval]) r1 ?_
      refine hK.out _ _ (HSx.out _ k1) (fun hHeld => ?_)
      clear hK K
      simp only [Act.put, List.setIfInBounds_toArray, List.set_cons_zero, List.set_cons_succ]
      refine take7 (i := 9) (d := 23) (v := .int .i64 st) rfl rfl (by kernel_rfl) (by kernel_rfl) (by kernel_rfl) (fun _ _ _ h => h) (Or.inl ⟨by rfl, ?_⟩) (by assumption) ?_
      · intro X hSw
        go_simp
      simp only [Act.put, List.setIfInBounds_toArray, List.set_cons_zero, List.set_cons_succ]
      refine wpAnyH_ready (rs := [6]) (by kernel_rfl) (by simp) ?_
      refine AllReadyH.cons rfl (fun K hK => ?_) AllReadyH.nil
      go_simp
      refine hK.out _ _ (HSx.out _ k1) (fun hHeld => ?_)
      clear hK K
      refine take7 (i := 7) (d := 21) (v := .int .i64 (ct + 1)) rfl rfl (by kernel_rfl) (by kernel_rfl) (by kernel_rfl) (fun _ _ _ h => h) (Or.inl ⟨by rfl, ?_⟩) (by assumption) ?_
      · intro X hSw
        go_simp
      simp only [Act.put, List.setIfInBounds_toArray, List.set_cons_zero, List.set_cons_succ]
      refine wpAnyH_ready (rs := [10]) (by kernel_rfl) (by simp) ?_
      refine AllReadyH.cons rfl (fun K hK => ?_) AllReadyH.nil
      refine stepStore rfl rfl 72 (.tmp 17) (.tmp 23) (.tmp 21) rfl (by simp [Act.eval]) (by simp [Act.eval]) (by simp [Act.eval]) r3 ?_
      refine hK.out _ _ (HSx.out _ k3) (fun hHeld => ?_)
      clear hK K hHeld
      refine wpAnyH_done (by kernel_rfl) ?_ _
      clear hHeld
      go_wp2
      exact bodyPost_end (v := .tuple #[]) (by simp [results, Try.results66]) rfl ⟨rfl, HQ2.out.2 _ g3 (by rw [← HCt.out]; exact m3)⟩
end
end Go.Proofs.Ytpopanfefpehnaa
