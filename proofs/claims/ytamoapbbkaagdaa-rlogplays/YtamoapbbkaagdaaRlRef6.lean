/-
  The document's raft log: Slice.
-/
import Derived.Test.YtamoapbbkaagdaaRlRef5
namespace Go.Proofs.Ytamoapbbkaagdaa
open Go.RowKit

/-- What the document's Slice answers. -/
def RSliceOut (w : World) (s : G.L) (i m : Int) (e : Ending) (w' : World) : Prop := ∃ v', e = .returned (.tuple #[v', .int .i64 (G.sliceE s i m)]) ∧ EntR w' v' (G.slice s i m) ∧ Below w.heap.size w w'

section
variable {w : World} {s : G.L} {v : Value}

theorem RSliceOut.no (i m : Int) (c : Int) (hc : G.sliceE s i m = c) (h0 : c ≠ 0) : Hid (∀ u, Below w.heap.size w u → RSliceOut w s i m (.returned (.tuple #[.slice none 0 0, .int .i64 c])) u) := by
  intro u hu
  refine ⟨.slice none 0 0, by rw [hc], ?_, hu⟩
  unfold G.slice
  rw [hc, if_neg h0]
  exact ⟨none, 0, rfl, Nat.le_refl _, by unfold maxLen; omega, .inl rfl⟩

/-- While the entries are gathered. -/
structure Gath (w X : World) (bx : Nat) (s : G.L) (v : Value) (ov : Value) (l : List (Int × ByteArray)) : Prop where
  log : LogAt w X bx s v
  row : RowC X 2 ov l.length (entCells l)
  far : ∀ k, cBlk ov = some k → bx < k
  ge : w.heap.size ≤ bx

theorem Gath.below {w X Y : World} {bx : Nat} {s : G.L} {v ov : Value} {l : List (Int × ByteArray)} (h : Gath w X bx s v ov l) (hb : Below X.heap.size X Y) : Gath w Y bx s v ov l :=
  ⟨h.log.below hb, h.row.carry (fun k hk => hb.block k (h.row.lt (by omega) hk)), h.far, h.ge⟩

set_option maxHeartbeats 1600000 in
set_option maxRecDepth 20000 in
theorem rSlice_c (h : EntR w v s.ents) (ok : G.Ok s) (i m : Int) : Calls Try.prog 27 #[logV s v, .int .i64 i, .int .i64 m] w (RSliceOut w s i m) := by
  have HEnt : Hid (EntR w v s.ents) := h
  obtain ⟨p, c, hv, hc1, hc2, hc3⟩ := h
  obtain ⟨n, hn⟩ : ∃ n, n = s.ents.length := ⟨_, rfl⟩
  have hvn : v = .slice p n c := by rw [hv, hn]
  by_cases hm : m < 0
  · have HO := RSliceOut.no (w := w) (s := s) i m 1 (by unfold G.sliceE; rw [if_pos hm]) (by decide)
    generalize RSliceOut w s i m = Q at HO ⊢
    unfold logV
    rw [hvn]
    clear hc1 hc2 hc3 hv hvn hn HEnt
    go_enter Try.func27, Try.ntmps27
    go_wp2
    exact HO.out _ (below_alloc _ _)
  have hlen := ok.len
  have hb0 := ok.base
  have hl1 := ok.last
  have hE : G.sliceE s i m = if i < s.base + 1 then 60 else if G.last s + 1 < i then 3 else 0 := by unfold G.sliceE G.within; rw [if_neg hm]
  have hlast : G.last s = s.base + (s.ents.length : Int) := rfl
  have HS := LogAt.start w s v 30
  rw [hvn] at HS
  obtain ⟨u, hu⟩ : ∃ u, u = w.alloc (.cells #[.int .i64 s.base, .int .i64 s.term, .slice p n c] 30) := ⟨_, rfl⟩
  obtain ⟨bx, hbx⟩ : ∃ bx, bx = w.heap.size := ⟨_, rfl⟩
  rw [← hu, ← hbx] at HS
  have HG : Hid (LogAt w u bx s (.slice p n c)) := HS
  have u0 : u.cell? ⟨bx, 0, none⟩ = some (.int .i64 s.base) := HS.c 0
  have u1 : u.cell? ⟨bx, 1, none⟩ = some (.int .i64 s.term) := HS.c 1
  have u2 : u.cell? ⟨bx, 2, none⟩ = some (.slice p n c) := HS.c 2
  have HL : Hid (∀ X, LogAt w X bx s (.slice p n c) → Calls Try.prog 30 #[.agg #[.int .i64 s.base, .int .i64 s.term, .slice p n c]] X fun e w' => e = .returned (.int .i64 (G.last s)) ∧ LogAt w w' bx s (.slice p n c)) := by
    intro X hX
    have := rLast_c (HEnt.out.below hX.old) ok
    unfold logV at this
    rw [hvn] at this
    refine this.mono ?_
    rintro e w' ⟨he, hb⟩
    exact ⟨he, hX.below hb⟩
  by_cases c1 : i < s.base + 1
  · rw [if_pos c1] at hE
    have HO := RSliceOut.no (w := w) (s := s) i m 60 hE (by decide)
    generalize RSliceOut w s i m = Q at HO ⊢
    unfold logV
    rw [hvn]
    have d1 : i ≤ s.base := by omega
    have hm0 : ¬ m < 0 := hm
    clear hc1 hc2 hc3 hv hvn hn HEnt HL hlast hE hl1 hb0 hlen ok c1 HS
    obtain ⟨b, t, l⟩ := s
    dsimp only at *
    go_enter Try.func27, Try.ntmps27
    go_wp2
    exact HO.out _ (below_alloc _ _)
  · have d1 : ¬ i ≤ s.base := by omega
    have hl0 : 0 ≤ G.last s := by omega
    have hw2 : IntKind.i64.wrap (G.last s + 1) = G.last s + 1 := by rw [IntKind.wrap_i64]; omega
    by_cases c2 : G.last s + 1 < i
    · rw [if_neg c1, if_pos c2] at hE
      have HO := RSliceOut.no (w := w) (s := s) i m 3 hE (by decide)
      generalize RSliceOut w s i m = Q at HO ⊢
      unfold logV
      rw [hvn]
      generalize G.last s = ll at HL c2 hw2
      have hm0 : ¬ m < 0 := hm
      clear hc1 hc2 hc3 hv hvn hn HEnt hlast hE hl1 hb0 hlen ok c1 HS hl0
      obtain ⟨b, t, l⟩ := s
      dsimp only at *
      go_enter Try.func27, Try.ntmps27
      go_wp2_with fail
      rw [← hu]
      try rw [← hbx]
      clear hu hbx
      refine Calls.mono (HL.out _ HG.out) ?_
      rintro e w1 ⟨rfl, hg1⟩
      have HB1 : Hid _ := hg1.old
      clear hg1
      go_wp2
      exact HO.out _ HB1.out
    · rw [if_neg c1, if_neg c2] at hE
      obtain ⟨k0, hk0⟩ : ∃ k : Nat, i - s.base - 1 = (k : Int) := ⟨(i - s.base - 1).toNat, by omega⟩
      obtain ⟨q, hq⟩ : ∃ q : Nat, m = (q : Int) := ⟨m.toNat, by omega⟩
      have hkn : k0 ≤ n := by omega
      have HO : Hid (∀ j p' c' X, Gath w X bx s (.slice p n c) (.slice p' j c') ((s.ents.drop k0).take j) → (k0 + j = n ∨ j = q) → k0 + j ≤ n → j ≤ q → RSliceOut w s i m (.returned (.tuple #[.slice p' j c', .int .i64 0])) X) := by
        intro j p' c' X hX h1 h2 h3
        have hs : G.slice s i m = (s.ents.drop k0).take j := by
          unfold G.slice
          rw [hE, if_pos rfl, hk0, hq, Int.toNat_natCast, Int.toNat_natCast, List.take_eq_take_iff, List.length_drop]
          omega
        refine ⟨_, by rw [hE], ?_, hX.log.old⟩
        rw [hs]
        exact RowC.read hX.row
      have HLn : Hid (∀ j, k0 + j ≤ n → ((s.ents.drop k0).take j).length = j) := fun j hj => by rw [List.length_take, List.length_drop]; omega
      have HGe : Hid (w.heap.size ≤ bx) := by show _ ≤ _; omega
      have HLen : Hid (n ≤ 1099511627776) := by rw [hn]; exact hlen.1
      have HAt : Hid (∀ j, k0 + j < n → ∃ x g off, s.ents[k0 + j]? = some x ∧ p = some ⟨g, off, none⟩ ∧ ∀ X, Below w.heap.size w X → X.cell? ⟨g, off + (k0 + j) * 2, none⟩ = some (.int .i64 x.1) ∧ X.cell? ⟨g, off + (k0 + j) * 2 + 1, none⟩ = some (.string x.2)) := by
        intro j hj
        obtain ⟨x, hx⟩ : ∃ x, s.ents[k0 + j]? = some x := ⟨_, List.getElem?_eq_getElem (by omega)⟩
        rcases hc3 with e | ⟨g, off, e1, e2⟩
        · rw [e] at hx; simp at hx
        · obtain ⟨y1, y2⟩ := e2 _ x hx
          have hg := World.block_lt_of_cell? _ _ y1
          exact ⟨x, g, off, hx, e1, fun X hX => ⟨(hX.cell hg).trans y1, (hX.cell (p := ⟨g, off + (k0 + j) * 2 + 1, none⟩) hg).trans y2⟩⟩
      have HSn : Hid (∀ j x, s.ents[k0 + j]? = some x → (s.ents.drop k0).take (j + 1) = (s.ents.drop k0).take j ++ [x]) := by
        intro j x hx
        rw [List.take_add_one, List.getElem?_drop, hx]
        rfl
      have HQ : Hid (wrap64 (i - s.base) = ((k0 + 1 : Nat) : Int) ∧ wrap64 (((k0 + 1 : Nat) : Int) - 1) = (k0 : Int)) := ⟨w64 _ (by omega) (by omega), w64 _ (by omega) (by omega)⟩
      obtain ⟨kp, hkp⟩ : ∃ kp, kp = k0 + 1 := ⟨_, rfl⟩
      rw [← hkp] at HQ
      subst hq
      have hm0 : (0 : Int) ≤ (q : Int) := by omega
      have hnc : n ≤ c := by omega
      have hcb : c < 9223372036854775808 := by unfold maxLen at hc2; omega
      generalize G.last s = ll at HL c2 hw2
      unfold logV
      rw [hvn]
      clear hc1 hc2 hc3 hv hvn hn HEnt hlast hE hl1 hb0 hlen ok c1 HS hl0 hkp hk0 hm
      obtain ⟨b, t, l⟩ := s
      dsimp only at *
      generalize RSliceOut w ⟨b, t, l⟩ i (q : Int) = Q at HO ⊢
      go_enter Try.func27, Try.ntmps27
      go_wp2_with fail
      rw [← hu]
      try rw [← hbx]
      clear hu hbx
      refine Calls.mono (HL.out _ HG.out) ?_
      rintro e w1 ⟨rfl, hg1⟩
      have H1 : Hid _ := hg1
      have v0 : w1.cell? ⟨bx, 0, none⟩ = some (.int .i64 b) := hg1.c 0
      have v2 : w1.cell? ⟨bx, 2, none⟩ = some (.slice p n c) := hg1.c 2
      clear hg1 u0 u1 u2
      obtain ⟨q1, q2⟩ := HQ.out
      go_wp2
      rw [q2]
      clear q1 q2 v0 v2
      go_loopw [8, 9] (fun y x wr => ∃ (j : Nat) (p' : Option Addr) (c' : Nat), x = .int .i64 ((k0 + j : Nat) : Int) ∧ y = .slice p' j c' ∧ k0 + j ≤ n ∧ j ≤ q ∧ Hid (Gath w wr bx ⟨b, t, l⟩ (.slice p n c) (.slice p' j c') ((l.drop k0).take j))) (fun _ x _ => n - (intOf x).toNat)
      case atStart => exact ⟨0, none, 0, rfl, rfl, hkn, Nat.zero_le _, H1.out, RowC.nil _ _ _, fun k hk => by simp [cBlk] at hk, HGe.out⟩
      case round =>
        obtain ⟨j, p', c', rfl, rfl, hj1, hj2, HGa⟩ := hrel
        have HLj : Hid (((l.drop k0).take j).length = j) := HLn.out j hj1
        obtain ⟨kj, hkj⟩ : ∃ kj, kj = k0 + j := ⟨_, rfl⟩
        have x2 : wr.cell? ⟨bx, 2, none⟩ = some (.slice p n c) := HGa.out.log.c 2
        by_cases a1 : k0 + j < n
        · by_cases a2 : j < q
          · obtain ⟨x, g, off, hx, rfl, hcell⟩ := HAt.out j a1
            obtain ⟨y0, y1⟩ := hcell wr HGa.out.log.old
            have HSj : Hid _ := HSn.out j x hx
            obtain ⟨tx, dx⟩ := x
            dsimp only at y0 y1
            rw [← hkj] at y0 y1 a1 hj1 ⊢
            have hk0' : (0 : Int) ≤ (kj : Int) := by omega
            have hk1' : (kj : Int) < (n : Int) := by omega
            have hjq : (j : Int) < (q : Int) := by omega
            obtain ⟨W, hW⟩ : ∃ W, W = wr.alloc (.cells #[.int .i64 tx, .string dx] 34) := ⟨_, rfl⟩
            have hbW : Below wr.heap.size wr W := by rw [hW]; exact below_alloc _ _
            have HGW : Hid (Gath w W bx ⟨b, t, l⟩ (.slice (some ⟨g, off, none⟩) n c) (.slice p' j c') ((l.drop k0).take j)) := HGa.out.below hbW
            have HRow : Hid (RowC W 2 (.slice p' j c') j (entCells ((l.drop k0).take j))) := by have := HGW.out.row; rw [HLj.out] at this; exact this
            have HSrc : Hid (Src Try.prog 2 28 (.slice (some ⟨wr.heap.size, 0, none⟩) 1 1) 1 [.int .i64 tx, .string dx] W) := by
              refine Src.ofSlice W Try.underlying28 _ _ _ _ rfl (fun j u hu => ?_) (fun u hu => by simp at hu; rcases hu with rfl | rfl <;> rfl)
              rw [Addr.add_lit, Nat.zero_add, hW, World.cell?_alloc_mark]
              simpa using hu
            have hL1 : Hid ((j + 1) * 24 ≤ 140737488355328) := by have := HLen.out; show _ ≤ _; omega
            have hL2 : Hid (j + 1 ≤ maxLen) := by have := HLen.out; unfold maxLen; show _ ≤ _; omega
            have HKJ : Hid (kj = k0 + j) := hkj
            subst hW
            clear hbW hcell hx hkj
            go_wp2_with (at_builtin; refine wpList_append_rowC rfl (.tmp 39) (.tmp 45) 28 28 34 rfl Try.underlying28 _ 2 24 infoEnt rfl (.slice p' j c') j (entCells ((l.drop k0).take j)) rfl HRow.out _ 1 _ rfl HSrc.out hL1.out hL2.out ?qnext)
            case qnext =>
              intro v' w4 ho hg hlo
              obtain ⟨p4, c4, hv4, _, _⟩ := ho.form
              subst hv4
              have H4 : Hid (Gath w w4 bx ⟨b, t, l⟩ (.slice (some ⟨g, off, none⟩) n c) (.slice p4 (j + 1) c4) ((l.drop k0).take (j + 1))) := by
                have hlog := HGW.out.log
                have hfar := HGW.out.far
                have hge := HGW.out.ge
                have hb : w4.heap[bx]? = (wr.alloc (.cells #[.int .i64 tx, .string dx] 34)).heap[bx]? := hg.block bx hlog.lt (fun e => by have := hfar bx e.symm; omega)
                refine ⟨⟨?_, Nat.lt_of_lt_of_le hlog.lt hg.size, fun jj => (World.cell?_of_block (a := ⟨bx, jj, none⟩) hb).trans (hlog.c jj)⟩, ?_, fun k hk => ?_, hge⟩
                · exact hlog.old.grown hg hlog.old.size (fun k hk => by have := hfar k hk; omega)
                · rw [HSj.out, entCells_snoc, List.length_append, HLj.out]
                  exact ho
                · rcases hlo k hk with q | q
                  · exact hfar k q
                  · have := hlog.lt
                    simp at q this
                    omega
              clear ho hg hlo
              go_wp2
              refine And.intro ?_ ?_
              · have hkj := HKJ.out
                exact ⟨j + 1, p4, c4, by rw [hkj]; go_num, rfl, by omega, by omega, H4⟩
              · simp [intOf]; omega
          · have hjq : ¬ (j : Int) < (q : Int) := by omega
            have HF : Hid _ := HO.out j p' c' wr HGa.out (.inr (by omega)) hj1 hj2
            rw [← hkj] at a1 ⊢
            have hk1' : (kj : Int) < (n : Int) := by omega
            clear hkj
            go_wp2
            exact HF.out
        · have HF : Hid _ := HO.out j p' c' wr HGa.out (.inl (by omega)) hj1 hj2
          rw [← hkj] at a1 ⊢
          have hk1' : ¬ (kj : Int) < (n : Int) := by omega
          clear hkj
          go_wp2
          exact HF.out

end
end Go.Proofs.Ytamoapbbkaagdaa
