/-
  The document's net: Cut.
-/
import Derived.Test.YtpopanfefpehnaaNnRef4
namespace Go.Proofs.Ytpopanfefpehnaa
open Go.RowKit

theorem cutL_take (t : Int) {ls : List Q.Lt} {i : Nat} {l : Q.Lt} (hl : ls[i]? = some l) : Q.cutL (ls.take (i + 1)) t = Q.cutL (ls.take i) t ++ (if l.tt = t then [] else [l]) := by
  rw [List.take_add_one, hl, Option.toList_some]
  unfold Q.cutL
  rw [List.filter_append]
  congr 1
  by_cases h : l.tt = t
  · rw [if_pos h]; simp [h]
  · rw [if_neg h]; simp [h]

/-- The list that Cut has kept so far. -/
def CutR (u X : World) (L : Value) (kept : List Q.Lt) : Prop := Below u.heap.size u X ∧ Ls X L kept ∧ ∀ j, cBlk L = some j → u.heap.size ≤ j

theorem CutR.snoc {u X Y : World} {L L' : Value} {kept : List Q.Lt} (h : CutR u X L kept) (l : Q.Lt) {o : Obj} (hr : RowC Y 3 L' (kept.length + 1) (ltCells kept ++ [.int .i64 l.fr, .int .i64 l.tt, .string l.tx])) (hg : (X.alloc o).grownBy Y (cBlk L)) (hk : ∀ k, cBlk L' = some k → cBlk L = some k ∨ X.heap.size + 1 ≤ k) : CutR u Y L' (kept ++ [l]) := by
  have hX := h.1
  have hs : (X.alloc o).heap.size = X.heap.size + 1 := by simp
  have hu : u.heap.size ≤ X.heap.size := hX.size
  have hA : Below u.heap.size u (X.alloc o) := hX.trans ((below_alloc X o).mono hX.size)
  refine ⟨hA.grown hg (by omega) (fun k hk => h.2.2 k hk), ?_, fun k hk' => ?_⟩
  · unfold Ls
    rw [ltCells_snoc, List.length_append]
    exact hr
  · rcases hk k hk' with q | q
    · exact h.2.2 k q
    · omega

section
variable {w : World} {v : Value} {ls : List Q.Lt}

/-- What Cut leaves. -/
def finC (X : World) (bn br : Nat) (most : Int) (L : Value) : World := fin2 (X.setCell ⟨bn, 1, none⟩ L) br (.int .i64 most) L

set_option maxHeartbeats 1600000 in
theorem rCut_c (h : Ls w v ls) (hn : ls.length ≤ 1099511627775) (most t : Int) : Calls Try.prog 35 #[.agg #[.int .i64 most, v], .int .i64 t] w fun e w' => ∃ v', e = .returned (.tuple #[.agg #[.int .i64 most, v'], .int .i64 ((ls.length - (Q.cutL ls t).length : Nat) : Int)]) ∧ ROut w v w' v' (Q.cutL ls t) := by
  obtain ⟨u, hu⟩ : ∃ u, u = (w.alloc (.cells #[.int .i64 most, v] 29)).alloc (.cells #[.int .i64 0, .slice none 0 0] 29) := ⟨_, rfl⟩
  have hbu : Below w.heap.size w u := by rw [hu]; exact (below_alloc _ _).trans ((below_alloc _ _).mono (by simp))
  have hB2 : B2 w.heap.size (w.heap.size + 1) most v u := by rw [hu]; exact B2.start w most v
  have hus : u.heap.size = w.heap.size + 1 + 1 := by rw [hu]; simp
  obtain ⟨bn, hbn⟩ : ∃ bn, bn = w.heap.size := ⟨_, rfl⟩
  obtain ⟨br, hbr⟩ : ∃ br, br = w.heap.size + 1 := ⟨_, rfl⟩
  rw [← hbr, ← hbn] at hB2
  obtain ⟨p, c, hv, hc1, hc2⟩ := RowC.form h
  obtain ⟨m, hm⟩ : ∃ m, m = ls.length := ⟨_, rfl⟩
  rw [← hm] at hv hc1 hn
  have HI : Hid (∀ X, Below u.heap.size u X → ∀ k, k < m → ∃ l g off, ls[k]? = some l ∧ p = some ⟨g, off, none⟩ ∧ X.cell? ⟨g, off + k * 3, none⟩ = some (.int .i64 l.fr) ∧ X.cell? ⟨g, off + k * 3 + 1, none⟩ = some (.int .i64 l.tt) ∧ X.cell? ⟨g, off + k * 3 + 2, none⟩ = some (.string l.tx)) := by
    intro X hX k hk
    obtain ⟨l, hl⟩ : ∃ l, ls[k]? = some l := ⟨_, List.getElem?_eq_getElem (by omega)⟩
    obtain ⟨g, off, c', hv', y0, y1, y2⟩ := ((h.below hbu).below hX).at hl
    rw [hv] at hv'
    injection hv' with e1
    exact ⟨l, g, off, hl, e1, y0, y1, y2⟩
  rw [hv] at hB2
  have HX : Hid (∀ X, Below u.heap.size u X → B2 bn br most (.slice p m c) X ∧ Below w.heap.size w X) := fun X hX => ⟨hB2.below hX, hbu.trans (hX.mono hbu.size)⟩
  have HEq : Hid (bn = w.heap.size ∧ br = w.heap.size + 1 ∧ u = (w.alloc (.cells #[.int .i64 most, .slice p m c] 29)).alloc (.cells #[.int .i64 0, .slice none 0 0] 29)) := ⟨hbn, hbr, by rw [← hv]; exact hu⟩
  have HUs : Hid (u.heap.size = w.heap.size + 1 + 1) := hus
  have HM : Hid (m = ls.length) := hm
  have HLen : Hid (∀ i, (Q.cutL (ls.take i) t).length ≤ m) := fun i => by
    rw [HM.out]
    exact Nat.le_trans (List.length_filter_le _ _) (by rw [List.length_take]; exact Nat.min_le_right _ _)
  have HS0 : Hid (CutR u u (.slice none 0 0) (Q.cutL (ls.take 0) t)) := ⟨Below.refl _ _, RowC.nil _ _ _, fun j hj => by simp [cBlk] at hj⟩
  rw [hv]
  clear h hu hbu hB2 hus hbn hbr hc1 hc2 hm hv
  go_enter Try.func35, Try.ntmps35
  go_wp2
  rw [← HEq.out.2.2, ← HEq.out.2.1, ← HEq.out.1]
  go_loopw [6, 7, 8] (fun lv kv iv wr => ∃ (i k n c' : Nat) (q : Option Addr), iv = .int .i64 (i : Int) ∧ i ≤ m ∧ kv = .int .i64 (k : Int) ∧ k + n = i ∧ lv = .slice q n c' ∧ Hid (CutR u wr (.slice q n c') (Q.cutL (ls.take i) t))) (fun _ _ iv _ => m - (intOf iv).toNat)
  case atStart => exact ⟨0, 0, 0, 0, none, rfl, Nat.zero_le _, rfl, rfl, rfl, HS0⟩
  case round =>
    clear HS0
    obtain ⟨i, k, n, c', q, rfl, him, rfl, hkn, rfl, HS⟩ := hrel
    obtain ⟨hx, _⟩ := HX.out wr HS.out.1
    have HB2 : Hid (B2 bn br most (.slice p m c) wr) := hx
    obtain ⟨n0, n1, r0, r1, fn, fr⟩ := hx
    have HNl : Hid (n = (Q.cutL (ls.take i) t).length) := by
      obtain ⟨_, _, e, _⟩ := RowC.form HS.out.2.1
      injection e
    by_cases hlt : i < m
    · obtain ⟨l, g, off, hl, hp, y0, y1, y2⟩ := HI.out wr HS.out.1 i hlt
      subst hp
      have HT : Hid (Q.cutL (ls.take (i + 1)) t = Q.cutL (ls.take i) t ++ (if l.tt = t then [] else [l])) := cutL_take t hl
      have hi0 : (0 : Int) ≤ (i : Int) := Int.natCast_nonneg i
      have hkw : IntKind.i64.wrap ((k : Int) + 1) = (k : Int) + 1 := numW (by omega)
      have HKn : Hid (k + n = i) := hkn
      obtain ⟨fr', tt, tx⟩ := l
      dsimp only at y0 y1 y2 HT
      clear hl hkn fr r0 r1 fn
      by_cases q2 : tt = t
      · rw [if_pos q2, List.append_nil] at HT
        have HS' : Hid (CutR u wr (.slice q n c') (Q.cutL (ls.take (i + 1)) t)) := by rw [HT.out]; exact HS.out
        subst q2
        go_wp2
        go_roundw
        case rel => exact ⟨i + 1, k + 1, n, c', q, by go_num, by omega, by go_num, by have := HKn.out; omega, rfl, HS'⟩
        case measure => simp [intOf]; omega
      · rw [if_neg q2] at HT
        have HRow : Hid (RowC (wr.alloc (.cells #[.int .i64 fr', .int .i64 tt, .string tx] 82)) 3 (.slice q n c') n (ltCells (Q.cutL (ls.take i) t))) := by
          have hr := HS.out.2.1
          unfold Ls at hr
          rw [← HNl.out] at hr
          exact hr.carry (fun j hj => Below.heap_alloc wr _ j (hr.lt (by decide) hj))
        have HSrc : Hid (Src Try.prog 3 27 (.slice (some ⟨wr.heap.size, 0, none⟩) 1 1) 1 [.int .i64 fr', .int .i64 tt, .string tx] (wr.alloc (.cells #[.int .i64 fr', .int .i64 tt, .string tx] 82))) := by
          refine Src.ofSlice _ Try.underlying27 _ _ _ _ rfl (fun j u hu => ?_) (fun u hu => by simp at hu; rcases hu with rfl | rfl | rfl <;> rfl)
          rw [Addr.add_lit, Nat.zero_add, World.cell?_alloc_mark]
          simpa using hu
        have HEnd : Hid (∀ Y L', RowC Y 3 L' (n + 1) (ltCells (Q.cutL (ls.take i) t) ++ [.int .i64 fr', .int .i64 tt, .string tx]) → (wr.alloc (.cells #[.int .i64 fr', .int .i64 tt, .string tx] 82)).grownBy Y (cBlk (.slice q n c')) → (∀ j, cBlk L' = some j → cBlk (.slice q n c') = some j ∨ wr.heap.size + 1 ≤ j) → ∃ p' c2, L' = .slice p' (n + 1) c2 ∧ Hid (CutR u Y (.slice p' (n + 1) c2) (Q.cutL (ls.take (i + 1)) t))) := by
          intro Y L' a1 a2 a3
          obtain ⟨p', c2, hv', _⟩ := a1.form
          subst hv'
          refine ⟨p', c2, rfl, ?_⟩
          rw [HT.out]
          have a1' := a1
          rw [HNl.out] at a1'
          exact CutR.snoc HS.out ⟨fr', tt, tx⟩ (by rw [← HNl.out]; exact a1) a2 a3
        have hL : Hid ((n + 1) * 32 ≤ 140737488355328 ∧ n + 1 ≤ maxLen) := by have := HKn.out; unfold maxLen; exact ⟨by omega, by omega⟩
        go_wp2_with (at_builtin; refine wpList_append_rowC rfl (.tmp 26) (.tmp 32) 27 27 82 rfl Try.underlying27 _ 3 32 infoRL rfl (.slice q n c') n (ltCells (Q.cutL (ls.take i) t)) rfl HRow.out _ 1 _ rfl HSrc.out hL.out.1 hL.out.2 ?qnext)
        case qnext =>
          intro L' Y a1 a2 a3
          obtain ⟨p', c2, rfl, HC⟩ := HEnd.out Y L' a1 a2 a3
          clear a1 a2 a3
          go_wp2
          go_roundw
          case rel => exact ⟨i + 1, k, n + 1, c2, p', by go_num, by omega, rfl, by have := HKn.out; omega, rfl, HC⟩
          case measure => simp [intOf]; omega
    · obtain rfl : i = m := by omega
      have hE : Q.cutL (ls.take i) t = Q.cutL ls t := congrArg (fun z => Q.cutL z t) (List.take_of_length_le (Nat.le_of_eq HM.out.symm))
      rw [hE] at HS HNl
      have HK : Hid (k = ls.length - (Q.cutL ls t).length) := by have := HNl.out; have := HM.out; show _ = _; omega
      have HNe : Hid (bn = w.heap.size ∧ br = w.heap.size + 1) := ⟨HEq.out.1, HEq.out.2.1⟩
      have hnb : bn ≠ br := by have := HNe.out; omega
      have f0 := fr 0
      have f1 := fr 1
      have m0 : (wr.setCell ⟨bn, 1, none⟩ (.slice q n c')).cell? ⟨bn, 0, none⟩ = some (.int .i64 most) := by rw [cell_set6 _ n1, if_neg (by omega)]; exact n0
      have m1 : (wr.setCell ⟨bn, 1, none⟩ (.slice q n c')).cell? ⟨bn, 1, none⟩ = some (.slice q n c') := by rw [cell_set6 _ n1, if_pos rfl]
      have hsr : (wr.setCell ⟨bn, 1, none⟩ (.slice q n c')).heap[br]? = wr.heap[br]? := Below.heap_setCell _ _ _ _ (fun e => hnb e.symm)
      have z0 := (World.cell?_of_block (a := ⟨br, 0, none⟩) hsr).trans r0
      have z1 := (World.cell?_of_block (a := ⟨br, 1, none⟩) hsr).trans r1
      have g0 := (World.frozen?_of_block (a := ⟨br, 0, none⟩) hsr).trans f0
      have g1 := (World.frozen?_of_block (a := ⟨br, 1, none⟩) hsr).trans f1
      have HOut : Hid (ROut w (.slice p i c) (finC wr bn br most (.slice q n c')) (.slice q n c') (Q.cutL ls t)) := by
        have hb := (HX.out wr HS.out.1).2
        have hq := HS.out.2.2
        have hus := HUs.out
        have hne := HNe.out
        refine ⟨RowC.carry HS.out.2.1 (fun j hj => ?_), fin2_below (hb.setCell (p := ⟨bn, 1, none⟩) (by show _ ≤ bn; omega) _) (by omega) _ _, fun j hj => .inr (by have := hq j hj; omega)⟩
        have := hq j hj
        unfold finC
        rw [fin2_other (by omega), Below.heap_setCell _ _ _ _ (by show j ≠ bn; omega)]
      obtain ⟨x0, x1⟩ := fin2_cells z0 z1 (.int .i64 most) (.slice q n c')
      obtain ⟨F, hF⟩ : ∃ F, F = finC wr bn br most (.slice q n c') := ⟨_, rfl⟩
      rw [← hF] at HOut
      unfold finC at hF
      rw [← hF] at x0 x1
      unfold fin2 at hF
      clear hlt him hE hkn hsr
      go_wp2
      rw [← hF]
      clear hF
      refine bodyPost_ret (v := .tuple #[.agg #[.int .i64 most, .slice q n c'], .int .i64 (k : Int)]) ?qres rfl ?qpost
      case qres => simp [results, Try.results35, go_sem, x0, x1]
      case qpost => exact ⟨_, by rw [← HK.out], HOut.out⟩

end
end Go.Proofs.Ytpopanfefpehnaa
