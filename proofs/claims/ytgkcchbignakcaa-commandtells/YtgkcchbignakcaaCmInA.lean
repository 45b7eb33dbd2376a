/-
  The document's FromAsk.
-/
import Derived.Test.YtgkcchbignakcaaCmInOp
import Derived.Test.YtgkcchbignakcaaCmFromA
namespace Go.Proofs.Ytgkcchbignakcaa
open Go.RowKit

theorem Rx.mark81 {w0 U : World} {B : Nat} {x : Option (List UInt8)} {bs : List (Nat × TypeId × List Value)} {X : World} (h : Rx w0 U B x bs X) :
    Calls Try.prog 39 #[.pointer (some ⟨B, 0, none⟩), .int .u8 81] X fun e Y => e = .returned (.tuple #[]) ∧ Rx w0 U B (markX 81 x) bs Y := h.mark 81
def askX (x : Option (List UInt8)) : Option (List UInt8) := opX (numX (numX x))
def askI (x : Option (List UInt8)) : IdD := ⟨numV x, numV (numX x)⟩
def askV (x : Option (List UInt8)) : OpD := opV (numX (numX x))
theorem ksAsk_ok : kOk ksAsk := fun k hk m e => by
  subst e
  have : m = Cm.mI := by
    simp [ksAsk, ksId, ksOp] at hk
    omega
  rw [this]
  exact Nat.le_refl _
theorem ask_takeX (l : List UInt8) : takeX 81 (Cm.dec ksAsk) l = if fineB (askX (markX 81 (some l))) then some ((askI (markX 81 (some l))).pss.flatten ++ (askV (markX 81 (some l))).pss.flatten) else none := by
  rw [run_takeX 81 ksAsk ksAsk_ok l]
  generalize markX 81 (some l) = x
  have e1 : runX ksAsk x = askX x := by
    simp only [ksAsk, runX_app, op_runX]
    simp only [ksId, runX, stepX, numX_most]
    rfl
  have e2 : runV ksAsk x = (askI x).pss.flatten ++ (askV x).pss.flatten := by
    simp only [ksAsk, runV_app, op_runV]
    simp only [ksId, runX, stepX, runV, stepV, numX_most, numV_most]
    rfl
  rw [e1, e2]

theorem Rx.drew {w0 U : World} {B : Nat} {x : Option (List UInt8)} {bs : List (Nat × TypeId × List Value)} {X : World} (h : Rx w0 U B x bs X) : Rx w0 U B x bs X.drew := by
  obtain ⟨⟨t, b, hh, ht, h0, hb, hx⟩, h2, h3, h4, h5⟩ := h
  exact ⟨⟨t, b, hh, ht, h0, hb.drew, hx⟩, h2, h3.drew, h4, h5⟩

set_option maxHeartbeats 4000000 in
set_option maxRecDepth 100000 in
theorem rFromAsk_c (s : ByteArray) (hs : s.size ≤ 140737488351232) (w : World) : Calls Try.prog 28 #[.string s] w fun e w' => AskO s e ∧ Below w.heap.size w w' := by
  have ii : (Try.prog.info? 3).map (·.size) = some 1 := by kernel_rfl
  have is_ : (Try.prog.info? 9).map (·.size) = some 1 := by kernel_rfl
  have i2 : (Try.prog.info? 23).map (·.size) = some 2 := by kernel_rfl
  have i9 : (Try.prog.info? 25).map (·.size) = some 9 := by kernel_rfl
  have hR : Rx w w (w.heap.size + 1 + 1) (some s.data.toList) [(w.heap.size, 23, [.int .i64 0, .int .i64 0]), (w.heap.size + 1, 25, [.int .i64 0, .string ⟨#[]⟩, .string ⟨#[]⟩, .string ⟨#[]⟩, .string ⟨#[]⟩, .string ⟨#[]⟩, .string ⟨#[]⟩, .int .i64 0, .int .i64 0])] (((w.alloc (.cells #[.int .i64 0, .int .i64 0] 23)).alloc (.cells #[.int .i64 0, .string ⟨#[]⟩, .string ⟨#[]⟩, .string ⟨#[]⟩, .string ⟨#[]⟩, .string ⟨#[]⟩, .string ⟨#[]⟩, .int .i64 0, .int .i64 0] 25)).alloc (.cells #[.string s, .bool false] 79)) := by
    have := Rx.first (w0 := w) (w := (w.alloc (.cells #[.int .i64 0, .int .i64 0] 23)).alloc (.cells #[.int .i64 0, .string ⟨#[]⟩, .string ⟨#[]⟩, .string ⟨#[]⟩, .string ⟨#[]⟩, .string ⟨#[]⟩, .string ⟨#[]⟩, .int .i64 0, .int .i64 0] 25)) ((alloc_below w _).alloc (by simp) _) s hs [(w.heap.size, 23, [.int .i64 0, .int .i64 0]), (w.heap.size + 1, 25, [.int .i64 0, .string ⟨#[]⟩, .string ⟨#[]⟩, .string ⟨#[]⟩, .string ⟨#[]⟩, .string ⟨#[]⟩, .string ⟨#[]⟩, .int .i64 0, .int .i64 0])] (fun p hp => by
      simp only [List.mem_cons, List.not_mem_nil, or_false] at hp
      rcases hp with rfl | rfl
      · exact ⟨by rw [Below.heap_alloc _ _ _ (by simp)]; exact heap_alloc_new _ _, Nat.le_refl _⟩
      · refine ⟨?_, Nat.le_succ _⟩
        have := heap_alloc_new (w.alloc (.cells #[.int .i64 0, .int .i64 0] 23)) (.cells #[.int .i64 0, .string ⟨#[]⟩, .string ⟨#[]⟩, .string ⟨#[]⟩, .string ⟨#[]⟩, .string ⟨#[]⟩, .string ⟨#[]⟩, .int .i64 0, .int .i64 0] 25)
        simpa using this) (by simp)
    simpa using this
  obtain ⟨y, hy⟩ : ∃ y, y = markX 81 (some s.data.toList) := ⟨_, rfl⟩
  have hT := ask_takeX s.data.toList
  rw [← hy] at hT
  cases hf : fineB (askX y) with
  | true =>
    have HQ : Hid (∀ e, e = .returned (.tuple #[.agg (askI y).cells.toArray, .agg (askV y).cells.toArray, .int .i64 0]) → AskO s e) := fun e he => by
      unfold AskO
      rw [hT, hf, if_pos rfl]
      exact ⟨askI y, askV y, rfl, he⟩
    rw [hy] at hf HQ
    have HFB := hidden hf
    clear hf hT hy hs
    go_enter Try.func28, Try.ntmps28
    go_wp2_with (first
      | (go_at_call 39; refine hR.mark81.mono ?_; rintro e X ⟨rfl, h9⟩; clear hR; have hR := h9; clear h9)
      | (go_at_call 40; refine (hR.num).mono ?_; rintro e X ⟨rfl, h9⟩; clear hR; have hR := h9; clear h9)
      | (go_at_call 42; refine (hR.op).mono ?_; rintro e X ⟨rfl, h9⟩; clear hR; have hR := h9; clear h9)
      | (refine (hR.more 23 [.int .i64 0, .int .i64 0]).whole (i := 0) rfl rfl 23 _ _ rfl _ rfl rfl (by exact i2) rfl rfl ?_; clear hR; generalize X.heap.size = ib; intro X hR; simp only [List.set] at hR)
      | (refine (hR.more 25 [.int .i64 0, .string ⟨#[]⟩, .string ⟨#[]⟩, .string ⟨#[]⟩, .string ⟨#[]⟩, .string ⟨#[]⟩, .string ⟨#[]⟩, .int .i64 0, .int .i64 0]).whole (i := 0) rfl rfl 25 _ _ rfl (opV _).cells rfl rfl (by exact i9) rfl rfl ?_; clear hR; generalize X.heap.size = xb; intro X hR; simp only [List.set] at hR)
      | (refine hR.store (i := 0) rfl rfl 3 _ _ rfl _ (.int .i64 _) rfl rfl rfl rfl ii (by simp) ?_; clear hR; intro X hR; simp only [List.set] at hR)
      | (go_at_call 44; refine (hR.fineF HFB.out).mono ?_; rintro e Y ⟨rfl, h9⟩; subst h9))
    obtain ⟨cs, hcs⟩ : ∃ cs : List Value, cs = [.int .i64 (numV (markX 81 (some s.data.toList))), .int .i64 (numV (numX (markX 81 (some s.data.toList))))] := ⟨_, rfl⟩
    obtain ⟨ds, hds⟩ : ∃ ds : List Value, ds = (opV (numX (numX (markX 81 (some s.data.toList))))).cells := ⟨_, rfl⟩
    rw [← hcs, ← hds] at hR
    have hD := hR.drew
    have h1 := hD.row (i := 2) rfl cs
    simp only [List.set] at h1
    have h2 := h1.row (i := 3) rfl ds
    simp only [List.set] at h2
    have hl1 : (Try.prog.info? 23).map (·.size) = some cs.length := by rw [hcs]; exact i2
    have hl2 : (Try.prog.info? 25).map (·.size) = some ds.length := by rw [hds]; exact i9
    have ho1 : cs.toArray.all (·.oneCell') = true := by rw [hcs]; exact IdD.one ⟨_, _⟩
    have ho2 : ds.toArray.all (·.oneCell') = true := by rw [hds]; exact OpD.one _
    have HZ1 : Hid (2 = cs.toArray.size) := by unfold Hid; rw [hcs]; rfl
    have HZ2 : Hid (9 = ds.toArray.size) := by unfold Hid; rw [hds]; rfl
    have HR0 := hidden hR
    have HCS := hidden hcs
    have HDS := hidden hds
    clear hcs hds
    have HD := hidden hD
    have HH1 := hidden h1
    have HH2 := hidden h2
    clear hR hD h1 h2
    refine wp_region_held_drew (S := fun Z => Z.rangeAt ib 0 cs ∧ Z.rangeAt xb 0 ds) (by kernel_rfl) ⟨HD.out.range (i := 1) rfl, HD.out.range (i := 0) rfl⟩ (fun hHeld => ?_)
    refine take12 (i := 0) (d := 27) (v := .agg cs.toArray) rfl rfl (by kernel_rfl) (by kernel_rfl) (by kernel_rfl) (fun _ _ _ h => h) (yieldsIf_load_mid (by rfl) 23 (.tmp 6) rfl ib 0 rfl cs _ (fun _ h => h.1) Try.underlying23 rfl hl1) ⟨HD.out.range (i := 1) rfl, HD.out.range (i := 0) rfl⟩ ?_
    simp only [Act.put, List.setIfInBounds_toArray, List.set_cons_zero, List.set_cons_succ]
    refine take12 (i := 1) (d := 28) (v := .agg ds.toArray) rfl rfl (by kernel_rfl) (by kernel_rfl) (by kernel_rfl) (fun _ _ _ h => h) (yieldsIf_load_mid (by rfl) 25 (.tmp 7) rfl xb 0 rfl ds _ (fun _ h => h.2) Try.underlying25 rfl hl2) ⟨HD.out.range (i := 1) rfl, HD.out.range (i := 0) rfl⟩ ?_
    simp only [Act.put, List.setIfInBounds_toArray, List.set_cons_zero, List.set_cons_succ]
    refine wpAnyH_ready (rs := [2]) (by kernel_rfl) (by simp) ?_
    refine AllReadyH.cons rfl (fun K hK => ?_) AllReadyH.nil
    rw [if_pos (by rfl)]
    refine wp_store_row 23 (.tmp 2) (.tmp 27) rfl w.heap.size cs.toArray rfl rfl 23 _ (HD.out.at (i := 2) rfl).1 (by simpa using hl1) HZ1.out ho1 ?_
    refine hK.out _ _ ⟨HH1.out.range (i := 1) rfl, HH1.out.range (i := 0) rfl⟩ (fun hHeld => ?_)
    clear hK K
    try simp only [Act.put, List.setIfInBounds_toArray]
    refine wpAnyH_ready (rs := [3]) (by kernel_rfl) (by simp) ?_
    refine AllReadyH.cons rfl (fun K hK => ?_) AllReadyH.nil
    rw [if_pos (by rfl)]
    refine wp_store_row 25 (.tmp 3) (.tmp 28) rfl (w.heap.size + 1) ds.toArray rfl rfl 25 _ (HH1.out.at (i := 3) rfl).1 (by simpa using hl2) HZ2.out ho2 ?_
    refine hK.out _ _ ⟨HH2.out.range (i := 1) rfl, HH2.out.range (i := 0) rfl⟩ (fun hHeld => ?_)
    clear hK K
    try simp only [Act.put]
    refine take12 (i := 4) (d := 4) (v := .int .i64 0) rfl rfl (by kernel_rfl) (by kernel_rfl) (by kernel_rfl) (fun _ _ _ h => h) (Or.inl ⟨by rfl, ?_⟩) (by assumption) ?_
    · intro X hSw
      go_simp
    simp only [Act.put]
    refine wpAnyH_done (by kernel_rfl) ?_ _
    go_wp2
    exact bodyPost_ret (results_ask _ Try.results28 _ _ _ _ _ _ _ rfl rfl rfl (HH2.out.at (i := 2) rfl).1 (HH2.out.at (i := 3) rfl).1 HZ1.out.symm HZ2.out.symm) rfl ⟨HQ.out _ (by rw [HCS.out, HDS.out]; rfl), HH2.out.rs.below⟩
  | false =>
    have HQ : Hid (∀ e, e = .returned (.tuple #[.agg zId.cells.toArray, .agg zOp.cells.toArray, .int .i64 140]) → AskO s e) := fun e he => by
      unfold AskO
      rw [hT, hf]
      exact he
    rw [hy] at hf
    have HFB := hidden hf
    clear hf hT hy hs
    go_enter Try.func28, Try.ntmps28
    go_wp2_with (first
      | (go_at_call 39; refine hR.mark81.mono ?_; rintro e X ⟨rfl, h9⟩; clear hR; have hR := h9; clear h9)
      | (go_at_call 40; refine (hR.num).mono ?_; rintro e X ⟨rfl, h9⟩; clear hR; have hR := h9; clear h9)
      | (go_at_call 42; refine (hR.op).mono ?_; rintro e X ⟨rfl, h9⟩; clear hR; have hR := h9; clear h9)
      | (refine (hR.more 23 [.int .i64 0, .int .i64 0]).whole (i := 0) rfl rfl 23 _ _ rfl _ rfl rfl (by exact i2) rfl rfl ?_; clear hR; generalize X.heap.size = ib; intro X hR; simp only [List.set] at hR)
      | (refine (hR.more 25 [.int .i64 0, .string ⟨#[]⟩, .string ⟨#[]⟩, .string ⟨#[]⟩, .string ⟨#[]⟩, .string ⟨#[]⟩, .string ⟨#[]⟩, .int .i64 0, .int .i64 0]).whole (i := 0) rfl rfl 25 _ _ rfl (opV _).cells rfl rfl (by exact i9) rfl rfl ?_; clear hR; generalize X.heap.size = xb; intro X hR; simp only [List.set] at hR)
      | (refine hR.store (i := 0) rfl rfl 3 _ _ rfl _ (.int .i64 _) rfl rfl rfl rfl ii (by simp) ?_; clear hR; intro X hR; simp only [List.set] at hR)
      | (refine hR.whole (i := 2) rfl rfl 23 _ _ rfl _ rfl rfl (by exact i2) rfl rfl ?_; clear hR; intro X hR; simp only [List.set] at hR)
      | (refine hR.whole (i := 3) rfl rfl 25 _ _ rfl _ rfl rfl (by exact i9) rfl rfl ?_; clear hR; intro X hR; simp only [List.set] at hR)
      | (go_at_call 44; refine (hR.fineF HFB.out).mono ?_; rintro e Y ⟨rfl, h9⟩; subst h9))
    exact bodyPost_ret (results_ask _ Try.results28 _ _ _ _ _ _ _ rfl rfl rfl (hR.at (i := 2) rfl).1 (hR.at (i := 3) rfl).1 rfl rfl) rfl ⟨HQ.out _ rfl, hR.rs.below⟩

end Go.Proofs.Ytgkcchbignakcaa
