/-
  The document's FromAnswer.
-/
import Derived.Test.YtgkcchbignakcaaCmInK
import Derived.Test.YtgkcchbignakcaaCmInA
namespace Go.Proofs.Ytgkcchbignakcaa
open Go.RowKit

theorem Rx.mark65 {w0 U : World} {B : Nat} {x : Option (List UInt8)} {bs : List (Nat × TypeId × List Value)} {X : World} (h : Rx w0 U B x bs X) :
    Calls Try.prog 39 #[.pointer (some ⟨B, 0, none⟩), .int .u8 65] X fun e Y => e = .returned (.tuple #[]) ∧ Rx w0 U B (markX 65 x) bs Y := h.mark 65

/-- What the document's FromAnswer answers. -/
def AnsR (s : ByteArray) (e : Ending) (w' : World) : Prop := match takeX 65 dAns s.data.toList with
  | some vs => ∃ (i : IdD) (x : RepD) (c : Nat), vs = i.pss.flatten ++ x.pss.flatten ∧ e = .returned (.tuple #[.agg i.cells.toArray, .agg (x.cellsC c).toArray, .int .i64 0]) ∧ PostsIn w' x.p x.posts ∧ x.posts.length ≤ 64
  | none => e = .returned (.tuple #[.agg zId.cells.toArray, .agg zRep.cells.toArray, .int .i64 140])

theorem Rz.drew {w0 U : World} {B : Nat} {x : Option (List UInt8)} {bs : List (Nat × TypeId × List Value)} {lv : Value} {n : Nat} {xs : List Value} {X : World} (h : Rz w0 U B x bs lv n xs X) : Rz w0 U B x bs lv n xs X.drew := ⟨h.rx.drew, h.row.carry (fun _ _ => rfl), h.rb⟩
theorem Rz.put {w0 U : World} {B : Nat} {x : Option (List UInt8)} {bs : List (Nat × TypeId × List Value)} {lv : Value} {n : Nat} {xs : List Value} {X : World} (h : Rz w0 U B x bs lv n xs X) {i b : Nat} {t : TypeId} {cs : List Value} (hi : bs[i]? = some (b, t, cs)) (ds : List Value) : Rz w0 U B x (bs.set i (b, t, ds)) lv n xs (X.setRow b ds.toArray) :=
  h.turn hi (h.rx.row hi ds) ⟨rfl, rfl, rfl, by simp [World.setRow], fun k _ hn => setRow_other _ _ _ _ hn⟩

set_option maxHeartbeats 8000000 in
set_option maxRecDepth 100000 in
theorem rFromW_c (s : ByteArray) (hs : s.size ≤ 140737488351232) (w : World) : Calls Try.prog 29 #[.string s] w fun e w' => AnsR s e w' ∧ Below w.heap.size w w' := by
  have ii : (Try.prog.info? 3).map (·.size) = some 1 := by kernel_rfl
  have is_ : (Try.prog.info? 9).map (·.size) = some 1 := by kernel_rfl
  have ie : (Try.prog.info? 26).map (·.size) = some 1 := by kernel_rfl
  have isl : (Try.prog.info? 37).map (·.size) = some 1 := by kernel_rfl
  have i2p : (Try.prog.info? 41).map (·.size) = some 2 := by kernel_rfl
  have i2 : (Try.prog.info? 23).map (·.size) = some 2 := by kernel_rfl
  have i3 : (Try.prog.info? 39).map (·.size) = some 3 := by kernel_rfl
  have hR : Rx w w (w.heap.size + 1 + 1) (some s.data.toList) [(w.heap.size, 23, [.int .i64 0, .int .i64 0]), (w.heap.size + 1, 39, [.int .i64 0, .int .i64 0, .slice none 0 0])] (((w.alloc (.cells #[.int .i64 0, .int .i64 0] 23)).alloc (.cells #[.int .i64 0, .int .i64 0, .slice none 0 0] 39)).alloc (.cells #[.string s, .bool false] 79)) := by
    have := Rx.first (w0 := w) (w := (w.alloc (.cells #[.int .i64 0, .int .i64 0] 23)).alloc (.cells #[.int .i64 0, .int .i64 0, .slice none 0 0] 39)) ((alloc_below w _).alloc (by simp) _) s hs [(w.heap.size, 23, [.int .i64 0, .int .i64 0]), (w.heap.size + 1, 39, [.int .i64 0, .int .i64 0, .slice none 0 0])] (fun p hp => by
      simp only [List.mem_cons, List.not_mem_nil, or_false] at hp
      rcases hp with rfl | rfl
      · exact ⟨by rw [Below.heap_alloc _ _ _ (by simp)]; exact heap_alloc_new _ _, Nat.le_refl _⟩
      · refine ⟨?_, Nat.le_succ _⟩
        have := heap_alloc_new (w.alloc (.cells #[.int .i64 0, .int .i64 0] 23)) (.cells #[.int .i64 0, .int .i64 0, .slice none 0 0] 39)
        simpa using this) (by simp)
    simpa using this
  obtain ⟨y, hy⟩ : ∃ y, y = markX 65 (some s.data.toList) := ⟨_, rfl⟩
  have hT := fun p => ans_takeX s.data.toList p
  rw [← hy] at hT
  have HN0 := cnt_v 64 (ansX0 y)
  have hn16 := cnt_le 64 (ansX0 y)
  obtain ⟨n, hn⟩ : ∃ n, n = cnt 64 (ansX0 y) := ⟨_, rfl⟩
  rw [← hn] at HN0 hn16
  have HN16 := hidden hn16
  have HNN := hidden hn
  cases hf : fineB (ansX y) with
  | true =>
    have HQ : Hid (∀ (e : Ending) (w' : World) (p : Option Addr) (c : Nat), e = .returned (.tuple #[.agg (ansI y).cells.toArray, .agg ((ansV y p).cellsC c).toArray, .int .i64 0]) → PostsIn w' p (ansP y) → AnsR s e w') := fun e w' p c he hi => by
      unfold AnsR
      rw [hT p, hf, if_pos rfl]
      exact ⟨ansI y, ansV y p, c, rfl, he, hi, by show (ansP y).length ≤ 64; unfold ansP; rw [postsV_len]; exact cnt_le _ _⟩
    have HFB := hidden hf
    have HY := hidden hy
    have HN := hidden HN0
    have HQ2 : Hid (postsV n (mostX 64 (ansX0 y)) = ansP y) := by unfold Hid ansP; rw [hn]
    clear hf hT hy hs HN0 hn16 hn
    go_enter Try.func29, Try.ntmps29
    go_wp2_with (first
      | (go_at_call 39; refine hR.mark65.mono ?_; rintro e X ⟨rfl, h9⟩; clear hR; have hR := h9; clear h9; rw [← HY.out] at hR)
      | (go_at_call 40; refine (hR.num).mono ?_; rintro e X ⟨rfl, h9⟩; clear hR; have hR := h9; clear h9)
      | (go_at_call_of 41 (Value.int IntKind.i64 64); refine (hR.mostC64 HN.out).mono ?_; rintro e X ⟨rfl, h9⟩; clear hR; have hR := h9; clear h9)
      | (refine (hR.more 23 [.int .i64 0, .int .i64 0]).whole (i := 0) rfl rfl 23 _ _ rfl _ rfl rfl (by exact i2) rfl rfl ?_; clear hR; generalize X.heap.size = ib; intro X hR; simp only [List.set] at hR)
      | (refine (hR.more 39 [.int .i64 0, .int .i64 0, .slice none 0 0]).whole (i := 0) rfl rfl 39 _ _ rfl _ rfl rfl (by exact i3) rfl rfl ?_; clear hR; generalize X.heap.size = rb; intro X hR; simp only [List.set] at hR)
      | (refine hR.store (i := 0) rfl rfl 3 _ _ rfl _ (.int .i64 _) rfl rfl rfl rfl ii (by simp) ?_; clear hR; intro X hR; simp only [List.set] at hR)
      | (refine hR.store (i := 0) rfl rfl 26 _ _ rfl _ (.int .i64 _) rfl rfl rfl rfl ie (by simp) ?_; clear hR; intro X hR; simp only [List.set] at hR))
    have HR0 : Hid (Rz w w (w.heap.size + 1 + 1) (postsX 0 (mostX 64 (ansX0 y))) [(rb, 39, [.int .i64 (numV (numX (numX y))), .int .i64 (numV (numX (numX (numX y)))), .slice none 0 0]), (ib, 23, [.int .i64 (numV y), .int .i64 (numV (numX y))]), (w.heap.size, 23, [.int .i64 0, .int .i64 0]), (w.heap.size + 1, 39, [.int .i64 0, .int .i64 0, .slice none 0 0])] (.slice none 0 0) 0 (postCs (postsV 0 (mostX 64 (ansX0 y)))) X) := Rz.start hR
    clear hR
    go_loopw [9] (fun i wr => ∃ (k : Nat) (p : Option Addr) (c : Nat), i = .int .i64 (k : Int) ∧ k ≤ n ∧ Hid (Rz w w (w.heap.size + 1 + 1) (postsX k (mostX 64 (ansX0 y))) [(rb, 39, [.int .i64 (numV (numX (numX y))), .int .i64 (numV (numX (numX (numX y)))), .slice p k c]), (ib, 23, [.int .i64 (numV y), .int .i64 (numV (numX y))]), (w.heap.size, 23, [.int .i64 0, .int .i64 0]), (w.heap.size + 1, 39, [.int .i64 0, .int .i64 0, .slice none 0 0])] (.slice p k c) k (postCs (postsV k (mostX 64 (ansX0 y)))) wr))
      (fun i _ => n - (intOf i).toNat)
    case atStart => exact ⟨0, none, 0, rfl, Nat.zero_le _, HR0⟩
    case round =>
      obtain ⟨k, p, c, rfl, hkn, HR⟩ := hrel
      have hR := HR.out
      obtain ⟨t0, bb, d0, d1, -, -, -, hX⟩ := hR.rx.rs.read
      have hk16 : k ≤ 64 := Nat.le_trans hkn HN16.out
      have HL : Hid ((k + 1) * 32 ≤ 140737488355328 ∧ k + 1 ≤ maxLen) := by have := HN16.out; unfold maxLen; exact ⟨by omega, by omega⟩
      obtain ⟨xk, hxk⟩ : ∃ xk, xk = postsX k (mostX 64 (ansX0 y)) := ⟨_, rfl⟩
      rw [← hxk] at hR hX
      have HXK := hidden hxk
      clear HR hxk
      by_cases hlt : k < n
      · cases xk with
        | some lx =>
          have hbb : bb = false := hX.1
          subst hbb
          clear hX d0
          generalize hzz : some lx = zz at hR
          have HZZ := hidden hzz
          clear hzz
          go_wp2_with (first
            | (refine (hR.more 41 [.string ⟨#[]⟩, .string ⟨#[]⟩]).whole (i := 0) rfl rfl 41 _ _ rfl _ rfl rfl (by exact i2p) rfl rfl ?_; clear hR; generalize wr.heap.size = eb; intro X hR; simp only [List.set] at hR)
            | (go_at_call 43; refine (hR.text).mono ?_; rintro e X ⟨rfl, h9⟩; clear hR; have hR := h9; clear h9)
            | (refine hR.store (i := 0) rfl rfl 9 _ _ rfl _ (.string _) rfl rfl rfl rfl is_ (by simp) ?_; clear hR; intro X hR; simp only [List.set] at hR; have c7 : X.cell? ⟨rb, 2, none⟩ = some (.slice p k c) := hR.rx.cell (i := 1) rfl rfl)
            | (refine hR.load (i := 0) rfl rfl 41 _ rfl rfl Try.underlying41 rfl (by exact i2p) ?_)
            | (at_builtin; refine wpList_append_rowC rfl (.tmp 52) (.tmp 54) 37 37 41 rfl Try.underlying37 _ 2 32 infoPosts rfl (.slice p k c) k _ rfl (hR.laid _) (.slice (some ⟨X.heap.size, 0, none⟩) 1 1) 1 _ rfl (src_new2 Try.underlying37 _ _ rfl rfl) HL.out.1 HL.out.2 ?_; intro v' w2 a1 a2 a3; have h9 := hR.app a1 a2 a3; obtain ⟨p2, c2, rfl, -, -⟩ := a1.form; clear hR c7; have hR := h9; clear h9 a1 a2 a3)
            | (refine hR.store (i := 1) rfl rfl 37 _ _ rfl _ (.slice _ _ _) rfl rfl rfl rfl isl (by simp) ?_; clear hR; intro X hR; simp only [List.set] at hR))
          go_roundw
          case rel =>
            refine ⟨k + 1, p2, c2, by go_num, hlt, ?_⟩
            have h9 := hR.drop
            rw [← HZZ.out, HXK.out] at h9
            have e1 : postCs (postsV (k + 1) (mostX 64 (ansX0 y))) = postCs (postsV k (mostX 64 (ansX0 y))) ++ [.string (textV (postsX k (mostX 64 (ansX0 y)))), .string (textV (textX (postsX k (mostX 64 (ansX0 y)))))] := by rw [postsV, postCs_snoc]
            unfold Hid
            rw [e1]
            exact h9
          case measure => simp [intOf]; omega
        | none =>
          have hbb : bb = true := hX
          subst hbb
          clear hX d0
          have HK : Hid (postsX k (mostX 64 (ansX0 y)) = none) := HXK.out.symm
          exfalso
          have h1 := postsX_stop n k (mostX 64 (ansX0 y)) hkn HK.out
          have h2 := HFB.out
          unfold ansX at h2
          rw [← HNN.out] at h2
          rw [fine_none h1] at h2
          cases h2

      · obtain rfl : k = n := by omega
        clear hX d0 d1
        generalize hzz : xk = zz at hR
        have HZZ := hidden hzz
        clear hzz
        have HF9 : Hid (fineB zz = true) := by
          have h2 := HFB.out
          unfold ansX at h2
          rw [← HNN.out, ← HXK.out, HZZ.out] at h2
          exact h2
        go_wp2_with (go_at_call 44; refine (hR.fineF HF9.out).mono ?_; rintro e Y ⟨rfl, h9⟩; subst h9)
        obtain ⟨cs, hcs⟩ : ∃ cs : List Value, cs = [.int .i64 (numV y), .int .i64 (numV (numX y))] := ⟨_, rfl⟩
        obtain ⟨ds, hds⟩ : ∃ ds : List Value, ds = [.int .i64 (numV (numX (numX y))), .int .i64 (numV (numX (numX (numX y)))), .slice p k c] := ⟨_, rfl⟩
        rw [← hcs, ← hds] at hR
        have hD := hR.drew
        have h1 := hD.put (i := 2) rfl cs
        simp only [List.set] at h1
        have h2 := h1.put (i := 3) rfl ds
        simp only [List.set] at h2
        have hl1 : (Try.prog.info? 23).map (·.size) = some cs.length := by rw [hcs]; exact i2
        have hl2 : (Try.prog.info? 39).map (·.size) = some ds.length := by rw [hds]; exact i3
        have ho1 : cs.toArray.all (·.oneCell') = true := by rw [hcs]; exact IdD.one ⟨_, _⟩
        have ho2 : ds.toArray.all (·.oneCell') = true := by rw [hds]; exact all_oneCell_toArray (fun v hv => by simp only [List.mem_cons, List.not_mem_nil, or_false] at hv; rcases hv with rfl | rfl | rfl <;> rfl)
        have HZ1 : Hid (2 = cs.toArray.size) := by unfold Hid; rw [hcs]; rfl
        have HZ2 : Hid (3 = ds.toArray.size) := by unfold Hid; rw [hds]; rfl
        have HR0 := hidden hR
        have HCS := hidden hcs
        have HDS := hidden hds
        clear hcs hds
        have HD := hidden hD
        have HH1 := hidden h1
        have HH2 := hidden h2
        clear hR hD h1 h2
        refine wp_region_held_drew (S := fun Z => Z.rangeAt ib 0 cs ∧ Z.rangeAt rb 0 ds) (by kernel_rfl) ⟨HD.out.rx.range (i := 1) rfl, HD.out.rx.range (i := 0) rfl⟩ (fun hHeld => ?_)
        refine take12 (i := 0) (d := 62) (v := .agg cs.toArray) rfl rfl (by kernel_rfl) (by kernel_rfl) (by kernel_rfl) (fun _ _ _ h => h) (yieldsIf_load_mid (by rfl) 23 (.tmp 6) rfl ib 0 rfl cs _ (fun _ h => h.1) Try.underlying23 rfl hl1) ⟨HD.out.rx.range (i := 1) rfl, HD.out.rx.range (i := 0) rfl⟩ ?_
        simp only [Act.put, List.setIfInBounds_toArray, List.set_cons_zero, List.set_cons_succ]
        refine take12 (i := 1) (d := 63) (v := .agg ds.toArray) rfl rfl (by kernel_rfl) (by kernel_rfl) (by kernel_rfl) (fun _ _ _ h => h) (yieldsIf_load_mid (by rfl) 39 (.tmp 7) rfl rb 0 rfl ds _ (fun _ h => h.2) Try.underlying39 rfl hl2) ⟨HD.out.rx.range (i := 1) rfl, HD.out.rx.range (i := 0) rfl⟩ ?_
        simp only [Act.put, List.setIfInBounds_toArray, List.set_cons_zero, List.set_cons_succ]
        refine wpAnyH_ready (rs := [2]) (by kernel_rfl) (by simp) ?_
        refine AllReadyH.cons rfl (fun K hK => ?_) AllReadyH.nil
        rw [if_pos (by rfl)]
        refine wp_store_row 23 (.tmp 2) (.tmp 62) rfl w.heap.size cs.toArray rfl rfl 23 _ (HD.out.rx.at (i := 2) rfl).1 (by simpa using hl1) HZ1.out ho1 ?_
        refine hK.out _ _ ⟨HH1.out.rx.range (i := 1) rfl, HH1.out.rx.range (i := 0) rfl⟩ (fun hHeld => ?_)
        clear hK K
        try simp only [Act.put, List.setIfInBounds_toArray]
        refine wpAnyH_ready (rs := [3]) (by kernel_rfl) (by simp) ?_
        refine AllReadyH.cons rfl (fun K hK => ?_) AllReadyH.nil
        rw [if_pos (by rfl)]
        refine wp_store_row 39 (.tmp 3) (.tmp 63) rfl (w.heap.size + 1) ds.toArray rfl rfl 39 _ (HH1.out.rx.at (i := 3) rfl).1 (by simpa using hl2) HZ2.out ho2 ?_
        refine hK.out _ _ ⟨HH2.out.rx.range (i := 1) rfl, HH2.out.rx.range (i := 0) rfl⟩ (fun hHeld => ?_)
        clear hK K
        try simp only [Act.put]
        refine take12 (i := 4) (d := 4) (v := .int .i64 0) rfl rfl (by kernel_rfl) (by kernel_rfl) (by kernel_rfl) (fun _ _ _ h => h) (Or.inl ⟨by rfl, ?_⟩) (by assumption) ?_
        · intro X hSw
          go_simp
        simp only [Act.put]
        refine wpAnyH_done (by kernel_rfl) ?_ _
        go_wp2
        refine bodyPost_ret (results_ans _ Try.results29 _ _ _ _ _ _ _ rfl rfl rfl (HH2.out.rx.at (i := 2) rfl).1 (HH2.out.rx.at (i := 3) rfl).1 HZ1.out.symm HZ2.out.symm) rfl ⟨HQ.out _ _ p c ?_ (HQ2.out ▸ HH2.out.row.postsIn (by rw [postsV_len])), HH2.out.rx.rs.below⟩
        rw [HCS.out, HDS.out]
        unfold ansV ansP RepD.cellsC
        rw [← HNN.out]
        simp only [postsV_len]
        rfl

  | false =>
    have HQ : Hid (∀ (e : Ending) (w' : World), e = .returned (.tuple #[.agg zId.cells.toArray, .agg zRep.cells.toArray, .int .i64 140]) → AnsR s e w') := fun e w' he => by
      unfold AnsR
      rw [hT none, hf]
      exact he
    have HFB := hidden hf
    have HY := hidden hy
    have HN := hidden HN0
    clear hf hT hy hs HN0 hn16 hn
    go_enter Try.func29, Try.ntmps29
    go_wp2_with (first
      | (go_at_call 39; refine hR.mark65.mono ?_; rintro e X ⟨rfl, h9⟩; clear hR; have hR := h9; clear h9; rw [← HY.out] at hR)
      | (go_at_call 40; refine (hR.num).mono ?_; rintro e X ⟨rfl, h9⟩; clear hR; have hR := h9; clear h9)
      | (go_at_call_of 41 (Value.int IntKind.i64 64); refine (hR.mostC64 HN.out).mono ?_; rintro e X ⟨rfl, h9⟩; clear hR; have hR := h9; clear h9)
      | (refine (hR.more 23 [.int .i64 0, .int .i64 0]).whole (i := 0) rfl rfl 23 _ _ rfl _ rfl rfl (by exact i2) rfl rfl ?_; clear hR; generalize X.heap.size = ib; intro X hR; simp only [List.set] at hR)
      | (refine (hR.more 39 [.int .i64 0, .int .i64 0, .slice none 0 0]).whole (i := 0) rfl rfl 39 _ _ rfl _ rfl rfl (by exact i3) rfl rfl ?_; clear hR; generalize X.heap.size = rb; intro X hR; simp only [List.set] at hR)
      | (refine hR.store (i := 0) rfl rfl 3 _ _ rfl _ (.int .i64 _) rfl rfl rfl rfl ii (by simp) ?_; clear hR; intro X hR; simp only [List.set] at hR)
      | (refine hR.store (i := 0) rfl rfl 26 _ _ rfl _ (.int .i64 _) rfl rfl rfl rfl ie (by simp) ?_; clear hR; intro X hR; simp only [List.set] at hR))
    have HR0 : Hid (Rz w w (w.heap.size + 1 + 1) (postsX 0 (mostX 64 (ansX0 y))) [(rb, 39, [.int .i64 (numV (numX (numX y))), .int .i64 (numV (numX (numX (numX y)))), .slice none 0 0]), (ib, 23, [.int .i64 (numV y), .int .i64 (numV (numX y))]), (w.heap.size, 23, [.int .i64 0, .int .i64 0]), (w.heap.size + 1, 39, [.int .i64 0, .int .i64 0, .slice none 0 0])] (.slice none 0 0) 0 (postCs (postsV 0 (mostX 64 (ansX0 y)))) X) := Rz.start hR
    clear hR
    go_loopw [9] (fun i wr => ∃ (k : Nat) (p : Option Addr) (c : Nat), i = .int .i64 (k : Int) ∧ k ≤ n ∧ Hid (Rz w w (w.heap.size + 1 + 1) (postsX k (mostX 64 (ansX0 y))) [(rb, 39, [.int .i64 (numV (numX (numX y))), .int .i64 (numV (numX (numX (numX y)))), .slice p k c]), (ib, 23, [.int .i64 (numV y), .int .i64 (numV (numX y))]), (w.heap.size, 23, [.int .i64 0, .int .i64 0]), (w.heap.size + 1, 39, [.int .i64 0, .int .i64 0, .slice none 0 0])] (.slice p k c) k (postCs (postsV k (mostX 64 (ansX0 y)))) wr))
      (fun i _ => n - (intOf i).toNat)
    case atStart => exact ⟨0, none, 0, rfl, Nat.zero_le _, HR0⟩
    case round =>
      obtain ⟨k, p, c, rfl, hkn, HR⟩ := hrel
      have hR := HR.out
      obtain ⟨t0, bb, d0, d1, -, -, -, hX⟩ := hR.rx.rs.read
      have hk16 : k ≤ 64 := Nat.le_trans hkn HN16.out
      have HL : Hid ((k + 1) * 32 ≤ 140737488355328 ∧ k + 1 ≤ maxLen) := by have := HN16.out; unfold maxLen; exact ⟨by omega, by omega⟩
      obtain ⟨xk, hxk⟩ : ∃ xk, xk = postsX k (mostX 64 (ansX0 y)) := ⟨_, rfl⟩
      rw [← hxk] at hR hX
      have HXK := hidden hxk
      clear HR hxk
      by_cases hlt : k < n
      · cases xk with
        | some lx =>
          have hbb : bb = false := hX.1
          subst hbb
          clear hX d0
          generalize hzz : some lx = zz at hR
          have HZZ := hidden hzz
          clear hzz
          go_wp2_with (first
            | (refine (hR.more 41 [.string ⟨#[]⟩, .string ⟨#[]⟩]).whole (i := 0) rfl rfl 41 _ _ rfl _ rfl rfl (by exact i2p) rfl rfl ?_; clear hR; generalize wr.heap.size = eb; intro X hR; simp only [List.set] at hR)
            | (go_at_call 43; refine (hR.text).mono ?_; rintro e X ⟨rfl, h9⟩; clear hR; have hR := h9; clear h9)
            | (refine hR.store (i := 0) rfl rfl 9 _ _ rfl _ (.string _) rfl rfl rfl rfl is_ (by simp) ?_; clear hR; intro X hR; simp only [List.set] at hR; have c7 : X.cell? ⟨rb, 2, none⟩ = some (.slice p k c) := hR.rx.cell (i := 1) rfl rfl)
            | (refine hR.load (i := 0) rfl rfl 41 _ rfl rfl Try.underlying41 rfl (by exact i2p) ?_)
            | (at_builtin; refine wpList_append_rowC rfl (.tmp 52) (.tmp 54) 37 37 41 rfl Try.underlying37 _ 2 32 infoPosts rfl (.slice p k c) k _ rfl (hR.laid _) (.slice (some ⟨X.heap.size, 0, none⟩) 1 1) 1 _ rfl (src_new2 Try.underlying37 _ _ rfl rfl) HL.out.1 HL.out.2 ?_; intro v' w2 a1 a2 a3; have h9 := hR.app a1 a2 a3; obtain ⟨p2, c2, rfl, -, -⟩ := a1.form; clear hR c7; have hR := h9; clear h9 a1 a2 a3)
            | (refine hR.store (i := 1) rfl rfl 37 _ _ rfl _ (.slice _ _ _) rfl rfl rfl rfl isl (by simp) ?_; clear hR; intro X hR; simp only [List.set] at hR))
          go_roundw
          case rel =>
            refine ⟨k + 1, p2, c2, by go_num, hlt, ?_⟩
            have h9 := hR.drop
            rw [← HZZ.out, HXK.out] at h9
            have e1 : postCs (postsV (k + 1) (mostX 64 (ansX0 y))) = postCs (postsV k (mostX 64 (ansX0 y))) ++ [.string (textV (postsX k (mostX 64 (ansX0 y)))), .string (textV (textX (postsX k (mostX 64 (ansX0 y)))))] := by rw [postsV, postCs_snoc]
            unfold Hid
            rw [e1]
            exact h9
          case measure => simp [intOf]; omega
        | none =>
          have hbb : bb = true := hX
          subst hbb
          clear hX d0
          have HK : Hid (postsX k (mostX 64 (ansX0 y)) = none) := HXK.out.symm
          have HF9 : Hid (fineB none = false) := rfl
          go_wp2_with (first
            | (go_at_call 44; refine (hR.fineF HF9.out).mono ?_; rintro e Y ⟨rfl, h9⟩; subst h9)
            | (refine hR.whole (i := 2) rfl rfl 23 _ _ rfl _ rfl rfl (by exact i2) rfl rfl ?_; clear hR; intro X hR; simp only [List.set] at hR)
            | (refine hR.whole (i := 3) rfl rfl 39 _ _ rfl _ rfl rfl (by exact i3) rfl rfl ?_; clear hR; intro X hR; simp only [List.set] at hR))
          exact bodyPost_ret (results_ans _ Try.results29 _ _ _ _ _ _ _ rfl rfl rfl (hR.rx.at (i := 2) rfl).1 (hR.rx.at (i := 3) rfl).1 rfl rfl) rfl ⟨HQ.out _ _ rfl, hR.rx.rs.below⟩

      · obtain rfl : k = n := by omega
        clear hX d0 d1
        generalize hzz : xk = zz at hR
        have HZZ := hidden hzz
        clear hzz
        have HF9 : Hid (fineB zz = false) := by
          have h2 := HFB.out
          unfold ansX at h2
          rw [← HNN.out, ← HXK.out, HZZ.out] at h2
          exact h2
        go_wp2_with (first
            | (go_at_call 44; refine (hR.fineF HF9.out).mono ?_; rintro e Y ⟨rfl, h9⟩; subst h9)
            | (refine hR.whole (i := 2) rfl rfl 23 _ _ rfl _ rfl rfl (by exact i2) rfl rfl ?_; clear hR; intro X hR; simp only [List.set] at hR)
            | (refine hR.whole (i := 3) rfl rfl 39 _ _ rfl _ rfl rfl (by exact i3) rfl rfl ?_; clear hR; intro X hR; simp only [List.set] at hR))
        exact bodyPost_ret (results_ans _ Try.results29 _ _ _ _ _ _ _ rfl rfl rfl (hR.rx.at (i := 2) rfl).1 (hR.rx.at (i := 3) rfl).1 rfl rfl) rfl ⟨HQ.out _ _ rfl, hR.rx.rs.below⟩


end Go.Proofs.Ytgkcchbignakcaa
