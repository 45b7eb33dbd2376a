/-
  The document's FromMessage.
-/
import Derived.Test.YtgkcchbignakcaaCmInK
namespace Go.Proofs.Ytgkcchbignakcaa
open Go.RowKit

theorem Rx.mark77 {w0 U : World} {B : Nat} {x : Option (List UInt8)} {bs : List (Nat × TypeId × List Value)} {X : World} (h : Rx w0 U B x bs X) :
    Calls Try.prog 39 #[.pointer (some ⟨B, 0, none⟩), .int .u8 77] X fun e Y => e = .returned (.tuple #[]) ∧ Rx w0 U B (markX 77 x) bs Y := h.mark 77

/-- What the document's FromMessage answers. -/
def MsgR (s : ByteArray) (e : Ending) (w' : World) : Prop := match takeX 77 dMsg s.data.toList with
  | some vs => ∃ (x : MsgD) (c : Nat), vs = x.pss.flatten ∧ e = .returned (.tuple #[.agg (x.cellsC c).toArray, .int .i64 0]) ∧ EntsIn w' x.p x.ents ∧ x.ents.length ≤ 16
  | none => e = .returned (.tuple #[.agg zMsg.cells.toArray, .int .i64 140])

set_option maxHeartbeats 8000000 in
set_option maxRecDepth 100000 in
theorem rFromM_c (s : ByteArray) (hs : s.size ≤ 140737488351232) (w : World) : Calls Try.prog 27 #[.string s] w fun e w' => MsgR s e w' ∧ Below w.heap.size w w' := by
  have ii : (Try.prog.info? 3).map (·.size) = some 1 := by kernel_rfl
  have is_ : (Try.prog.info? 9).map (·.size) = some 1 := by kernel_rfl
  have ib_ : (Try.prog.info? 4).map (·.size) = some 1 := by kernel_rfl
  have isl : (Try.prog.info? 50).map (·.size) = some 1 := by kernel_rfl
  have i2 : (Try.prog.info? 54).map (·.size) = some 2 := by kernel_rfl
  have i11 : (Try.prog.info? 52).map (·.size) = some 11 := by kernel_rfl
  have hR : Rx w w (w.heap.size + 1) (some s.data.toList) [(w.heap.size, 52, [.int .i64 0, .int .i64 0, .int .i64 0, .int .i64 0, .int .i64 0, .int .i64 0, .int .i64 0, .slice none 0 0, .int .i64 0, .bool false, .string ⟨#[]⟩])] ((w.alloc (.cells #[.int .i64 0, .int .i64 0, .int .i64 0, .int .i64 0, .int .i64 0, .int .i64 0, .int .i64 0, .slice none 0 0, .int .i64 0, .bool false, .string ⟨#[]⟩] 52)).alloc (.cells #[.string s, .bool false] 79)) := by
    have := Rx.first (alloc_below w (.cells #[.int .i64 0, .int .i64 0, .int .i64 0, .int .i64 0, .int .i64 0, .int .i64 0, .int .i64 0, .slice none 0 0, .int .i64 0, .bool false, .string ⟨#[]⟩] 52)) s hs [(w.heap.size, 52, [.int .i64 0, .int .i64 0, .int .i64 0, .int .i64 0, .int .i64 0, .int .i64 0, .int .i64 0, .slice none 0 0, .int .i64 0, .bool false, .string ⟨#[]⟩])] (fun p hp => by
      obtain rfl : p = _ := by simpa using hp
      exact ⟨heap_alloc_new _ _, Nat.le_refl _⟩) (by simp)
    simpa using this
  obtain ⟨y, hy⟩ : ∃ y, y = markX 77 (some s.data.toList) := ⟨_, rfl⟩
  have hT := fun p => msg_takeX s.data.toList p
  rw [← hy] at hT
  have HN0 := cnt_v 16 (msgX0 y)
  have hn16 := cnt_le 16 (msgX0 y)
  obtain ⟨n, hn⟩ : ∃ n, n = cnt 16 (msgX0 y) := ⟨_, rfl⟩
  rw [← hn] at HN0 hn16
  have HN16 := hidden hn16
  have HNN := hidden hn
  cases hf : fineB (msgX y) with
  | true =>
    have HQ : Hid (∀ (e : Ending) (w' : World) (p : Option Addr) (c : Nat), e = .returned (.tuple #[.agg ((msgV y p).cellsC c).toArray, .int .i64 0]) → EntsIn w' p (msgE y) → MsgR s e w') := fun e w' p c he hi => by
      unfold MsgR
      rw [hT p, hf, if_pos rfl]
      exact ⟨msgV y p, c, rfl, he, hi, by show (msgE y).length ≤ 16; unfold msgE; rw [entsV_len]; exact cnt_le _ _⟩
    have HFB := hidden hf
    have HY := hidden hy
    have HN := hidden HN0
    have HQ2 : Hid (entsV n (msgX1 y) = msgE y) := by unfold Hid msgE; rw [hn]
    clear hf hT hy hs HN0 hn16 hn
    go_enter Try.func27, Try.ntmps27
    go_wp2_with (first
      | (go_at_call 39; refine hR.mark77.mono ?_; rintro e X ⟨rfl, h9⟩; clear hR; have hR := h9; clear h9; rw [← HY.out] at hR)
      | (go_at_call 40; refine (hR.num).mono ?_; rintro e X ⟨rfl, h9⟩; clear hR; have hR := h9; clear h9)
      | (go_at_call_of 41 (Value.int IntKind.i64 1); refine (hR.mostC1 rfl).mono ?_; rintro e X ⟨rfl, h9⟩; clear hR; have hR := h9; clear h9)
      | (go_at_call_of 41 (Value.int IntKind.i64 16); refine (hR.mostC16 HN.out).mono ?_; rintro e X ⟨rfl, h9⟩; clear hR; have hR := h9; clear h9)
      | (refine (hR.more 52 [.int .i64 0, .int .i64 0, .int .i64 0, .int .i64 0, .int .i64 0, .int .i64 0, .int .i64 0, .slice none 0 0, .int .i64 0, .bool false, .string ⟨#[]⟩]).whole (i := 0) rfl rfl 52 _ _ rfl _ rfl rfl (by exact i11) rfl rfl ?_; clear hR; generalize X.heap.size = mb; intro X hR; simp only [List.set] at hR)
      | (refine hR.store (i := 0) rfl rfl 3 _ _ rfl _ (.int .i64 _) rfl rfl rfl rfl ii (by simp) ?_; clear hR; intro X hR; simp only [List.set] at hR)
      | (refine hR.store (i := 0) rfl rfl 4 _ _ rfl _ (.bool _) rfl rfl rfl rfl ib_ (by simp) ?_; clear hR; intro X hR; simp only [List.set] at hR))
    have HR0 : Hid (Rz w w (w.heap.size + 1) (entsX 0 (msgX1 y)) [(mb, 52, [.int .i64 (numV y), .int .i64 (numV (numX y)), .int .i64 (numV (numX (numX y))), .int .i64 (numV (numX (numX (numX y)))), .int .i64 (numV (numX (numX (numX (numX y))))), .int .i64 (numV (numX (numX (numX (numX (numX y)))))), .int .i64 (numV (numX (numX (numX (numX (numX (numX y))))))), .slice none 0 0, .int .i64 (numV (numX (numX (numX (numX (numX (numX (numX y)))))))), .bool (tr (cmdX1 y)), .string ⟨#[]⟩]), (w.heap.size, 52, [.int .i64 0, .int .i64 0, .int .i64 0, .int .i64 0, .int .i64 0, .int .i64 0, .int .i64 0, .slice none 0 0, .int .i64 0, .bool false, .string ⟨#[]⟩])] (.slice none 0 0) 0 (entCs (entsV 0 (msgX1 y))) X) := Rz.start hR
    clear hR
    go_loopw [7] (fun i wr => ∃ (k : Nat) (p : Option Addr) (c : Nat), i = .int .i64 (k : Int) ∧ k ≤ n ∧ Hid (Rz w w (w.heap.size + 1) (entsX k (msgX1 y)) [(mb, 52, [.int .i64 (numV y), .int .i64 (numV (numX y)), .int .i64 (numV (numX (numX y))), .int .i64 (numV (numX (numX (numX y)))), .int .i64 (numV (numX (numX (numX (numX y))))), .int .i64 (numV (numX (numX (numX (numX (numX y)))))), .int .i64 (numV (numX (numX (numX (numX (numX (numX y))))))), .slice p k c, .int .i64 (numV (numX (numX (numX (numX (numX (numX (numX y)))))))), .bool (tr (cmdX1 y)), .string ⟨#[]⟩]), (w.heap.size, 52, [.int .i64 0, .int .i64 0, .int .i64 0, .int .i64 0, .int .i64 0, .int .i64 0, .int .i64 0, .slice none 0 0, .int .i64 0, .bool false, .string ⟨#[]⟩])] (.slice p k c) k (entCs (entsV k (msgX1 y))) wr))
      (fun i _ => n - (intOf i).toNat)
    case atStart => exact ⟨0, none, 0, rfl, Nat.zero_le _, HR0⟩
    case round =>
      obtain ⟨k, p, c, rfl, hkn, HR⟩ := hrel
      have hR := HR.out
      obtain ⟨t0, bb, d0, d1, -, -, -, hX⟩ := hR.rx.rs.read
      have hk16 : k ≤ 16 := Nat.le_trans hkn HN16.out
      have HL : Hid ((k + 1) * 24 ≤ 140737488355328 ∧ k + 1 ≤ maxLen) := by have := HN16.out; unfold maxLen; exact ⟨by omega, by omega⟩
      obtain ⟨xk, hxk⟩ : ∃ xk, xk = entsX k (msgX1 y) := ⟨_, rfl⟩
      rw [← hxk] at hR hX
      have HXK := hidden hxk
      clear HR hxk
      by_cases hlt : k < n
      · cases xk with
        | some lx =>
          have hbb : bb = false := hX.1
          subst hbb
          clear hX d0
          generalize hzz : some lx = zz at hR
          have HZZ := hidden hzz
          clear hzz
          go_wp2_with (first
            | (refine (hR.more 54 [.int .i64 0, .string ⟨#[]⟩]).whole (i := 0) rfl rfl 54 _ _ rfl _ rfl rfl (by exact i2) rfl rfl ?_; clear hR; generalize wr.heap.size = eb; intro X hR; simp only [List.set] at hR)
            | (go_at_call 40; refine (hR.num).mono ?_; rintro e X ⟨rfl, h9⟩; clear hR; have hR := h9; clear h9)
            | (go_at_call 43; refine (hR.text).mono ?_; rintro e X ⟨rfl, h9⟩; clear hR; have hR := h9; clear h9)
            | (refine hR.store (i := 0) rfl rfl 3 _ _ rfl _ (.int .i64 _) rfl rfl rfl rfl ii (by simp) ?_; clear hR; intro X hR; simp only [List.set] at hR)
            | (refine hR.store (i := 0) rfl rfl 9 _ _ rfl _ (.string _) rfl rfl rfl rfl is_ (by simp) ?_; clear hR; intro X hR; simp only [List.set] at hR; have c7 : X.cell? ⟨mb, 7, none⟩ = some (.slice p k c) := hR.rx.cell (i := 1) rfl rfl)
            | (refine hR.load (i := 0) rfl rfl 54 _ rfl rfl Try.underlying54 rfl (by exact i2) ?_)
            | (at_builtin; refine wpList_append_rowC rfl (.tmp 65) (.tmp 67) 50 50 54 rfl Try.underlying50 _ 2 24 infoEnts rfl (.slice p k c) k _ rfl (hR.laid _) (.slice (some ⟨X.heap.size, 0, none⟩) 1 1) 1 _ rfl (src_new2 Try.underlying50 _ _ rfl rfl) HL.out.1 HL.out.2 ?_; intro v' w2 a1 a2 a3; have h9 := hR.app a1 a2 a3; obtain ⟨p2, c2, rfl, -, -⟩ := a1.form; clear hR c7; have hR := h9; clear h9 a1 a2 a3)
            | (refine hR.store (i := 1) rfl rfl 50 _ _ rfl _ (.slice _ _ _) rfl rfl rfl rfl isl (by simp) ?_; clear hR; intro X hR; simp only [List.set] at hR))
          go_roundw
          case rel =>
            refine ⟨k + 1, p2, c2, by go_num, hlt, ?_⟩
            have h9 := hR.drop
            rw [← HZZ.out, HXK.out] at h9
            have e1 : entCs (entsV (k + 1) (msgX1 y)) = entCs (entsV k (msgX1 y)) ++ [.int .i64 (numV (entsX k (msgX1 y))), .string (textV (numX (entsX k (msgX1 y))))] := by rw [entsV, entCs_snoc]
            unfold Hid
            rw [e1]
            exact h9
          case measure => simp [intOf]; omega
        | none =>
          have hbb : bb = true := hX
          subst hbb
          clear hX d0
          have HK : Hid (entsX k (msgX1 y) = none) := HXK.out.symm
          exfalso
          have h1 := entsX_stop n k (msgX1 y) hkn HK.out
          have h2 := HFB.out
          unfold msgX at h2
          rw [← HNN.out] at h2
          rw [fine_text h1] at h2
          cases h2

      · obtain rfl : k = n := by omega
        clear hX d0 d1
        generalize hzz : xk = zz at hR
        have HZZ := hidden hzz
        clear hzz
        have HF9 : Hid (fineB (textX zz) = true) := by
          have h2 := HFB.out
          unfold msgX at h2
          rw [← HNN.out, ← HXK.out, HZZ.out] at h2
          exact h2
        go_wp2_with (first
            | (go_at_call 43; refine (hR.text).mono ?_; rintro e X ⟨rfl, h9⟩; clear hR; have hR := h9; clear h9)
            | (refine hR.store (i := 0) rfl rfl 9 _ _ rfl _ (.string _) rfl rfl rfl rfl is_ (by simp) ?_; clear hR; intro X hR; simp only [List.set] at hR)
            | (refine hR.load (i := 0) rfl rfl 52 _ rfl rfl Try.underlying52 rfl (by exact i11) ?_)
            | (refine hR.whole (i := 1) rfl rfl 52 _ _ rfl _ rfl rfl (by exact i11) rfl rfl ?_; clear hR; intro X hR; simp only [List.set] at hR)
            | (go_at_call 44; refine (hR.fineF HF9.out).mono ?_; rintro e Y ⟨rfl, h9⟩; subst h9))
        refine bodyPost_ret (results_msg _ Try.results27 _ _ _ _ _ rfl rfl (hR.rx.at (i := 1) rfl).1 rfl) rfl ⟨HQ.out _ _ p c ?_ (HQ2.out ▸ hR.row.entsIn (by rw [entsV_len])), hR.rx.rs.below⟩
        rw [← HZZ.out, HXK.out]
        unfold msgV msgE MsgD.cellsC
        rw [← HNN.out]
        simp only [entsV_len]
        rfl

  | false =>
    have HQ : Hid (∀ (e : Ending) (w' : World), e = .returned (.tuple #[.agg zMsg.cells.toArray, .int .i64 140]) → MsgR s e w') := fun e w' he => by
      unfold MsgR
      rw [hT none, hf]
      exact he
    have HFB := hidden hf
    have HY := hidden hy
    have HN := hidden HN0
    clear hf hT hy hs HN0 hn16 hn
    go_enter Try.func27, Try.ntmps27
    go_wp2_with (first
      | (go_at_call 39; refine hR.mark77.mono ?_; rintro e X ⟨rfl, h9⟩; clear hR; have hR := h9; clear h9; rw [← HY.out] at hR)
      | (go_at_call 40; refine (hR.num).mono ?_; rintro e X ⟨rfl, h9⟩; clear hR; have hR := h9; clear h9)
      | (go_at_call_of 41 (Value.int IntKind.i64 1); refine (hR.mostC1 rfl).mono ?_; rintro e X ⟨rfl, h9⟩; clear hR; have hR := h9; clear h9)
      | (go_at_call_of 41 (Value.int IntKind.i64 16); refine (hR.mostC16 HN.out).mono ?_; rintro e X ⟨rfl, h9⟩; clear hR; have hR := h9; clear h9)
      | (refine (hR.more 52 [.int .i64 0, .int .i64 0, .int .i64 0, .int .i64 0, .int .i64 0, .int .i64 0, .int .i64 0, .slice none 0 0, .int .i64 0, .bool false, .string ⟨#[]⟩]).whole (i := 0) rfl rfl 52 _ _ rfl _ rfl rfl (by exact i11) rfl rfl ?_; clear hR; generalize X.heap.size = mb; intro X hR; simp only [List.set] at hR)
      | (refine hR.store (i := 0) rfl rfl 3 _ _ rfl _ (.int .i64 _) rfl rfl rfl rfl ii (by simp) ?_; clear hR; intro X hR; simp only [List.set] at hR)
      | (refine hR.store (i := 0) rfl rfl 4 _ _ rfl _ (.bool _) rfl rfl rfl rfl ib_ (by simp) ?_; clear hR; intro X hR; simp only [List.set] at hR))
    have HR0 : Hid (Rz w w (w.heap.size + 1) (entsX 0 (msgX1 y)) [(mb, 52, [.int .i64 (numV y), .int .i64 (numV (numX y)), .int .i64 (numV (numX (numX y))), .int .i64 (numV (numX (numX (numX y)))), .int .i64 (numV (numX (numX (numX (numX y))))), .int .i64 (numV (numX (numX (numX (numX (numX y)))))), .int .i64 (numV (numX (numX (numX (numX (numX (numX y))))))), .slice none 0 0, .int .i64 (numV (numX (numX (numX (numX (numX (numX (numX y)))))))), .bool (tr (cmdX1 y)), .string ⟨#[]⟩]), (w.heap.size, 52, [.int .i64 0, .int .i64 0, .int .i64 0, .int .i64 0, .int .i64 0, .int .i64 0, .int .i64 0, .slice none 0 0, .int .i64 0, .bool false, .string ⟨#[]⟩])] (.slice none 0 0) 0 (entCs (entsV 0 (msgX1 y))) X) := Rz.start hR
    clear hR
    go_loopw [7] (fun i wr => ∃ (k : Nat) (p : Option Addr) (c : Nat), i = .int .i64 (k : Int) ∧ k ≤ n ∧ Hid (Rz w w (w.heap.size + 1) (entsX k (msgX1 y)) [(mb, 52, [.int .i64 (numV y), .int .i64 (numV (numX y)), .int .i64 (numV (numX (numX y))), .int .i64 (numV (numX (numX (numX y)))), .int .i64 (numV (numX (numX (numX (numX y))))), .int .i64 (numV (numX (numX (numX (numX (numX y)))))), .int .i64 (numV (numX (numX (numX (numX (numX (numX y))))))), .slice p k c, .int .i64 (numV (numX (numX (numX (numX (numX (numX (numX y)))))))), .bool (tr (cmdX1 y)), .string ⟨#[]⟩]), (w.heap.size, 52, [.int .i64 0, .int .i64 0, .int .i64 0, .int .i64 0, .int .i64 0, .int .i64 0, .int .i64 0, .slice none 0 0, .int .i64 0, .bool false, .string ⟨#[]⟩])] (.slice p k c) k (entCs (entsV k (msgX1 y))) wr))
      (fun i _ => n - (intOf i).toNat)
    case atStart => exact ⟨0, none, 0, rfl, Nat.zero_le _, HR0⟩
    case round =>
      obtain ⟨k, p, c, rfl, hkn, HR⟩ := hrel
      have hR := HR.out
      obtain ⟨t0, bb, d0, d1, -, -, -, hX⟩ := hR.rx.rs.read
      have hk16 : k ≤ 16 := Nat.le_trans hkn HN16.out
      have HL : Hid ((k + 1) * 24 ≤ 140737488355328 ∧ k + 1 ≤ maxLen) := by have := HN16.out; unfold maxLen; exact ⟨by omega, by omega⟩
      obtain ⟨xk, hxk⟩ : ∃ xk, xk = entsX k (msgX1 y) := ⟨_, rfl⟩
      rw [← hxk] at hR hX
      have HXK := hidden hxk
      clear HR hxk
      by_cases hlt : k < n
      · cases xk with
        | some lx =>
          have hbb : bb = false := hX.1
          subst hbb
          clear hX d0
          generalize hzz : some lx = zz at hR
          have HZZ := hidden hzz
          clear hzz
          go_wp2_with (first
            | (refine (hR.more 54 [.int .i64 0, .string ⟨#[]⟩]).whole (i := 0) rfl rfl 54 _ _ rfl _ rfl rfl (by exact i2) rfl rfl ?_; clear hR; generalize wr.heap.size = eb; intro X hR; simp only [List.set] at hR)
            | (go_at_call 40; refine (hR.num).mono ?_; rintro e X ⟨rfl, h9⟩; clear hR; have hR := h9; clear h9)
            | (go_at_call 43; refine (hR.text).mono ?_; rintro e X ⟨rfl, h9⟩; clear hR; have hR := h9; clear h9)
            | (refine hR.store (i := 0) rfl rfl 3 _ _ rfl _ (.int .i64 _) rfl rfl rfl rfl ii (by simp) ?_; clear hR; intro X hR; simp only [List.set] at hR)
            | (refine hR.store (i := 0) rfl rfl 9 _ _ rfl _ (.string _) rfl rfl rfl rfl is_ (by simp) ?_; clear hR; intro X hR; simp only [List.set] at hR; have c7 : X.cell? ⟨mb, 7, none⟩ = some (.slice p k c) := hR.rx.cell (i := 1) rfl rfl)
            | (refine hR.load (i := 0) rfl rfl 54 _ rfl rfl Try.underlying54 rfl (by exact i2) ?_)
            | (at_builtin; refine wpList_append_rowC rfl (.tmp 65) (.tmp 67) 50 50 54 rfl Try.underlying50 _ 2 24 infoEnts rfl (.slice p k c) k _ rfl (hR.laid _) (.slice (some ⟨X.heap.size, 0, none⟩) 1 1) 1 _ rfl (src_new2 Try.underlying50 _ _ rfl rfl) HL.out.1 HL.out.2 ?_; intro v' w2 a1 a2 a3; have h9 := hR.app a1 a2 a3; obtain ⟨p2, c2, rfl, -, -⟩ := a1.form; clear hR c7; have hR := h9; clear h9 a1 a2 a3)
            | (refine hR.store (i := 1) rfl rfl 50 _ _ rfl _ (.slice _ _ _) rfl rfl rfl rfl isl (by simp) ?_; clear hR; intro X hR; simp only [List.set] at hR))
          go_roundw
          case rel =>
            refine ⟨k + 1, p2, c2, by go_num, hlt, ?_⟩
            have h9 := hR.drop
            rw [← HZZ.out, HXK.out] at h9
            have e1 : entCs (entsV (k + 1) (msgX1 y)) = entCs (entsV k (msgX1 y)) ++ [.int .i64 (numV (entsX k (msgX1 y))), .string (textV (numX (entsX k (msgX1 y))))] := by rw [entsV, entCs_snoc]
            unfold Hid
            rw [e1]
            exact h9
          case measure => simp [intOf]; omega
        | none =>
          have hbb : bb = true := hX
          subst hbb
          clear hX d0
          have HK : Hid (entsX k (msgX1 y) = none) := HXK.out.symm
          have HF9 : Hid (fineB (textX none) = false) := fine_text rfl
          go_wp2_with (first
            | (go_at_call 43; refine (hR.text).mono ?_; rintro e X ⟨rfl, h9⟩; clear hR; have hR := h9; clear h9)
            | (refine hR.store (i := 0) rfl rfl 9 _ _ rfl _ (.string _) rfl rfl rfl rfl is_ (by simp) ?_; clear hR; intro X hR; simp only [List.set] at hR)
            | (refine hR.whole (i := 1) rfl rfl 52 _ _ rfl _ rfl rfl (by exact i11) rfl rfl ?_; clear hR; intro X hR; simp only [List.set] at hR)
            | (go_at_call 44; refine (hR.fineF HF9.out).mono ?_; rintro e Y ⟨rfl, h9⟩; subst h9))
          exact bodyPost_ret (results_msg _ Try.results27 _ _ _ _ _ rfl rfl (hR.rx.at (i := 1) rfl).1 rfl) rfl ⟨HQ.out _ _ rfl, hR.rx.rs.below⟩

      · obtain rfl : k = n := by omega
        clear hX d0 d1
        generalize hzz : xk = zz at hR
        have HZZ := hidden hzz
        clear hzz
        have HF9 : Hid (fineB (textX zz) = false) := by
          have h2 := HFB.out
          unfold msgX at h2
          rw [← HNN.out, ← HXK.out, HZZ.out] at h2
          exact h2
        go_wp2_with (first
            | (go_at_call 43; refine (hR.text).mono ?_; rintro e X ⟨rfl, h9⟩; clear hR; have hR := h9; clear h9)
            | (refine hR.store (i := 0) rfl rfl 9 _ _ rfl _ (.string _) rfl rfl rfl rfl is_ (by simp) ?_; clear hR; intro X hR; simp only [List.set] at hR)
            | (refine hR.whole (i := 1) rfl rfl 52 _ _ rfl _ rfl rfl (by exact i11) rfl rfl ?_; clear hR; intro X hR; simp only [List.set] at hR)
            | (go_at_call 44; refine (hR.fineF HF9.out).mono ?_; rintro e Y ⟨rfl, h9⟩; subst h9))
        exact bodyPost_ret (results_msg _ Try.results27 _ _ _ _ _ rfl rfl (hR.rx.at (i := 1) rfl).1 rfl) rfl ⟨HQ.out _ _ rfl, hR.rx.rs.below⟩


end Go.Proofs.Ytgkcchbignakcaa
