/-
  The document's From.
-/
import Derived.Test.YtgkcchbignakcaaCmInOp
import Derived.Test.YtgkcchbignakcaaCmFrom
namespace Go.Proofs.Ytgkcchbignakcaa
open Go.RowKit

theorem Rx.mark67 {w0 U : World} {B : Nat} {x : Option (List UInt8)} {bs : List (Nat × TypeId × List Value)} {X : World} (h : Rx w0 U B x bs X) :
    Calls Try.prog 39 #[.pointer (some ⟨B, 0, none⟩), .int .u8 67] X fun e Y => e = .returned (.tuple #[]) ∧ Rx w0 U B (markX 67 x) bs Y := h.mark 67

set_option maxHeartbeats 4000000 in
set_option maxRecDepth 100000 in
theorem rFrom_c (s : ByteArray) (hs : s.size ≤ 140737488351232) (w : World) : Calls Try.prog 26 #[.string s] w fun e w' => FromO s e ∧ Below w.heap.size w w' := by
  have ii : (Try.prog.info? 3).map (·.size) = some 1 := by kernel_rfl
  have is_ : (Try.prog.info? 9).map (·.size) = some 1 := by kernel_rfl
  have ib_ : (Try.prog.info? 4).map (·.size) = some 1 := by kernel_rfl
  have ie : (Try.prog.info? 26).map (·.size) = some 1 := by kernel_rfl
  have i9 : (Try.prog.info? 25).map (·.size) = some 9 := by kernel_rfl
  have i20 : (Try.prog.info? 28).map (·.size) = some 20 := by kernel_rfl
  have hR : Rx w w (w.heap.size + 1) (some s.data.toList) [(w.heap.size, 28, [.int .i64 0, .int .i64 0, .int .i64 0, .int .i64 0, .string ⟨#[]⟩, .string ⟨#[]⟩, .string ⟨#[]⟩, .string ⟨#[]⟩, .string ⟨#[]⟩, .string ⟨#[]⟩, .int .i64 0, .int .i64 0, .int .i64 0, .int .i64 0, .int .i64 0, .int .i64 0, .int .i64 0, .bool false, .int .i64 0, .string ⟨#[]⟩])] ((w.alloc (.cells #[.int .i64 0, .int .i64 0, .int .i64 0, .int .i64 0, .string ⟨#[]⟩, .string ⟨#[]⟩, .string ⟨#[]⟩, .string ⟨#[]⟩, .string ⟨#[]⟩, .string ⟨#[]⟩, .int .i64 0, .int .i64 0, .int .i64 0, .int .i64 0, .int .i64 0, .int .i64 0, .int .i64 0, .bool false, .int .i64 0, .string ⟨#[]⟩] 28)).alloc (.cells #[.string s, .bool false] 79)) := by
    have := Rx.first (alloc_below w (.cells #[.int .i64 0, .int .i64 0, .int .i64 0, .int .i64 0, .string ⟨#[]⟩, .string ⟨#[]⟩, .string ⟨#[]⟩, .string ⟨#[]⟩, .string ⟨#[]⟩, .string ⟨#[]⟩, .int .i64 0, .int .i64 0, .int .i64 0, .int .i64 0, .int .i64 0, .int .i64 0, .int .i64 0, .bool false, .int .i64 0, .string ⟨#[]⟩] 28)) s hs [(w.heap.size, 28, [.int .i64 0, .int .i64 0, .int .i64 0, .int .i64 0, .string ⟨#[]⟩, .string ⟨#[]⟩, .string ⟨#[]⟩, .string ⟨#[]⟩, .string ⟨#[]⟩, .string ⟨#[]⟩, .int .i64 0, .int .i64 0, .int .i64 0, .int .i64 0, .int .i64 0, .int .i64 0, .int .i64 0, .bool false, .int .i64 0, .string ⟨#[]⟩])] (fun p hp => by
      obtain rfl : p = _ := by simpa using hp
      exact ⟨heap_alloc_new _ _, Nat.le_refl _⟩) (by simp)
    simpa using this
  obtain ⟨y, hy⟩ : ∃ y, y = markX 67 (some s.data.toList) := ⟨_, rfl⟩
  have hT := cmd_takeX s.data.toList
  rw [← hy] at hT
  cases hf : fineB (cmdX y) with
  | true =>
    have HQ : Hid (∀ e, e = .returned (.tuple #[.agg (cmdV y).cells.toArray, .int .i64 0]) → FromO s e) := fun e he => by
      unfold FromO
      rw [hT, hf, if_pos rfl]
      exact ⟨cmdV y, rfl, he⟩
    rw [hy] at hf HQ
    have HFB := hidden hf
    clear hf hT hy hs
    go_enter Try.func26, Try.ntmps26
    go_wp2_with (first
      | (go_at_call 39; refine hR.mark67.mono ?_; rintro e X ⟨rfl, h9⟩; clear hR; have hR := h9; clear h9)
      | (go_at_call 40; refine (hR.num).mono ?_; rintro e X ⟨rfl, h9⟩; clear hR; have hR := h9; clear h9)
      | (go_at_call 41; refine (hR.most 1).mono ?_; rintro e X ⟨rfl, h9⟩; clear hR; have hR := h9; clear h9)
      | (go_at_call 43; refine (hR.text).mono ?_; rintro e X ⟨rfl, h9⟩; clear hR; have hR := h9; clear h9)
      | (go_at_call 42; refine (hR.op).mono ?_; rintro e X ⟨rfl, h9⟩; clear hR; have hR := h9; clear h9)
      | (refine (hR.more 28 [.int .i64 0, .int .i64 0, .int .i64 0, .int .i64 0, .string ⟨#[]⟩, .string ⟨#[]⟩, .string ⟨#[]⟩, .string ⟨#[]⟩, .string ⟨#[]⟩, .string ⟨#[]⟩, .int .i64 0, .int .i64 0, .int .i64 0, .int .i64 0, .int .i64 0, .int .i64 0, .int .i64 0, .bool false, .int .i64 0, .string ⟨#[]⟩]).whole (i := 0) rfl rfl 28 _ _ rfl _ rfl rfl (by exact i20) rfl rfl ?_; clear hR; generalize X.heap.size = cb; intro X hR; simp only [List.set] at hR)
      | (refine hR.store (i := 0) rfl rfl 3 _ _ rfl _ (.int .i64 _) rfl rfl rfl rfl ii (by simp) ?_; clear hR; intro X hR; simp only [List.set] at hR)
      | (refine hR.store (i := 0) rfl rfl 9 _ _ rfl _ (.string _) rfl rfl rfl rfl is_ (by simp) ?_; clear hR; intro X hR; simp only [List.set] at hR)
      | (refine hR.store (i := 0) rfl rfl 4 _ _ rfl _ (.bool _) rfl rfl rfl rfl ib_ (by simp) ?_; clear hR; intro X hR; simp only [List.set] at hR)
      | (refine hR.store (i := 0) rfl rfl 26 _ _ rfl _ (.int .i64 _) rfl rfl rfl rfl ie (by simp) ?_; clear hR; intro X hR; simp only [List.set] at hR)
      | (refine hR.stores (i := 0) rfl rfl 25 _ _ rfl _ (opV _).cells rfl rfl rfl (by exact i9) (by simp [OpD.cells]) ?_; clear hR; intro X hR; simp only [List.set, setL, OpD.cells] at hR)
      | (refine hR.whole (i := 1) rfl rfl 28 _ _ rfl _ rfl rfl (by exact i20) rfl rfl ?_; clear hR; intro X hR; simp only [List.set] at hR)
      | (refine hR.load (i := 0) rfl rfl 28 _ rfl rfl Try.underlying28 rfl (by exact i20) ?_)
      | (go_at_call 44; refine (hR.fineF HFB.out).mono ?_; rintro e Y ⟨rfl, h9⟩; subst h9))
    exact bodyPost_ret (results_cmd _ Try.results26 _ _ _ _ _ rfl rfl (hR.at (i := 1) rfl).1 rfl) rfl ⟨HQ.out _ rfl, hR.rs.below⟩
  | false =>
    have HQ : Hid (∀ e, e = .returned (.tuple #[.agg zCmd.cells.toArray, .int .i64 140]) → FromO s e) := fun e he => by
      unfold FromO
      rw [hT, hf]
      exact he
    rw [hy] at hf
    have HFB := hidden hf
    clear hf hT hy hs
    go_enter Try.func26, Try.ntmps26
    go_wp2_with (first
      | (go_at_call 39; refine hR.mark67.mono ?_; rintro e X ⟨rfl, h9⟩; clear hR; have hR := h9; clear h9)
      | (go_at_call 40; refine (hR.num).mono ?_; rintro e X ⟨rfl, h9⟩; clear hR; have hR := h9; clear h9)
      | (go_at_call 41; refine (hR.most 1).mono ?_; rintro e X ⟨rfl, h9⟩; clear hR; have hR := h9; clear h9)
      | (go_at_call 43; refine (hR.text).mono ?_; rintro e X ⟨rfl, h9⟩; clear hR; have hR := h9; clear h9)
      | (go_at_call 42; refine (hR.op).mono ?_; rintro e X ⟨rfl, h9⟩; clear hR; have hR := h9; clear h9)
      | (refine (hR.more 28 [.int .i64 0, .int .i64 0, .int .i64 0, .int .i64 0, .string ⟨#[]⟩, .string ⟨#[]⟩, .string ⟨#[]⟩, .string ⟨#[]⟩, .string ⟨#[]⟩, .string ⟨#[]⟩, .int .i64 0, .int .i64 0, .int .i64 0, .int .i64 0, .int .i64 0, .int .i64 0, .int .i64 0, .bool false, .int .i64 0, .string ⟨#[]⟩]).whole (i := 0) rfl rfl 28 _ _ rfl _ rfl rfl (by exact i20) rfl rfl ?_; clear hR; generalize X.heap.size = cb; intro X hR; simp only [List.set] at hR)
      | (refine hR.store (i := 0) rfl rfl 3 _ _ rfl _ (.int .i64 _) rfl rfl rfl rfl ii (by simp) ?_; clear hR; intro X hR; simp only [List.set] at hR)
      | (refine hR.store (i := 0) rfl rfl 9 _ _ rfl _ (.string _) rfl rfl rfl rfl is_ (by simp) ?_; clear hR; intro X hR; simp only [List.set] at hR)
      | (refine hR.store (i := 0) rfl rfl 4 _ _ rfl _ (.bool _) rfl rfl rfl rfl ib_ (by simp) ?_; clear hR; intro X hR; simp only [List.set] at hR)
      | (refine hR.store (i := 0) rfl rfl 26 _ _ rfl _ (.int .i64 _) rfl rfl rfl rfl ie (by simp) ?_; clear hR; intro X hR; simp only [List.set] at hR)
      | (refine hR.stores (i := 0) rfl rfl 25 _ _ rfl _ (opV _).cells rfl rfl rfl (by exact i9) (by simp [OpD.cells]) ?_; clear hR; intro X hR; simp only [List.set, setL, OpD.cells] at hR)
      | (refine hR.whole (i := 1) rfl rfl 28 _ _ rfl _ rfl rfl (by exact i20) rfl rfl ?_; clear hR; intro X hR; simp only [List.set] at hR)
      | (refine hR.load (i := 0) rfl rfl 28 _ rfl rfl Try.underlying28 rfl (by exact i20) ?_)
      | (go_at_call 44; refine (hR.fineF HFB.out).mono ?_; rintro e Y ⟨rfl, h9⟩; subst h9))
    exact bodyPost_ret (results_cmd _ Try.results26 _ _ _ _ _ rfl rfl (hR.at (i := 1) rfl).1 rfl) rfl ⟨HQ.out _ rfl, hR.rs.below⟩

end Go.Proofs.Ytgkcchbignakcaa
