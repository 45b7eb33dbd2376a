/-
  The document's op, taken.
-/
import Derived.Test.YtgkcchbignakcaaCmRun
namespace Go.Proofs.Ytgkcchbignakcaa
open Go.RowKit

theorem results_op1 (fn : Func) (hfn : fn.results = #[.cell 2 25]) (tmps : Array Value) (w : World) (g : Nat) (cs : Array Value) (hp : tmps.getD 2 undef = .pointer (some ⟨g, 0, none⟩)) (hg : w.heap[g]? = some (.cells cs 25 (0, 0))) (hs : cs.size = 9) :
    (results fn tmps).run Try.prog w = .ok (.agg cs) w := by
  have hp' : tmps[2]?.getD undef = .pointer (some ⟨g, 0, none⟩) := by simpa using hp
  have hi : (Try.prog.info? 25).map (·.size) = some cs.size := by rw [hs]; kernel_rfl
  simp [results, hfn, hp', asAddr, run_loadVar_row w g 25 25 cs (0, 0) _ hg Try.underlying25 rfl hi]

set_option maxHeartbeats 2000000 in
set_option maxRecDepth 100000 in
theorem in_op {w0 w : World} {B : Nat} {x : Option (List UInt8)} (h : Rs w0 B x w) :
    Calls Try.prog 42 #[.pointer (some ⟨B, 0, none⟩)] w fun e w' => e = .returned (.agg (opV x).cells.toArray) ∧ RsO w0 B (opX x) w w' := by
  have ii : (Try.prog.info? 3).map (·.size) = some 1 := by kernel_rfl
  have is_ : (Try.prog.info? 9).map (·.size) = some 1 := by kernel_rfl
  have i9 : (Try.prog.info? 25).map (·.size) = some 9 := by kernel_rfl
  have hR : Rx w0 w B x [(w.heap.size + 1, 25, [.int .i64 0, .string ⟨#[]⟩, .string ⟨#[]⟩, .string ⟨#[]⟩, .string ⟨#[]⟩, .string ⟨#[]⟩, .string ⟨#[]⟩, .int .i64 0, .int .i64 0]), (w.heap.size, 25, [.int .i64 0, .string ⟨#[]⟩, .string ⟨#[]⟩, .string ⟨#[]⟩, .string ⟨#[]⟩, .string ⟨#[]⟩, .string ⟨#[]⟩, .int .i64 0, .int .i64 0])] ((w.alloc (.cells #[.int .i64 0, .string ⟨#[]⟩, .string ⟨#[]⟩, .string ⟨#[]⟩, .string ⟨#[]⟩, .string ⟨#[]⟩, .string ⟨#[]⟩, .int .i64 0, .int .i64 0] 25)).alloc (.cells #[.int .i64 0, .string ⟨#[]⟩, .string ⟨#[]⟩, .string ⟨#[]⟩, .string ⟨#[]⟩, .string ⟨#[]⟩, .string ⟨#[]⟩, .int .i64 0, .int .i64 0] 25)) := by
    have := ((Rx.empty h).more 25 [.int .i64 0, .string ⟨#[]⟩, .string ⟨#[]⟩, .string ⟨#[]⟩, .string ⟨#[]⟩, .string ⟨#[]⟩, .string ⟨#[]⟩, .int .i64 0, .int .i64 0]).more 25 [.int .i64 0, .string ⟨#[]⟩, .string ⟨#[]⟩, .string ⟨#[]⟩, .string ⟨#[]⟩, .string ⟨#[]⟩, .string ⟨#[]⟩, .int .i64 0, .int .i64 0]
    simpa using this
  clear h
  go_enter Try.func42, Try.ntmps42
  go_wp2_with (first
    | (go_at_call 40; refine (hR.num).mono ?_; rintro e X ⟨rfl, h9⟩; clear hR; have hR := h9; clear h9)
    | (go_at_call 43; refine (hR.text).mono ?_; rintro e X ⟨rfl, h9⟩; clear hR; have hR := h9; clear h9)
    | (refine hR.whole (i := 0) rfl rfl 25 _ _ rfl _ rfl rfl (by exact i9) rfl rfl ?_; clear hR; intro X hR; simp only [List.set] at hR)
    | (refine hR.whole (i := 1) rfl rfl 25 _ _ rfl _ rfl rfl (by exact i9) rfl rfl ?_; clear hR; intro X hR; simp only [List.set] at hR)
    | (refine hR.store (i := 0) rfl rfl 3 _ _ rfl _ (.int .i64 _) rfl rfl rfl rfl ii (by simp) ?_; clear hR; intro X hR; simp only [List.set] at hR)
    | (refine hR.store (i := 0) rfl rfl 9 _ _ rfl _ (.string _) rfl rfl rfl rfl is_ (by simp) ?_; clear hR; intro X hR; simp only [List.set] at hR)
    | (refine hR.load (i := 0) rfl rfl 25 _ rfl rfl Try.underlying25 rfl (by exact i9) ?_))
  exact bodyPost_ret (results_op1 _ Try.results42 _ _ _ _ rfl (hR.at (i := 1) rfl).1 rfl) rfl ⟨rfl, hR.rs, hR.kept⟩

theorem Rx.op {w0 U : World} {B : Nat} {x : Option (List UInt8)} {bs : List (Nat × TypeId × List Value)} {X : World} (h : Rx w0 U B x bs X) :
    Calls Try.prog 42 #[.pointer (some ⟨B, 0, none⟩)] X fun e Y => e = .returned (.agg (opV x).cells.toArray) ∧ Rx w0 U B (opX x) bs Y :=
  (in_op h.rs).mono fun _ _ ⟨a, c, k⟩ => ⟨a, h.call c k⟩

end Go.Proofs.Ytgkcchbignakcaa
