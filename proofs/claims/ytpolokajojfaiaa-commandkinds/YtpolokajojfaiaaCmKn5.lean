/-
  CommandKinds, one way of five.
-/
import Derived.Test.YtpolokajojfaiaaCmKn0
import Derived.Test.YtpolokajojfaiaaCmAwake
import Derived.ProofKit
import Derived.OpenShut
import Derived.ShutString
import Derived.SizedLaws
namespace Go.Proofs.Ytpolokajojfaiaa.commandKinds
open Go.ChangeShapes Go.WideShapes Go.ChangeAt Go.RowKit
open Go.ChangeMaps (open_string shut_string)

set_option maxHeartbeats 6000000 in
set_option maxRecDepth 100000 in
theorem main5 (s : ByteArray) (w : World)
    (H1 : Hid (∀ X, Below w.heap.size w X → Calls Try.prog 4 #[.string s] X fun e w' => One 20 140 e ∧ Below w.heap.size w w'))
    (H2 : Hid (∀ X, Below w.heap.size w X → Calls Try.prog 5 #[.string s] X fun e w' => One 11 140 e ∧ Below w.heap.size w w'))
    (H3 : Hid (∀ X, Below w.heap.size w X → Calls Try.prog 6 #[.string s] X fun e w' => Two 2 9 140 e ∧ Below w.heap.size w w'))
    (H4 : Hid (∀ X, Below w.heap.size w X → Calls Try.prog 7 #[.string s] X fun e w' => Two 2 3 0 e ∧ Below w.heap.size w w'))
    (HA : Hid (∀ X, Below w.heap.size w X → Calls Try.prog 8 #[] X fun e w' => e = .returned (.bool true) ∧ Below w.heap.size w w')) :
    Calls Try.prog 3 #[.string s] w fun e w' => e = .returned (.bool true) ∧ Below w.heap.size w w' := by
  have i28 : (Try.prog.info? 28).map (·.size) = some 20 := by kernel_rfl
  have i33 : (Try.prog.info? 33).map (·.size) = some 11 := by kernel_rfl
  have i23 : (Try.prog.info? 23).map (·.size) = some 2 := by kernel_rfl
  have i25 : (Try.prog.info? 25).map (·.size) = some 9 := by kernel_rfl
  have i40 : (Try.prog.info? 40).map (·.size) = some 3 := by kernel_rfl
  have hb0 : Below w.heap.size w w := Below.refl _ _
  go_enter Try.func3, Try.ntmps3
  go_wp2_with (first
      | (go_at_call 4; refine (H1.out _ (by assumption)).mono ?_; rintro e w1 ⟨⟨c1, s1, o1, rfl⟩, b1⟩; have d1 := bigBelow b1 (alloc_below w1 (.cells c1 28)))
      | (go_at_call 5; refine (H2.out _ (by assumption)).mono ?_; rintro e w2 ⟨⟨c2, s2, o2, rfl⟩, b2⟩; have d2 := bigBelow b2 (alloc_below w2 (.cells c2 33)))
      | (go_at_call 6; refine (H3.out _ (by assumption)).mono ?_; rintro e w3 ⟨⟨c3, f3, s3, o3, t3, p3, rfl⟩, b3⟩)
      | (go_at_call 7; refine (H4.out _ (by assumption)).mono ?_; rintro e w4 ⟨⟨c4, f4, s4, o4, t4, p4, rfl⟩, b4⟩)
      | (go_at_call 8; refine (HA.out _ (by assumption)).mono ?_; rintro e w5 ⟨rfl, b5⟩)
      | (refine wpList_store_row rfl 28 (.tmp 4) (.tmp 17) rfl w1.heap.size c1 rfl rfl 28 _ (heap_alloc_new w1 _) (by rw [s1]; exact i28) (by rw [s1]; rfl) o1 ?_; rw [setRow_new])
      | (refine wpList_store_row rfl 33 (.tmp 6) (.tmp 26) rfl w2.heap.size c2 rfl rfl 33 _ (heap_alloc_new w2 _) (by rw [s2]; exact i33) (by rw [s2]; rfl) o2 ?_; rw [setRow_new])
      | (refine wpList_store_row rfl 23 (.tmp 8) (.tmp 35) rfl w3.heap.size c3 rfl rfl 23 _ (two_new w3 _ _ c3 23 25).1 (by rw [s3]; exact i23) (by rw [s3]; rfl) o3 ?_)
      | (refine wpList_store_row rfl 25 (.tmp 9) (.tmp 36) rfl (w3.heap.size + 1) f3 rfl rfl 25 _ (two_new w3 #[.int .i64 0, .int .i64 0] _ c3 23 25).2.1 (by rw [t3]; exact i25) (by rw [t3]; rfl) p3 ?_; have d3 := bigBelow b3 ((two_new w3 #[.int .i64 0, .int .i64 0] #[.int .i64 0, .string ⟨#[]⟩, .string ⟨#[]⟩, .string ⟨#[]⟩, .string ⟨#[]⟩, .string ⟨#[]⟩, .string ⟨#[]⟩, .int .i64 0, .int .i64 0] c3 23 25).2.2 f3); refine (fun h : ∀ X3, Below w.heap.size w X3 → wpList _ _ _ _ _ X3 => h _ d3) ?_; clear d3; intro X3 d3)
      | (refine wpList_store_row rfl 23 (.tmp 11) (.tmp 45) rfl w4.heap.size c4 rfl rfl 23 _ (two_new w4 _ _ c4 23 40).1 (by rw [s4]; exact i23) (by rw [s4]; rfl) o4 ?_)
      | (refine wpList_store_row rfl 40 (.tmp 12) (.tmp 46) rfl (w4.heap.size + 1) f4 rfl rfl 40 _ (two_new w4 #[.int .i64 0, .int .i64 0] _ c4 23 40).2.1 (by rw [t4]; exact i40) (by rw [t4]; rfl) p4 ?_; have d4 := bigBelow b4 ((two_new w4 #[.int .i64 0, .int .i64 0] #[.int .i64 0, .int .i64 0, .slice none 0 0] c4 23 40).2.2 f4); refine (fun h : ∀ X3, Below w.heap.size w X3 → wpList _ _ _ _ _ X3 => h _ d4) ?_; clear d4; intro X4 d4))
  go_ret
  exact ⟨rfl, by assumption⟩

end Go.Proofs.Ytpolokajojfaiaa.commandKinds
