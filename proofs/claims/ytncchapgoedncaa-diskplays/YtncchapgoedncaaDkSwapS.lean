/-
  A file that changes its place with itself.
-/
import Derived.Test.YtncchapgoedncaaDkSwap
namespace Go.Proofs.Ytncchapgoedncaa
open Go.RowKit

set_option maxHeartbeats 400000 in
set_option maxRecDepth 20000 in
theorem Swap_self {w : World} {b room : Nat} {A : Nat → List UInt8} {S : Nat → Nat} {own : Nat → Prop} (h : Dk w b room A S own) (i : Nat) (hi : i < 256) (hl : S i = (A i).length) :
    Calls Try.prog 11 #[.pointer (some ⟨b, 0, none⟩), .int .i64 (i : Int), .int .i64 (i : Int)] w fun e w' => e = .returned (.int .i64 0) ∧ Dk w' b room A S own ∧ Kept b own w w' := by
  have hm := has_yes h i
  rw [isFile_nat hi] at hm
  obtain ⟨V, h⟩ := h
  obtain ⟨ai, ci, hvi⟩ := (h.row i hi).form
  have bi := h.bytes i hi
  have si := h.sure i hi
  rw [hvi] at bi
  have li := h.len hi
  have H1 : ∀ W : World, (∀ o, W.cell? ⟨b, o, none⟩ = w.cell? ⟨b, o, none⟩) → Calls Try.prog 26 #[.pointer (some ⟨b, 2 + i * 2, none⟩)] W fun e w' => e = .returned (.int .i64 0) ∧ w' = W.drew := by
    intro W hW
    have := loose_any W b (2 + i * 2) _ ci ai (S i) (by rw [hW]; exact bi) (by rw [hW]; exact si) (h.leSure i hi) (by omega)
    rw [hl, Nat.sub_self] at this
    exact this
  have f1 := h.froz (2 + i * 2) (by omega)
  have f3 := h.froz (2 + i * 2 + 1) (by omega)
  have HM : Hid _ := hm
  have K1 : Hid _ := H1
  have HD : Hid (DkV w b room A S own V) := h
  obtain ⟨ni, hni⟩ : ∃ n, n = (A i).length := ⟨_, rfl⟩
  obtain ⟨ui, hui⟩ : ∃ n, n = S i := ⟨_, rfl⟩
  rw [← hni] at bi
  rw [← hui] at si
  have Vi : Hid (V i = .slice ai ni ci ∧ ui = S i) := ⟨by rw [hni]; exact hvi, hui⟩
  clear h hvi li hl hm H1 hni hui
  go_enter Try.func11, Try.ntmps11
  go_wp2_with fail
  refine Calls.mono HM.out ?_
  rintro e w' ⟨rfl, rfl⟩
  go_wp2_with fail
  refine Calls.mono HM.out ?_
  rintro e w1 ⟨rfl, rfl⟩
  go_wp2_with fail
  refine (K1.out _ (fun _ => rfl)).mono ?_
  rintro e w2 ⟨rfl, rfl⟩
  go_wp2_with fail
  refine (K1.out _ (fun _ => by simp)).mono ?_
  rintro e w2 ⟨rfl, rfl⟩
  go_wp2
  go_region
  go_wp2
  go_ret
  obtain ⟨e1, e3⟩ := Vi.out
  rw [← e1, e3]
  have hd := HD.out.swapped hi hi
  rw [swp_self, swp_self] at hd
  refine ⟨rfl, (Dk.drew (Dk.drew (Dk.drew ⟨_, hd⟩))), ?_⟩
  exact ((Kept.refl b own _).grown (swap_grown _ _ _ _ _ _ _ _) (fun k hk => .inl (by injection hk with e; exact e.symm))).drew.drew.drew

end Go.Proofs.Ytncchapgoedncaa
