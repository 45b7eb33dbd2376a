/-
  What the document's Valid asks of signs of three bytes and of four.
-/
import Derived.Test.YtkioeahlajjmiaaRefMore
import Derived.Deep.QuietTactic
import Derived.BigQuiet
namespace Go.Proofs.Ytkioeahlajjmiaa
open Go.RowKit

set_option maxHeartbeats 1000000 in
set_option maxRecDepth 20000 in
theorem one_3 (s : ByteArray) (a : Nat) (w : World) (hs : s.size ≤ 140737488351232) (ha : a < s.size) (ha1 : a + 1 < s.size) (ha2 : a + 2 < s.size) (h1 : 224 ≤ s[a].toNat) (h2 : s[a].toNat < 240) (hm : M.moreL (s.data.toList.drop (a + 1)) 2 = true) :
    Calls Try.prog 82 #[.string s, .int .i64 (a : Int)] w fun e w' => e = .returned (.int .i64 ((if 2048 ≤ (s[a].toNat % 16 * 64 + s[a + 1].toNat % 64) * 64 + s[a + 2].toNat % 64 ∧ ((s[a].toNat % 16 * 64 + s[a + 1].toNat % 64) * 64 + s[a + 2].toNat % 64 < 55296 ∨ 57343 < (s[a].toNat % 16 * 64 + s[a + 1].toNat % 64) * 64 + s[a + 2].toNat % 64) then 3 else 0 : Nat) : Int)) ∧ Below w.heap.size w w' := by
  have HM : Hid (M.moreL (s.data.toList.drop (a + 1)) 2 = true) := hm
  have hb1 : s[a + 1].toNat < 256 := s[a + 1].toNat_lt
  have hb2 : s[a + 2].toNat < 256 := s[a + 2].toNat_lt
  have hi1 : (a : Int) + 1 < (s.size : Int) := by omega
  have hi2 : (a : Int) + 2 < (s.size : Int) := by omega
  have hx1 := run_at s ((a : Int) + 1) (a + 1) (by omega) ha1
  have hx2 := run_at s ((a : Int) + 2) (a + 2) (by omega) ha2
  clear hm
  generalize hr : (if 2048 ≤ (s[a].toNat % 16 * 64 + s[a + 1].toNat % 64) * 64 + s[a + 2].toNat % 64 ∧ ((s[a].toNat % 16 * 64 + s[a + 1].toNat % 64) * 64 + s[a + 2].toNat % 64 < 55296 ∨ 57343 < (s[a].toNat % 16 * 64 + s[a + 1].toNat % 64) * 64 + s[a + 2].toNat % 64) then 3 else 0 : Nat) = r
  have HR : Hid _ := hr
  clear hr
  go_enter Try.func82, Try.ntmps82
  go_wp2_with (go_at_call 92; refine (ref_more' s _ _ _ (a + 1) 2 (by omega) rfl hs (by omega) (by omega)).mono ?_; rw [HM.out]; rintro e w1 ⟨rfl, hw1⟩)
  go_quiet (fail)
  go_wp2
  all_goals go_ret
  all_goals exact ret_i (by rw [← HR.out]; first | (rw [if_pos (by omega)]; rfl) | (rw [if_neg (by omega)]; rfl)) (below_drewN (Below.refl _ _) _)

set_option maxHeartbeats 1000000 in
set_option maxRecDepth 20000 in
theorem one_4 (s : ByteArray) (a : Nat) (w : World) (hs : s.size ≤ 140737488351232) (ha : a < s.size) (ha1 : a + 1 < s.size) (ha2 : a + 2 < s.size) (ha3 : a + 3 < s.size) (h1 : 240 ≤ s[a].toNat) (h2 : s[a].toNat < 248) (hm : M.moreL (s.data.toList.drop (a + 1)) 3 = true) :
    Calls Try.prog 82 #[.string s, .int .i64 (a : Int)] w fun e w' => e = .returned (.int .i64 ((if 65536 ≤ ((s[a].toNat % 8 * 64 + s[a + 1].toNat % 64) * 64 + s[a + 2].toNat % 64) * 64 + s[a + 3].toNat % 64 ∧ ((s[a].toNat % 8 * 64 + s[a + 1].toNat % 64) * 64 + s[a + 2].toNat % 64) * 64 + s[a + 3].toNat % 64 ≤ 1114111 then 4 else 0 : Nat) : Int)) ∧ Below w.heap.size w w' := by
  have HM : Hid (M.moreL (s.data.toList.drop (a + 1)) 3 = true) := hm
  have hb1 : s[a + 1].toNat < 256 := s[a + 1].toNat_lt
  have hb2 : s[a + 2].toNat < 256 := s[a + 2].toNat_lt
  have hb3 : s[a + 3].toNat < 256 := s[a + 3].toNat_lt
  have hi1 : (a : Int) + 1 < (s.size : Int) := by omega
  have hi2 : (a : Int) + 2 < (s.size : Int) := by omega
  have hx1 := run_at s ((a : Int) + 1) (a + 1) (by omega) ha1
  have hx2 := run_at s ((a : Int) + 2) (a + 2) (by omega) ha2
  have hx3 := run_at s ((a : Int) + 3) (a + 3) (by omega) ha3
  clear hm
  generalize hr : (if 65536 ≤ ((s[a].toNat % 8 * 64 + s[a + 1].toNat % 64) * 64 + s[a + 2].toNat % 64) * 64 + s[a + 3].toNat % 64 ∧ ((s[a].toNat % 8 * 64 + s[a + 1].toNat % 64) * 64 + s[a + 2].toNat % 64) * 64 + s[a + 3].toNat % 64 ≤ 1114111 then 4 else 0 : Nat) = r
  have HR : Hid _ := hr
  clear hr
  go_enter Try.func82, Try.ntmps82
  go_wp2_with (go_at_call 92; refine (ref_more' s _ _ _ (a + 1) 3 (by omega) rfl hs (by omega) (by omega)).mono ?_; rw [HM.out]; rintro e w1 ⟨rfl, hw1⟩)
  go_quiet (fail)
  go_wp2
  all_goals go_ret
  all_goals exact ret_i (by rw [← HR.out]; first | (rw [if_pos (by omega)]; rfl) | (rw [if_neg (by omega)]; rfl)) (below_drewN (Below.refl _ _) _)

end Go.Proofs.Ytkioeahlajjmiaa
