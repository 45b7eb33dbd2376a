/-
  take: a mark, fields behind it, and nothing else.
-/
import Derived.Test.YtnfjfhjhofaodaaCmPut
import Derived.Test.YtnfjfhjhofaodaaCmListR
namespace Go.Proofs.Ytnfjfhjhofaodaa
open Go.RowKit

theorem Cm.toL_cons (s : ByteArray) (h : 0 < s.size) : s.data.toList = s[0] :: s.data.toList.drop 1 := by
  have h' : 0 < s.data.toList.length := by rw [Cm.toL_len]; exact h
  have := List.drop_eq_getElem_cons h'
  rw [List.drop_zero] at this
  exact this

theorem cutM_empty (m : UInt8) (w : World) : Calls Try.prog 46 #[.string ⟨#[]⟩, .string ⟨#[m]⟩] w fun e w' => e = .returned (.tuple #[.string ⟨#[]⟩, .bool false]) ∧ w' = w := by
  go_enter Try.func46, Try.ntmps46
  go_wp2
  go_ret2
  exact ⟨rfl, rfl⟩

theorem Cm.head_one (s : ByteArray) (h : 0 < s.size) : (s.extract 0 1).toList = [s[0]] := by
  rw [ByteArray.toList_eq, Cm.toL_take, Cm.toL_cons s h]
  rfl

theorem cutM_yes (m : UInt8) (s : ByteArray) (h : 0 < s.size) (h83 : s[0] = m) (w : World) : Calls Try.prog 46 #[.string s, .string ⟨#[m]⟩] w fun e w' => e = .returned (.tuple #[.string (s.extract 1 s.size), .bool true]) ∧ w' = w := by
  have h1 : 1 ≤ s.size := h
  have hq : ((s.extract 0 1).toList == [m]) = true := by rw [Cm.head_one s h, h83]; simp
  clear h83 h
  go_enter Try.func46, Try.ntmps46
  go_wp2
  go_ret2
  exact ⟨rfl, rfl⟩
theorem cutM_no (m : UInt8) (s : ByteArray) (h : 0 < s.size) (h83 : s[0] ≠ m) (w : World) : Calls Try.prog 46 #[.string s, .string ⟨#[m]⟩] w fun e w' => e = .returned (.tuple #[.string s, .bool false]) ∧ w' = w := by
  have h1 : 1 ≤ s.size := h
  have hq : ((s.extract 0 1).toList == [m]) = false := by rw [Cm.head_one s h]; simpa using h83
  clear h83 h
  go_enter Try.func46, Try.ntmps46
  go_wp2
  go_ret2
  exact ⟨rfl, rfl⟩

end Go.Proofs.Ytnfjfhjhofaodaa
