/-
  What the small functions of a disk answer: whether it was made, whether it has a file, how many bytes are loose; Used and Size.
-/
import Derived.Test.YtpfnkjfbhcffiaaRows
import Derived.Test.YtpfnkjfbhcffiaaDkOwn
import Derived.BigRegion
import Derived.Deep.Cut
namespace Go.Proofs.Ytpfnkjfbhcffiaa
open Go.RowKit

theorem made_nil (w : World) : Calls Try.prog 41 #[.pointer none] w fun e w' => e = .returned (.bool false) ∧ w' = w := by
  go_enter Try.func41, Try.ntmps41
  go_wp2
  go_ret
  exact ⟨rfl, rfl⟩

theorem made_cell (w : World) (b : Nat) (r : Int) (h : w.cell? ⟨b, 0, none⟩ = some (.int .i64 r)) : Calls Try.prog 41 #[.pointer (some ⟨b, 0, none⟩)] w fun e w' => e = .returned (.bool (decide (0 < r))) ∧ w' = w := by
  go_enter Try.func41, Try.ntmps41
  go_wp2
  go_ret
  exact ⟨rfl, rfl⟩

/-- A disk that nobody made. -/
def NotMade (w : World) (d : Value) : Prop := d = .pointer none ∨ ∃ b, d = .pointer (some ⟨b, 0, none⟩) ∧ w.cell? ⟨b, 0, none⟩ = some (.int .i64 0)

theorem made_no (w : World) (d : Value) (h : NotMade w d) : Calls Try.prog 41 #[d] w fun e w' => e = .returned (.bool false) ∧ w' = w := by
  rcases h with rfl | ⟨b, rfl, hb⟩
  · exact made_nil w
  · exact made_cell w b 0 hb

theorem made_yes {w : World} {b room : Nat} {A : Nat → List UInt8} {S : Nat → Nat} {own : Nat → Prop} (h : Dk w b room A S own) : Calls Try.prog 41 #[.pointer (some ⟨b, 0, none⟩)] w fun e w' => e = .returned (.bool true) ∧ w' = w := by
  obtain ⟨V, h⟩ := h
  have hr := h.big
  refine (made_cell w b room h.roomC).mono ?_
  rintro e w' ⟨rfl, rfl⟩
  exact ⟨ret_bool (by simp; omega), rfl⟩

/-- Whether there is a file of that number. -/
def isFile (k : Int) : Bool := decide (0 ≤ k ∧ k < 256)

theorem has_no (w : World) (d : Value) (k : Int) (h : NotMade w d) : Calls Try.prog 46 #[d, .int .i64 k] w fun e w' => e = .returned (.bool false) ∧ w' = w := by
  have hm := made_no w d h
  clear h
  go_enter Try.func46, Try.ntmps46
  go_wp2_with fail
  refine hm.mono ?_
  rintro e w' ⟨rfl, rfl⟩
  go_wp2
  go_ret
  exact ⟨rfl, rfl⟩

theorem has_yes {w : World} {b room : Nat} {A : Nat → List UInt8} {S : Nat → Nat} {own : Nat → Prop} (h : Dk w b room A S own) (k : Int) : Calls Try.prog 46 #[.pointer (some ⟨b, 0, none⟩), .int .i64 k] w fun e w' => e = .returned (.bool (isFile k)) ∧ w' = w := by
  have hm := made_yes h
  clear h
  go_enter Try.func46, Try.ntmps46
  go_wp2_with fail
  refine hm.mono ?_
  rintro e w' ⟨rfl, rfl⟩
  go_wp2
  all_goals
    go_ret
    exact ⟨ret_bool (by unfold isFile; simp; try omega), rfl⟩

theorem Used_no (w : World) (d : Value) (h : NotMade w d) : Calls Try.prog 37 #[d] w fun e w' => e = .returned (.int .i64 0) ∧ w' = w := by
  have hm := made_no w d h
  clear h
  go_enter Try.func37, Try.ntmps37
  go_wp2_with fail
  refine hm.mono ?_
  rintro e w' ⟨rfl, rfl⟩
  go_wp2
  go_ret
  exact ⟨rfl, rfl⟩

theorem Used_yes {w : World} {b room : Nat} {A : Nat → List UInt8} {S : Nat → Nat} {own : Nat → Prop} (h : Dk w b room A S own) : Calls Try.prog 37 #[.pointer (some ⟨b, 0, none⟩)] w fun e w' => e = .returned (.int .i64 (tot A : Int)) ∧ w' = w := by
  have hm := made_yes h
  obtain ⟨V, h⟩ := h
  have hu := h.used
  clear h
  go_enter Try.func37, Try.ntmps37
  go_wp2_with fail
  refine hm.mono ?_
  rintro e w' ⟨rfl, rfl⟩
  go_wp2
  go_ret
  exact ⟨rfl, rfl⟩

theorem loose_any (w : World) (b o n c : Nat) (ao : Option Addr) (s : Nat) (h0 : w.cell? ⟨b, o, none⟩ = some (.slice ao n c)) (h1 : w.cell? ⟨b, o + 1, none⟩ = some (.int .i64 (s : Int))) (hs : s ≤ n) (hn : n ≤ 16777216) :
    Calls Try.prog 42 #[.pointer (some ⟨b, o, none⟩)] w fun e w' => e = .returned (.int .i64 ((n - s : Nat) : Int)) ∧ w' = w.drew := by
  go_enter Try.func42, Try.ntmps42
  go_wp2
  go_region
  go_wp2
  go_ret
  exact ⟨ret_int (by omega), rfl⟩

theorem Size_no (w : World) (d : Value) (k : Int) (h : NotMade w d) : Calls Try.prog 59 #[d, .int .i64 k] w fun e w' => e = .returned (.tuple #[.int .i64 0, .int .i64 0]) ∧ w' = w := by
  have hm := has_no w d k h
  clear h
  go_enter Try.func59, Try.ntmps59
  go_wp2_with fail
  refine hm.mono ?_
  rintro e w' ⟨rfl, rfl⟩
  go_wp2
  go_ret2
  exact ⟨rfl, rfl⟩

theorem Size_out {w : World} {b room : Nat} {A : Nat → List UInt8} {S : Nat → Nat} {own : Nat → Prop} (h : Dk w b room A S own) (k : Int) (hk : isFile k = false) : Calls Try.prog 59 #[.pointer (some ⟨b, 0, none⟩), .int .i64 k] w fun e w' => e = .returned (.tuple #[.int .i64 0, .int .i64 0]) ∧ w' = w := by
  have hm := has_yes h k
  rw [hk] at hm
  clear h hk
  go_enter Try.func59, Try.ntmps59
  go_wp2_with fail
  refine hm.mono ?_
  rintro e w' ⟨rfl, rfl⟩
  go_wp2
  go_ret2
  exact ⟨rfl, rfl⟩

theorem isFile_nat {i : Nat} (h : i < 256) : isFile (i : Int) = true := by unfold isFile; simp; omega

theorem OwnB.form {w : World} {base : Nat} {u8 : TypeId} {v : Value} {l : List UInt8} (h : OwnB w base u8 v l) : ∃ ao cap, v = .slice ao l.length cap := by
  obtain ⟨h1, ⟨h2, h3⟩ | ⟨g, cap, cur, hv, r⟩⟩ := h
  · exact ⟨none, 0, by rw [h2, h3]⟩
  · exact ⟨_, cap, hv⟩

theorem DkV.len {w : World} {b room : Nat} {A : Nat → List UInt8} {S : Nat → Nat} {own : Nat → Prop} {V : Nat → Value} (h : DkV w b room A S own V) {i : Nat} (hi : i < 256) : (A i).length ≤ room ∧ room ≤ 16777216 := by
  have := le_tot A hi
  have := h.fits
  have := h.big
  omega

theorem Size_yes {w : World} {b room : Nat} {A : Nat → List UInt8} {S : Nat → Nat} {own : Nat → Prop} (h : Dk w b room A S own) (i : Nat) (hi : i < 256) : Calls Try.prog 59 #[.pointer (some ⟨b, 0, none⟩), .int .i64 (i : Int)] w fun e w' => e = .returned (.tuple #[.int .i64 ((A i).length : Int), .int .i64 (S i : Int)]) ∧ w' = w.drew := by
  have hm := has_yes h i
  rw [isFile_nat hi] at hm
  obtain ⟨V, h⟩ := h
  have h0 := h.bytes i hi
  have h1 := h.sure i hi
  obtain ⟨ao, cap, hv⟩ := (h.row i hi).form
  rw [hv] at h0
  clear h hv
  go_enter Try.func59, Try.ntmps59
  go_wp2_with fail
  refine hm.mono ?_
  rintro e w' ⟨rfl, rfl⟩
  go_wp2
  go_region
  go_wp2
  go_ret2
  exact ⟨rfl, rfl⟩

end Go.Proofs.Ytpfnkjfbhcffiaa
