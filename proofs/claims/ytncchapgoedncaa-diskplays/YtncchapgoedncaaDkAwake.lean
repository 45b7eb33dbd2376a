/-
  A disk of the call's own: all that lies behind its block is its own; and what must come, whatever the arguments are, comes (layer 3).
-/
import Derived.Test.YtncchapgoedncaaDkNew
import Derived.Test.YtncchapgoedncaaDkAdd
import Derived.Test.YtncchapgoedncaaDkBytes
import Derived.Test.YtncchapgoedncaaDkSwap
import Derived.Test.YtncchapgoedncaaDkCrash
namespace Go.Proofs.Ytncchapgoedncaa
open Go.RowKit

/-- A disk that owns no more than what lies behind its block. -/
def Dq (w : World) (b room : Nat) (A : Nat → List UInt8) (S : Nat → Nat) : Prop := Dk w b room A S (fun k => b < k)

theorem Dk.tight {w : World} {b room : Nat} {A : Nat → List UInt8} {S : Nat → Nat} {own : Nat → Prop} (h : Dk w b room A S own) : Dk w b room A S (fun k => b < k ∧ k < w.heap.size) := by
  obtain ⟨V, h⟩ := h
  exact ⟨V, ⟨h.lt, h.roomC, h.used, h.froz, h.bytes, h.sure, h.row, h.apart, fun i hi k hk => by have := (h.row i hi).block hk; omega, h.leSure, h.fits, h.big⟩⟩
theorem Dk.q {w : World} {b room : Nat} {A : Nat → List UInt8} {S : Nat → Nat} {own : Nat → Prop} (h : Dk w b room A S own) : Dq w b room A S := h.tight.wider (fun _ _ e => e.1)
theorem Kept.q {b : Nat} {w w' : World} (h : Kept b (fun k => b < k) w w') (hb : b < w.heap.size) : Below b w w' := h.below (Nat.le_refl _) (fun _ e => Nat.le_of_lt e) (Nat.le_of_lt hb)

theorem New_q (room : Nat) (w : World) (h : 1 ≤ room ∧ room ≤ 16777216) : Calls Try.prog 4 #[.int .i64 (room : Int)] w fun e w' => e = .returned (.tuple #[.pointer (some ⟨w.heap.size, 0, none⟩), .int .i64 0]) ∧ Dq w' w.heap.size room (fun _ => []) (fun _ => 0) ∧ Below w.heap.size w w' := by
  refine (New_yes room w h).mono ?_
  rintro e w' ⟨rfl, rfl⟩
  exact ⟨rfl, (dk_new w room h).q, (Below.refl _ _).alloc (Nat.le_refl _) _⟩

theorem Add_q {w : World} {b room : Nat} {A : Nat → List UInt8} {S : Nat → Nat} (h : Dq w b room A S) (i : Nat) (hi : i < 256) (s : ByteArray) (hfit : tot A + s.size ≤ room) :
    Calls Try.prog 9 #[.pointer (some ⟨b, 0, none⟩), .int .i64 (i : Int), .string s] w fun e w' => e = .returned (.int .i64 0) ∧ Dq w' b room (upd A i (A i ++ s.data.toList)) S ∧ Below b w w' := by
  refine (Add_yes h i hi s hfit).mono ?_
  rintro e w' ⟨rfl, h1, h2⟩
  exact ⟨rfl, h1.q, h2.q h.lt⟩

theorem Sync_q {w : World} {b room : Nat} {A : Nat → List UInt8} {S : Nat → Nat} (h : Dq w b room A S) :
    Calls Try.prog 10 #[.pointer (some ⟨b, 0, none⟩)] w fun e w' => e = .returned (.int .i64 0) ∧ Dq w' b room A (fun i => if i < 256 then (A i).length else S i) ∧ Below b w w' := by
  refine (Sync_yes h).mono ?_
  rintro e w' ⟨rfl, h1, h2⟩
  exact ⟨rfl, h1, h2.q h.lt⟩

theorem crStep_same (t : UInt8) (i : Nat) (c : Cr) (h : (c.A i).length = c.S i) : crStep t i c = c := if_pos h
theorem crTo_rest (t : UInt8) (c c' : Cr) (m : Nat) (hc : crTo t c m = c') (h : ∀ i, m ≤ i → i < 256 → (c'.A i).length = c'.S i) : ∀ n, m ≤ n → n ≤ 256 → crTo t c n = c' := by
  intro n
  induction n with
  | zero => intro h1 _; rw [← hc, show m = 0 by omega]
  | succ n ih =>
    intro h1 h2
    by_cases e : m = n + 1
    · rw [← e]; exact hc
    · rw [crTo, ih (by omega) (by omega)]
      exact crStep_same t n c' (h n (by omega) (by omega))

/-- The disk of 'awake', step by step. -/
def awA1 : Nat → List UInt8 := upd (fun _ => []) 0 [97, 98]
def awS1 : Nat → Nat := fun i => if i < 256 then (awA1 i).length else 0
def awA2 : Nat → List UInt8 := upd awA1 0 [97, 98, 99, 100, 101]
theorem awA1_eq : upd (fun _ => []) 0 ((fun _ : Nat => ([] : List UInt8)) 0 ++ (⟨#[97, 98]⟩ : ByteArray).data.toList) = awA1 := rfl
theorem awA2_eq : upd awA1 0 (awA1 0 ++ (⟨#[99, 100, 101]⟩ : ByteArray).data.toList) = awA2 := rfl
theorem tot_one {A : Nat → List UInt8} (h : ∀ i, 1 ≤ i → i < 256 → A i = []) : tot A = (A 0).length := by
  have : ∀ n, n ≤ 255 → totTo A (n + 1) = (A 0).length := by
    intro n
    induction n with
    | zero => intro _; simp [totTo]
    | succ n ih => intro hn; rw [totTo, ih (by omega), h (n + 1) (by omega) (by omega)]; rfl
  exact this 255 (by omega)
theorem awA1_rest : ∀ i, 1 ≤ i → i < 256 → awA1 i = [] := fun i h _ => upd_other _ _ (by omega)
theorem awA2_rest : ∀ i, 1 ≤ i → i < 256 → awA2 i = [] := fun i h _ => by unfold awA2; rw [upd_other _ _ (by omega)]; exact awA1_rest i h (by omega)
def awC : Cr := crTo 1 ⟨awA2, awS1, [2]⟩ 1
theorem awC_A : awC.A 0 = [97, 98, 99, 101] := by kernel_rfl
theorem awC_S : awC.S 0 = 4 := by kernel_rfl
theorem crStep_other (t : UInt8) {i j : Nat} (c : Cr) (h : i ≠ j) : (crStep t j c).A i = c.A i ∧ (crStep t j c).S i = c.S i := by
  unfold crStep
  split
  · exact ⟨rfl, rfl⟩
  · exact ⟨upd_other _ _ h, upd_other _ _ h⟩
theorem awC_rest (i : Nat) (h : 1 ≤ i) (h2 : i < 256) : awC.A i = [] ∧ awC.S i = 0 := by
  obtain ⟨h3, h4⟩ := crStep_other 1 (i := i) (j := 0) ⟨awA2, awS1, [2]⟩ (by omega)
  refine ⟨h3.trans (awA2_rest i h h2), h4.trans ?_⟩
  show awS1 i = 0
  unfold awS1
  rw [if_pos h2, awA1_rest i h h2]
  rfl
theorem aw_all : crTo 1 ⟨awA2, awS1, [2]⟩ 256 = awC :=
  crTo_rest 1 _ awC 1 rfl (fun i h1 h2 => by rw [(awC_rest i h1 h2).1, (awC_rest i h1 h2).2]; rfl) 256 (by omega) (by omega)

theorem aw_add1 {w : World} {b : Nat} (h : Dq w b 8 (fun _ => []) (fun _ => 0)) : Calls Try.prog 9 #[.pointer (some ⟨b, 0, none⟩), .int .i64 0, .string ⟨#[97, 98]⟩] w fun e w' => e = .returned (.int .i64 0) ∧ Dq w' b 8 awA1 (fun _ => 0) ∧ Below b w w' := by
  have := Add_q h 0 (by omega) ⟨#[97, 98]⟩ (by rw [show tot (fun _ => []) = 0 from totTo_nil 256]; decide)
  rw [awA1_eq] at this
  exact this
theorem aw_add2 {w : World} {b : Nat} (h : Dq w b 8 awA1 awS1) : Calls Try.prog 9 #[.pointer (some ⟨b, 0, none⟩), .int .i64 0, .string ⟨#[99, 100, 101]⟩] w fun e w' => e = .returned (.int .i64 0) ∧ Dq w' b 8 awA2 awS1 ∧ Below b w w' := by
  have := Add_q h 0 (by omega) ⟨#[99, 100, 101]⟩ (by rw [tot_one awA1_rest]; decide)
  rw [awA2_eq] at this
  exact this
theorem aw_swap {w : World} {b : Nat} (h : Dq w b 8 awA2 awS1) : Calls Try.prog 11 #[.pointer (some ⟨b, 0, none⟩), .int .i64 0, .int .i64 1] w fun e w' => e = .returned (.int .i64 31) ∧ Dq w' b 8 awA2 awS1 ∧ Below b w w' := by
  refine (Swap_loose h 0 1 (by omega) (by omega) (.inl (by decide))).mono ?_
  rintro e w' ⟨rfl, hb⟩
  exact ⟨rfl, Dk.below h hb, hb.mono (Nat.le_of_lt h.lt)⟩
theorem aw_full {w : World} {b : Nat} (h : Dq w b 8 awA2 awS1) : Calls Try.prog 9 #[.pointer (some ⟨b, 0, none⟩), .int .i64 3, .string ⟨#[49, 50, 51, 52]⟩] w fun e w' => e = .returned (.int .i64 30) ∧ Dq w' b 8 awA2 awS1 ∧ Below b w w' := by
  refine (Add_full h 3 (by omega) ⟨#[49, 50, 51, 52]⟩ (by rw [tot_one awA2_rest]; decide)).mono ?_
  rintro e w' ⟨rfl, rfl⟩
  exact ⟨rfl, Dk.drew h, (Below.refl _ _).drew⟩
theorem lowByte_one : lowByte 1 = 1 := by decide
theorem aw_crash {w : World} {b : Nat} (h : Dq w b 8 awA2 awS1) (g : Nat) (hg : w.heap.size = g) : Calls Try.prog 12 #[.pointer (some ⟨b, 0, none⟩), .slice (some ⟨g, 0, none⟩) 1 1, .int .i64 1] (w.alloc (.cells #[.int .i64 2] 3)) fun e w' => e = .returned (.int .i64 0) ∧ Dq w' b 8 awC.A awC.S ∧ Below b w w' := by
  subst hg
  have h2 : Dk (w.alloc (.cells #[.int .i64 2] 3)) b 8 awA2 awS1 (fun k => b < k ∧ k < w.heap.size) := (Dk.tight h).alloc _
  have hlt := h.lt
  have := Crash_yes h2 w.heap.size (.slice (some ⟨w.heap.size, 0, none⟩) 1 1) [2] 1 ⟨_, 1, rfl, Nat.le_refl _, by omega, by simp, .inr ⟨0, rfl, fun j hj => by
    have e : j = 0 := by simpa using hj
    subst e
    rw [World.cell?_alloc_mark]
    rfl⟩⟩ (fun _ => ⟨by simp, by omega, by omega⟩)
  rw [lowByte_one, aw_all] at this
  refine this.mono ?_
  rintro e w' ⟨rfl, h3, h4⟩
  exact ⟨rfl, h3.q, ((Below.refl _ _).alloc (Nat.le_of_lt hlt) _).trans (h4.below (Nat.le_refl _) (fun k e => by omega) (by simp; omega))⟩
theorem aw_bytes {w : World} {b : Nat} (h : Dq w b 8 awC.A awC.S) : Calls Try.prog 13 #[.pointer (some ⟨b, 0, none⟩), .int .i64 0, .int .i64 0, .int .i64 4] w fun e w' => e = .returned (.tuple #[.string ⟨#[97, 98, 99, 101]⟩, .int .i64 0]) ∧ w' = w := by
  have := Bytes_yes h 0 (by omega) 0 4 (by rw [awC_A]; decide)
  rw [awC_A] at this
  exact this
theorem aw_size {w : World} {b : Nat} (h : Dq w b 8 awC.A awC.S) : Calls Try.prog 14 #[.pointer (some ⟨b, 0, none⟩), .int .i64 0] w fun e w' => e = .returned (.tuple #[.int .i64 4, .int .i64 4]) ∧ w' = w.drew := by
  have := Size_yes h 0 (by omega)
  rw [awC_A, awC_S] at this
  exact this
theorem aw_used {w : World} {b : Nat} (h : Dq w b 8 awC.A awC.S) : Calls Try.prog 15 #[.pointer (some ⟨b, 0, none⟩)] w fun e w' => e = .returned (.int .i64 4) ∧ w' = w := by
  have := Used_yes h
  rw [tot_one (fun i h1 h2 => (awC_rest i h1 h2).1), awC_A] at this
  exact this

set_option maxHeartbeats 400000 in
set_option maxRecDepth 20000 in
theorem awake3 (w : World) : Calls Try.prog 6 #[] w fun e w' => e = .returned (.bool true) ∧ Below w.heap.size w w' := by
  have hnew := New_q 8 w (by omega)
  have HNew : Hid _ := hnew
  clear hnew
  go_enter Try.func6, Try.ntmps6
  go_wp2_with fail
  refine Calls.mono HNew.out ?_
  rintro e w1 ⟨rfl, h1, hb1⟩
  obtain ⟨b, hb⟩ : ∃ b, b = w.heap.size := ⟨_, rfl⟩
  rw [← hb] at h1 hb1 ⊢
  have H1 : Hid (Dq w1 b 8 (fun _ => []) (fun _ => 0)) := h1
  have B1 : Hid (Below b w w1) := hb1
  have HB : Hid (b = w.heap.size) := hb
  clear h1 hb1 HNew hb
  go_wp2_with fail
  refine (aw_add1 H1.out).mono ?_
  rintro e w2 ⟨rfl, h2, hb2⟩
  have H2 : Hid _ := h2
  have B2 : Hid _ := B1.out.trans hb2
  clear h2 hb2
  go_wp2_with fail
  refine (Sync_q H2.out).mono ?_
  rintro e w3 ⟨rfl, h3, hb3⟩
  have H3 : Hid (Dq w3 b 8 awA1 awS1) := h3
  have B3 : Hid _ := B2.out.trans hb3
  clear h3 hb3
  go_wp2_with fail
  refine (aw_add2 H3.out).mono ?_
  rintro e w4 ⟨rfl, h4, hb4⟩
  have H4 : Hid _ := h4
  have B4 : Hid _ := B3.out.trans hb4
  clear h4 hb4
  go_wp2_with fail
  refine (aw_swap H4.out).mono ?_
  rintro e w5 ⟨rfl, h5, hb5⟩
  have H5 : Hid _ := h5
  have B5 : Hid _ := B4.out.trans hb5
  clear h5 hb5
  go_wp2_with fail
  refine (aw_full H5.out).mono ?_
  rintro e w6 ⟨rfl, h6, hb6⟩
  have H6 : Hid _ := h6
  have B6 : Hid _ := B5.out.trans hb6
  clear h6 hb6
  go_wp2_with fail
  refine (aw_crash H6.out _ rfl).mono ?_
  rintro e w7 ⟨rfl, h7, hb7⟩
  have H7 : Hid _ := h7
  have B7 : Hid _ := B6.out.trans hb7
  clear h7 hb7
  go_wp2_with fail
  refine (aw_bytes H7.out).mono ?_
  rintro e w8 ⟨rfl, rfl⟩
  go_wp2_with fail
  refine (aw_size H7.out).mono ?_
  rintro e w9 ⟨rfl, rfl⟩
  go_wp2_with fail
  refine (aw_used (Dk.drew H7.out)).mono ?_
  rintro e w10 ⟨rfl, rfl⟩
  go_wp2
  go_ret
  refine ⟨rfl, ?_⟩
  rw [← HB.out]
  exact B7.out.drew

end Go.Proofs.Ytncchapgoedncaa
