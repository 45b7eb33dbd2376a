/-
  The slot of a channel: the program's Of, and the document's; whether a text is a label, as the document has it.
-/
import Derived.Test.YtepbmfjimppgcaaMoMay
import Derived.Test.YtepbmfjimppgcaaSumSlot
namespace Go.Proofs.Ytepbmfjimppgcaa
open Go.RowKit

theorem Check_c (o : Mo.Op) (ho : OpOk o) (w : World) : Calls Try.prog 33 #[opV o] w fun e w' => e = .returned (.int .i64 (if Mo.may o = true then 0 else 1)) ∧ Below w.heap.size w w' := by
  have HM : Hid (∀ X, Calls Try.prog 51 #[opV o] X fun e w' => e = .returned (.bool (Mo.may o)) ∧ Below X.heap.size X w') := fun X => mayBe_c o ho X
  obtain ⟨kind, space, channel, user, text, toSpace, to, frm, most⟩ := o
  obtain ⟨b, hb⟩ : ∃ b, b = Mo.may ⟨kind, space, channel, user, text, toSpace, to, frm, most⟩ := ⟨_, rfl⟩
  rw [← hb] at HM ⊢
  clear hb ho
  unfold opV at HM ⊢
  dsimp only at HM ⊢
  have HBx : Hid (∀ o X, Below (w.alloc o).heap.size (w.alloc o) X → Below w.heap.size w X) := fun o X hX => (below_alloc w o).trans (hX.mono (by simp))
  cases b
  all_goals
    go_enter Try.func33, Try.ntmps33
    go_wp2_with fail
    refine (HM.out _).mono ?_
    rintro e w1 ⟨rfl, h1⟩
    have H1 : Hid _ := HBx.out _ _ h1
    clear h1
    go_wp2
    go_ret
    exact ⟨rfl, H1.out⟩

/-- Two names, a stroke between them. -/
def joined (x y : ByteArray) : ByteArray := x ++ ⟨#[47]⟩ ++ y
def slotOf (x y : ByteArray) : Nat := S.slot (joined x y).data.toList

theorem hashed_c (x y : ByteArray) (hx : x.size ≤ 1000) (hy : y.size ≤ 1000) (w : World) : Calls Try.prog 61 #[.string x, .string y] w fun e w' => e = .returned (.int .i64 (slotOf x y : Int)) ∧ w' = w := by
  have hs : (joined x y).size ≤ maxLen := by unfold joined maxLen; rw [ByteArray.size_append, ByteArray.size_append]; show x.size + 1 + y.size ≤ _; omega
  obtain ⟨r, hr⟩ : ∃ r, r = slotOf x y := ⟨_, rfl⟩
  have HS : Hid (Calls Try.prog 72 #[.string (x ++ ⟨#[47]⟩ ++ y)] w fun e w' => e = .returned (.int .i64 (r : Int)) ∧ w' = w) := by rw [hr]; exact sums_Slot (joined x y) w hs
  have h1 : x.size + 1 ≤ 1001 := by omega
  rw [← hr]
  clear hs hr
  go_enter Try.func61, Try.ntmps61
  go_wp2_with fail
  refine Calls.mono HS.out ?_
  rintro e w1 ⟨rfl, h⟩
  subst h
  go_wp2
  go_ret
  exact ⟨rfl, rfl⟩

def ofE (x y : ByteArray) : Bool := Mo.label x && Mo.label y
theorem sl_may_make (x y : ByteArray) : Mo.may ⟨1, x, y, Mo.e0, Mo.e0, Mo.e0, Mo.e0, 0, 0⟩ = ofE x y := by
  unfold Mo.may ofE
  rw [if_pos rfl]
  simp [Mo.labels, Mo.opEq]

theorem Of_c (x y : ByteArray) (hx : x.size ≤ 9223372036854775807) (hy : y.size ≤ 9223372036854775807) (w : World) : Calls Try.prog 46 #[.string x, .string y] w fun e w' => e = .returned (.tuple #[.int .i64 (if ofE x y = true then (slotOf x y : Int) else 0), .int .i64 (if ofE x y = true then 0 else 1)]) ∧ Below w.heap.size w w' := by
  have HC : Hid _ := Check_c ⟨1, x, y, Mo.e0, Mo.e0, Mo.e0, Mo.e0, 0, 0⟩ (by unfold OpOk Ok maxLen; exact ⟨show x.size ≤ 2 ^ 63 - 1 by omega, show y.size ≤ 2 ^ 63 - 1 by omega, show Mo.e0.size ≤ 2 ^ 63 - 1 by decide, show Mo.e0.size ≤ 2 ^ 63 - 1 by decide, show Mo.e0.size ≤ 2 ^ 63 - 1 by decide, show Mo.e0.size ≤ 2 ^ 63 - 1 by decide⟩) w
  rw [sl_may_make] at HC
  unfold opV Mo.e0 at HC
  dsimp only at HC
  cases hE : ofE x y with
  | false =>
    rw [hE] at HC
    clear hE hx hy
    go_enter Try.func46, Try.ntmps46
    go_wp2_with fail
    refine Calls.mono HC.out ?_
    rintro e w1 ⟨rfl, h1⟩
    have H1 : Hid _ := h1
    clear h1
    go_wp2
    go_ret2
    exact ⟨rfl, H1.out⟩
  | true =>
    rw [hE] at HC
    have hl : x.size ≤ 1000 ∧ y.size ≤ 1000 := by
      unfold ofE at hE
      simp at hE
      have := Mo.label_size hE.1
      have := Mo.label_size hE.2
      omega
    have HH : Hid (∀ X, Calls Try.prog 61 #[.string x, .string y] X fun e w' => e = .returned (.int .i64 (slotOf x y : Int)) ∧ w' = X) := fun X => hashed_c x y hl.1 hl.2 X
    clear hE hx hy hl
    go_enter Try.func46, Try.ntmps46
    go_wp2_with fail
    refine Calls.mono HC.out ?_
    rintro e w1 ⟨rfl, h1⟩
    have H1 : Hid _ := h1
    clear h1
    go_wp2_with fail
    refine (HH.out _).mono ?_
    rintro e w2 ⟨rfl, h2⟩
    subst h2
    go_wp2
    go_ret2
    exact ⟨rfl, H1.out⟩

theorem byteOk_eq (b : Nat) (_h : b < 256) : Mo.byteOk b = !((decide ((b : Int) < 97) || decide ((b : Int) > 122)) && (decide ((b : Int) < 48) || decide ((b : Int) > 57)) && ((b : Int) != 45)) := by
  unfold Mo.byteOk
  rw [Bool.eq_iff_iff]
  simp
  omega

end Go.Proofs.Ytepbmfjimppgcaa
