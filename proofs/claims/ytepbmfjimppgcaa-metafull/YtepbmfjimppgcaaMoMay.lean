/-
  Whether an op may be, by its kind.
-/
import Derived.Test.YtepbmfjimppgcaaMoCheck
namespace Go.Proofs.Ytepbmfjimppgcaa
open Go.RowKit

set_option maxHeartbeats 1600000 in
set_option maxRecDepth 20000 in
theorem mayBe_1 (space channel user text toSpace to : ByteArray) (frm most : Int) (ho : OpOk ⟨1, space, channel, user, text, toSpace, to, frm, most⟩) (w : World) : Calls Try.prog 51 #[.agg #[.int .i64 1, .string space, .string channel, .string user, .string text, .string toSpace, .string to, .int .i64 frm, .int .i64 most]] w fun e w' => e = .returned (.bool (Mo.may ⟨1, space, channel, user, text, toSpace, to, frm, most⟩)) ∧ Below w.heap.size w w' := by
  obtain ⟨o1, o2, o3, o4, o5, o6⟩ := ho
  dsimp only at o1 o2 o3 o4 o5 o6
  obtain ⟨u, hu⟩ : ∃ u, u = w.alloc (.cells #[.int .i64 1, .string space, .string channel, .string user, .string text, .string toSpace, .string to, .int .i64 frm, .int .i64 most] 37) := ⟨_, rfl⟩
  obtain ⟨bx, hbx⟩ : ∃ bx, bx = w.heap.size := ⟨_, rfl⟩
  obtain ⟨z, hz⟩ : ∃ z, z = u.alloc (.cells #[.string space, .string channel] 9) := ⟨_, rfl⟩
  obtain ⟨bz, hbz⟩ : ∃ bz, bz = w.heap.size + 1 := ⟨_, rfl⟩
  have hbz' : bz = u.heap.size := by rw [hbz, hu]; simp
  have hbu : Below w.heap.size w u := by rw [hu]; exact below_alloc w _
  have hbZ : Below u.heap.size u z := by rw [hz]; exact below_alloc u _
  have HB : Hid (Below w.heap.size w z) := hbu.trans (hbZ.mono hbu.size)
  have hlx : bx < u.heap.size := by rw [hu, hbx]; simp
  have hcu : ∀ j, u.cell? ⟨bx, j, none⟩ = (#[.int .i64 1, .string space, .string channel, .string user, .string text, .string toSpace, .string to, .int .i64 frm, .int .i64 most] : Array Value)[j]? := fun j => by rw [hu, hbx]; exact World.cell?_alloc_mark w _ _ _ j
  have hcz : ∀ j, z.cell? ⟨bx, j, none⟩ = (#[.int .i64 1, .string space, .string channel, .string user, .string text, .string toSpace, .string to, .int .i64 frm, .int .i64 most] : Array Value)[j]? := fun j => (hbZ.cell (p := ⟨bx, j, none⟩) hlx).trans (hcu j)
  have hrow : TxRow z (.slice (some ⟨bz, 0, none⟩) 2 2) [space, channel] := ⟨bz, 0, 2, rfl, Nat.le_refl _, by unfold maxLen; decide, fun j x hx => by
    have e : z.cell? ⟨bz, 0 + j, none⟩ = (#[.string space, .string channel] : Array Value)[j]? := by rw [Nat.zero_add, hz, hbz']; exact World.cell?_alloc_mark u _ _ _ j
    rw [e]
    match j, hx with
    | 0, hx => (have hx : space = x := by simpa using hx); rw [hx]; rfl
    | 1, hx => (have hx : channel = x := by simpa using hx); rw [hx]; rfl
    | j + 2, hx => simp at hx⟩
  have HL : Hid _ := areLabels_c hrow (fun x hx => by simp at hx; rcases hx with rfl | rfl <;> assumption) (by simp)
  have hEq : ∀ X : World, (binOp .eql 37 (.agg #[.int .i64 1, .string space, .string channel, .string user, .string text, .string toSpace, .string to, .int .i64 frm, .int .i64 most]) (.agg #[.int .i64 1, .string space, .string channel, .string ⟨#[]⟩, .string ⟨#[]⟩, .string ⟨#[]⟩, .string ⟨#[]⟩, .int .i64 0, .int .i64 0])).run Try.prog X = .ok (.bool (Mo.opEq ⟨1, space, channel, user, text, toSpace, to, frm, most⟩ ⟨1, space, channel, Mo.e0, Mo.e0, Mo.e0, Mo.e0, 0, 0⟩)) X := fun X => run_opEq ⟨1, space, channel, user, text, toSpace, to, frm, most⟩ ⟨1, space, channel, Mo.e0, Mo.e0, Mo.e0, Mo.e0, 0, 0⟩ X
  have u0 := hcu 0
  have u1 := hcu 1
  have u2 := hcu 2
  have u3 := hcu 3
  have u4 := hcu 4
  have u5 := hcu 5
  have u6 := hcu 6
  have u7 := hcu 7
  have u8 := hcu 8
  have z0 := hcz 0
  have z1 := hcz 1
  have z2 := hcz 2
  have z3 := hcz 3
  have z4 := hcz 4
  have z5 := hcz 5
  have z6 := hcz 6
  have z7 := hcz 7
  have z8 := hcz 8
  have hm : Mo.may ⟨1, space, channel, user, text, toSpace, to, frm, most⟩ = (Mo.labels [space, channel] && Mo.opEq ⟨1, space, channel, user, text, toSpace, to, frm, most⟩ ⟨1, space, channel, Mo.e0, Mo.e0, Mo.e0, Mo.e0, 0, 0⟩) := rfl
  obtain ⟨r, hr⟩ : ∃ r, r = Mo.opEq ⟨1, space, channel, user, text, toSpace, to, frm, most⟩ ⟨1, space, channel, Mo.e0, Mo.e0, Mo.e0, Mo.e0, 0, 0⟩ := ⟨_, rfl⟩
  rw [← hr] at hm hEq
  have HM : Hid _ := hm
  clear hbz' hr hm hcu hcz hrow hbu hbZ o1 o2 o3 o4 o5 o6
  cases hq : Mo.labels [space, channel] with
  | false =>
    rw [hq] at HL HM
    clear hq
    go_enter Try.func51, Try.ntmps51
    go_wp2_with fail
    rw [← hu, ← hz, ← hbz, ← hbx]
    clear hu hbx hz hbz
    refine Calls.mono HL.out ?_
    rintro e w1 ⟨rfl, rfl⟩
    go_wp2_with fail
    go_ret
    exact ⟨by rw [HM.out]; rfl, HB.out⟩
  | true =>
    rw [hq] at HL HM
    clear hq
    go_enter Try.func51, Try.ntmps51
    go_wp2_with fail
    rw [← hu, ← hz, ← hbz, ← hbx]
    clear hu hbx hz hbz
    refine Calls.mono HL.out ?_
    rintro e w1 ⟨rfl, rfl⟩
    go_wp2_with fail
    go_ret
    exact ⟨by rw [HM.out]; rfl, HB.out⟩

set_option maxHeartbeats 1600000 in
set_option maxRecDepth 20000 in
theorem mayBe_2 (space channel user text toSpace to : ByteArray) (frm most : Int) (ho : OpOk ⟨2, space, channel, user, text, toSpace, to, frm, most⟩) (w : World) : Calls Try.prog 51 #[.agg #[.int .i64 2, .string space, .string channel, .string user, .string text, .string toSpace, .string to, .int .i64 frm, .int .i64 most]] w fun e w' => e = .returned (.bool (Mo.may ⟨2, space, channel, user, text, toSpace, to, frm, most⟩)) ∧ Below w.heap.size w w' := by
  obtain ⟨o1, o2, o3, o4, o5, o6⟩ := ho
  dsimp only at o1 o2 o3 o4 o5 o6
  obtain ⟨u, hu⟩ : ∃ u, u = w.alloc (.cells #[.int .i64 2, .string space, .string channel, .string user, .string text, .string toSpace, .string to, .int .i64 frm, .int .i64 most] 37) := ⟨_, rfl⟩
  obtain ⟨bx, hbx⟩ : ∃ bx, bx = w.heap.size := ⟨_, rfl⟩
  obtain ⟨z, hz⟩ : ∃ z, z = u.alloc (.cells #[.string space, .string channel, .string user] 9) := ⟨_, rfl⟩
  obtain ⟨bz, hbz⟩ : ∃ bz, bz = w.heap.size + 1 := ⟨_, rfl⟩
  have hbz' : bz = u.heap.size := by rw [hbz, hu]; simp
  have hbu : Below w.heap.size w u := by rw [hu]; exact below_alloc w _
  have hbZ : Below u.heap.size u z := by rw [hz]; exact below_alloc u _
  have HB : Hid (Below w.heap.size w z) := hbu.trans (hbZ.mono hbu.size)
  have hlx : bx < u.heap.size := by rw [hu, hbx]; simp
  have hcu : ∀ j, u.cell? ⟨bx, j, none⟩ = (#[.int .i64 2, .string space, .string channel, .string user, .string text, .string toSpace, .string to, .int .i64 frm, .int .i64 most] : Array Value)[j]? := fun j => by rw [hu, hbx]; exact World.cell?_alloc_mark w _ _ _ j
  have hcz : ∀ j, z.cell? ⟨bx, j, none⟩ = (#[.int .i64 2, .string space, .string channel, .string user, .string text, .string toSpace, .string to, .int .i64 frm, .int .i64 most] : Array Value)[j]? := fun j => (hbZ.cell (p := ⟨bx, j, none⟩) hlx).trans (hcu j)
  have hrow : TxRow z (.slice (some ⟨bz, 0, none⟩) 3 3) [space, channel, user] := ⟨bz, 0, 3, rfl, Nat.le_refl _, by unfold maxLen; decide, fun j x hx => by
    have e : z.cell? ⟨bz, 0 + j, none⟩ = (#[.string space, .string channel, .string user] : Array Value)[j]? := by rw [Nat.zero_add, hz, hbz']; exact World.cell?_alloc_mark u _ _ _ j
    rw [e]
    match j, hx with
    | 0, hx => (have hx : space = x := by simpa using hx); rw [hx]; rfl
    | 1, hx => (have hx : channel = x := by simpa using hx); rw [hx]; rfl
    | 2, hx => (have hx : user = x := by simpa using hx); rw [hx]; rfl
    | j + 3, hx => simp at hx⟩
  have HL : Hid _ := areLabels_c hrow (fun x hx => by simp at hx; rcases hx with rfl | rfl | rfl <;> assumption) (by simp)
  have hEq : ∀ X : World, (binOp .eql 37 (.agg #[.int .i64 2, .string space, .string channel, .string user, .string text, .string toSpace, .string to, .int .i64 frm, .int .i64 most]) (.agg #[.int .i64 2, .string space, .string channel, .string user, .string ⟨#[]⟩, .string ⟨#[]⟩, .string ⟨#[]⟩, .int .i64 0, .int .i64 0])).run Try.prog X = .ok (.bool (Mo.opEq ⟨2, space, channel, user, text, toSpace, to, frm, most⟩ ⟨2, space, channel, user, Mo.e0, Mo.e0, Mo.e0, 0, 0⟩)) X := fun X => run_opEq ⟨2, space, channel, user, text, toSpace, to, frm, most⟩ ⟨2, space, channel, user, Mo.e0, Mo.e0, Mo.e0, 0, 0⟩ X
  have u0 := hcu 0
  have u1 := hcu 1
  have u2 := hcu 2
  have u3 := hcu 3
  have u4 := hcu 4
  have u5 := hcu 5
  have u6 := hcu 6
  have u7 := hcu 7
  have u8 := hcu 8
  have z0 := hcz 0
  have z1 := hcz 1
  have z2 := hcz 2
  have z3 := hcz 3
  have z4 := hcz 4
  have z5 := hcz 5
  have z6 := hcz 6
  have z7 := hcz 7
  have z8 := hcz 8
  have hm : Mo.may ⟨2, space, channel, user, text, toSpace, to, frm, most⟩ = (Mo.labels [space, channel, user] && Mo.opEq ⟨2, space, channel, user, text, toSpace, to, frm, most⟩ ⟨2, space, channel, user, Mo.e0, Mo.e0, Mo.e0, 0, 0⟩) := rfl
  obtain ⟨r, hr⟩ : ∃ r, r = Mo.opEq ⟨2, space, channel, user, text, toSpace, to, frm, most⟩ ⟨2, space, channel, user, Mo.e0, Mo.e0, Mo.e0, 0, 0⟩ := ⟨_, rfl⟩
  rw [← hr] at hm hEq
  have HM : Hid _ := hm
  clear hbz' hr hm hcu hcz hrow hbu hbZ o1 o2 o3 o4 o5 o6
  cases hq : Mo.labels [space, channel, user] with
  | false =>
    rw [hq] at HL HM
    clear hq
    go_enter Try.func51, Try.ntmps51
    go_wp2_with fail
    rw [← hu, ← hz, ← hbz, ← hbx]
    clear hu hbx hz hbz
    refine Calls.mono HL.out ?_
    rintro e w1 ⟨rfl, rfl⟩
    go_wp2_with fail
    go_ret
    exact ⟨by rw [HM.out]; rfl, HB.out⟩
  | true =>
    rw [hq] at HL HM
    clear hq
    go_enter Try.func51, Try.ntmps51
    go_wp2_with fail
    rw [← hu, ← hz, ← hbz, ← hbx]
    clear hu hbx hz hbz
    refine Calls.mono HL.out ?_
    rintro e w1 ⟨rfl, rfl⟩
    go_wp2_with fail
    go_ret
    exact ⟨by rw [HM.out]; rfl, HB.out⟩

set_option maxHeartbeats 1600000 in
set_option maxRecDepth 20000 in
theorem mayBe_3 (space channel user text toSpace to : ByteArray) (frm most : Int) (ho : OpOk ⟨3, space, channel, user, text, toSpace, to, frm, most⟩) (w : World) : Calls Try.prog 51 #[.agg #[.int .i64 3, .string space, .string channel, .string user, .string text, .string toSpace, .string to, .int .i64 frm, .int .i64 most]] w fun e w' => e = .returned (.bool (Mo.may ⟨3, space, channel, user, text, toSpace, to, frm, most⟩)) ∧ Below w.heap.size w w' := by
  obtain ⟨o1, o2, o3, o4, o5, o6⟩ := ho
  dsimp only at o1 o2 o3 o4 o5 o6
  obtain ⟨u, hu⟩ : ∃ u, u = w.alloc (.cells #[.int .i64 3, .string space, .string channel, .string user, .string text, .string toSpace, .string to, .int .i64 frm, .int .i64 most] 37) := ⟨_, rfl⟩
  obtain ⟨bx, hbx⟩ : ∃ bx, bx = w.heap.size := ⟨_, rfl⟩
  obtain ⟨z, hz⟩ : ∃ z, z = u.alloc (.cells #[.string space, .string channel, .string user] 9) := ⟨_, rfl⟩
  obtain ⟨bz, hbz⟩ : ∃ bz, bz = w.heap.size + 1 := ⟨_, rfl⟩
  have hbz' : bz = u.heap.size := by rw [hbz, hu]; simp
  have hbu : Below w.heap.size w u := by rw [hu]; exact below_alloc w _
  have hbZ : Below u.heap.size u z := by rw [hz]; exact below_alloc u _
  have HB : Hid (Below w.heap.size w z) := hbu.trans (hbZ.mono hbu.size)
  have hlx : bx < u.heap.size := by rw [hu, hbx]; simp
  have hcu : ∀ j, u.cell? ⟨bx, j, none⟩ = (#[.int .i64 3, .string space, .string channel, .string user, .string text, .string toSpace, .string to, .int .i64 frm, .int .i64 most] : Array Value)[j]? := fun j => by rw [hu, hbx]; exact World.cell?_alloc_mark w _ _ _ j
  have hcz : ∀ j, z.cell? ⟨bx, j, none⟩ = (#[.int .i64 3, .string space, .string channel, .string user, .string text, .string toSpace, .string to, .int .i64 frm, .int .i64 most] : Array Value)[j]? := fun j => (hbZ.cell (p := ⟨bx, j, none⟩) hlx).trans (hcu j)
  have hrow : TxRow z (.slice (some ⟨bz, 0, none⟩) 3 3) [space, channel, user] := ⟨bz, 0, 3, rfl, Nat.le_refl _, by unfold maxLen; decide, fun j x hx => by
    have e : z.cell? ⟨bz, 0 + j, none⟩ = (#[.string space, .string channel, .string user] : Array Value)[j]? := by rw [Nat.zero_add, hz, hbz']; exact World.cell?_alloc_mark u _ _ _ j
    rw [e]
    match j, hx with
    | 0, hx => (have hx : space = x := by simpa using hx); rw [hx]; rfl
    | 1, hx => (have hx : channel = x := by simpa using hx); rw [hx]; rfl
    | 2, hx => (have hx : user = x := by simpa using hx); rw [hx]; rfl
    | j + 3, hx => simp at hx⟩
  have HL : Hid _ := areLabels_c hrow (fun x hx => by simp at hx; rcases hx with rfl | rfl | rfl <;> assumption) (by simp)
  have hEq : ∀ X : World, (binOp .eql 37 (.agg #[.int .i64 3, .string space, .string channel, .string user, .string text, .string toSpace, .string to, .int .i64 frm, .int .i64 most]) (.agg #[.int .i64 3, .string space, .string channel, .string user, .string text, .string ⟨#[]⟩, .string ⟨#[]⟩, .int .i64 0, .int .i64 0])).run Try.prog X = .ok (.bool (Mo.opEq ⟨3, space, channel, user, text, toSpace, to, frm, most⟩ ⟨3, space, channel, user, text, Mo.e0, Mo.e0, 0, 0⟩)) X := fun X => run_opEq ⟨3, space, channel, user, text, toSpace, to, frm, most⟩ ⟨3, space, channel, user, text, Mo.e0, Mo.e0, 0, 0⟩ X
  have u0 := hcu 0
  have u1 := hcu 1
  have u2 := hcu 2
  have u3 := hcu 3
  have u4 := hcu 4
  have u5 := hcu 5
  have u6 := hcu 6
  have u7 := hcu 7
  have u8 := hcu 8
  have z0 := hcz 0
  have z1 := hcz 1
  have z2 := hcz 2
  have z3 := hcz 3
  have z4 := hcz 4
  have z5 := hcz 5
  have z6 := hcz 6
  have z7 := hcz 7
  have z8 := hcz 8
  have hm : Mo.may ⟨3, space, channel, user, text, toSpace, to, frm, most⟩ = ((Mo.labels [space, channel, user] && Mo.postable text) && Mo.opEq ⟨3, space, channel, user, text, toSpace, to, frm, most⟩ ⟨3, space, channel, user, text, Mo.e0, Mo.e0, 0, 0⟩) := rfl
  obtain ⟨r, hr⟩ : ∃ r, r = Mo.opEq ⟨3, space, channel, user, text, toSpace, to, frm, most⟩ ⟨3, space, channel, user, text, Mo.e0, Mo.e0, 0, 0⟩ := ⟨_, rfl⟩
  rw [← hr] at hm hEq
  have HM : Hid _ := hm
  have HP : Hid _ := isPostable_c text o4 z
  clear hbz' hr hm hcu hcz hrow hbu hbZ o1 o2 o3 o4 o5 o6
  cases hq : Mo.labels [space, channel, user] with
  | false =>
    rw [hq] at HL HM
    clear hq
    go_enter Try.func51, Try.ntmps51
    go_wp2_with fail
    rw [← hu, ← hz, ← hbz, ← hbx]
    clear hu hbx hz hbz
    refine Calls.mono HL.out ?_
    rintro e w1 ⟨rfl, rfl⟩
    go_wp2_with fail
    go_ret
    exact ⟨by rw [HM.out]; rfl, HB.out⟩
  | true =>
    rw [hq] at HL HM
    clear hq
    cases hq : Mo.postable text with
    | false =>
      rw [hq] at HP HM
      clear hq
      go_enter Try.func51, Try.ntmps51
      go_wp2_with fail
      rw [← hu, ← hz, ← hbz, ← hbx]
      clear hu hbx hz hbz
      refine Calls.mono HL.out ?_
      rintro e w1 ⟨rfl, rfl⟩
      go_wp2_with fail
      refine Calls.mono HP.out ?_
      rintro e w2 ⟨rfl, hb2⟩
      have HB2 : Hid _ := hb2
      clear hb2
      go_wp2_with fail
      go_ret
      exact ⟨by rw [HM.out]; rfl, HB.out.trans (HB2.out.mono HB.out.size)⟩
    | true =>
      rw [hq] at HP HM
      clear hq
      go_enter Try.func51, Try.ntmps51
      go_wp2_with fail
      rw [← hu, ← hz, ← hbz, ← hbx]
      clear hu hbx hz hbz
      refine Calls.mono HL.out ?_
      rintro e w1 ⟨rfl, rfl⟩
      go_wp2_with fail
      refine Calls.mono HP.out ?_
      rintro e w2 ⟨rfl, hb2⟩
      have HB2 : Hid _ := hb2
      have hxz : bx < w1.heap.size := World.block_lt_of_cell? _ _ z0
      have y0 := (hb2.cell (p := ⟨bx, 0, none⟩) hxz).trans z0
      have y1 := (hb2.cell (p := ⟨bx, 1, none⟩) hxz).trans z1
      have y2 := (hb2.cell (p := ⟨bx, 2, none⟩) hxz).trans z2
      have y3 := (hb2.cell (p := ⟨bx, 3, none⟩) hxz).trans z3
      have y4 := (hb2.cell (p := ⟨bx, 4, none⟩) hxz).trans z4
      have y5 := (hb2.cell (p := ⟨bx, 5, none⟩) hxz).trans z5
      have y6 := (hb2.cell (p := ⟨bx, 6, none⟩) hxz).trans z6
      have y7 := (hb2.cell (p := ⟨bx, 7, none⟩) hxz).trans z7
      have y8 := (hb2.cell (p := ⟨bx, 8, none⟩) hxz).trans z8
      clear hb2 hxz z0 z1 z2 z3 z4 z5 z6 z7 z8
      go_wp2_with fail
      go_ret
      exact ⟨by rw [HM.out]; rfl, HB.out.trans (HB2.out.mono HB.out.size)⟩

set_option maxHeartbeats 1600000 in
set_option maxRecDepth 20000 in
theorem mayBe_4 (space channel user text toSpace to : ByteArray) (frm most : Int) (ho : OpOk ⟨4, space, channel, user, text, toSpace, to, frm, most⟩) (w : World) : Calls Try.prog 51 #[.agg #[.int .i64 4, .string space, .string channel, .string user, .string text, .string toSpace, .string to, .int .i64 frm, .int .i64 most]] w fun e w' => e = .returned (.bool (Mo.may ⟨4, space, channel, user, text, toSpace, to, frm, most⟩)) ∧ Below w.heap.size w w' := by
  obtain ⟨o1, o2, o3, o4, o5, o6⟩ := ho
  dsimp only at o1 o2 o3 o4 o5 o6
  obtain ⟨u, hu⟩ : ∃ u, u = w.alloc (.cells #[.int .i64 4, .string space, .string channel, .string user, .string text, .string toSpace, .string to, .int .i64 frm, .int .i64 most] 37) := ⟨_, rfl⟩
  obtain ⟨bx, hbx⟩ : ∃ bx, bx = w.heap.size := ⟨_, rfl⟩
  obtain ⟨z, hz⟩ : ∃ z, z = u.alloc (.cells #[.string space, .string channel] 9) := ⟨_, rfl⟩
  obtain ⟨bz, hbz⟩ : ∃ bz, bz = w.heap.size + 1 := ⟨_, rfl⟩
  have hbz' : bz = u.heap.size := by rw [hbz, hu]; simp
  have hbu : Below w.heap.size w u := by rw [hu]; exact below_alloc w _
  have hbZ : Below u.heap.size u z := by rw [hz]; exact below_alloc u _
  have HB : Hid (Below w.heap.size w z) := hbu.trans (hbZ.mono hbu.size)
  have hlx : bx < u.heap.size := by rw [hu, hbx]; simp
  have hcu : ∀ j, u.cell? ⟨bx, j, none⟩ = (#[.int .i64 4, .string space, .string channel, .string user, .string text, .string toSpace, .string to, .int .i64 frm, .int .i64 most] : Array Value)[j]? := fun j => by rw [hu, hbx]; exact World.cell?_alloc_mark w _ _ _ j
  have hcz : ∀ j, z.cell? ⟨bx, j, none⟩ = (#[.int .i64 4, .string space, .string channel, .string user, .string text, .string toSpace, .string to, .int .i64 frm, .int .i64 most] : Array Value)[j]? := fun j => (hbZ.cell (p := ⟨bx, j, none⟩) hlx).trans (hcu j)
  have hrow : TxRow z (.slice (some ⟨bz, 0, none⟩) 2 2) [space, channel] := ⟨bz, 0, 2, rfl, Nat.le_refl _, by unfold maxLen; decide, fun j x hx => by
    have e : z.cell? ⟨bz, 0 + j, none⟩ = (#[.string space, .string channel] : Array Value)[j]? := by rw [Nat.zero_add, hz, hbz']; exact World.cell?_alloc_mark u _ _ _ j
    rw [e]
    match j, hx with
    | 0, hx => (have hx : space = x := by simpa using hx); rw [hx]; rfl
    | 1, hx => (have hx : channel = x := by simpa using hx); rw [hx]; rfl
    | j + 2, hx => simp at hx⟩
  have HL : Hid _ := areLabels_c hrow (fun x hx => by simp at hx; rcases hx with rfl | rfl <;> assumption) (by simp)
  have hEq : ∀ X : World, (binOp .eql 37 (.agg #[.int .i64 4, .string space, .string channel, .string user, .string text, .string toSpace, .string to, .int .i64 frm, .int .i64 most]) (.agg #[.int .i64 4, .string space, .string channel, .string ⟨#[]⟩, .string ⟨#[]⟩, .string ⟨#[]⟩, .string ⟨#[]⟩, .int .i64 frm, .int .i64 most])).run Try.prog X = .ok (.bool (Mo.opEq ⟨4, space, channel, user, text, toSpace, to, frm, most⟩ ⟨4, space, channel, Mo.e0, Mo.e0, Mo.e0, Mo.e0, frm, most⟩)) X := fun X => run_opEq ⟨4, space, channel, user, text, toSpace, to, frm, most⟩ ⟨4, space, channel, Mo.e0, Mo.e0, Mo.e0, Mo.e0, frm, most⟩ X
  have u0 := hcu 0
  have u1 := hcu 1
  have u2 := hcu 2
  have u3 := hcu 3
  have u4 := hcu 4
  have u5 := hcu 5
  have u6 := hcu 6
  have u7 := hcu 7
  have u8 := hcu 8
  have z0 := hcz 0
  have z1 := hcz 1
  have z2 := hcz 2
  have z3 := hcz 3
  have z4 := hcz 4
  have z5 := hcz 5
  have z6 := hcz 6
  have z7 := hcz 7
  have z8 := hcz 8
  have hm : Mo.may ⟨4, space, channel, user, text, toSpace, to, frm, most⟩ = (((Mo.labels [space, channel] && Mo.within frm 2147483647) && Mo.within most 64) && Mo.opEq ⟨4, space, channel, user, text, toSpace, to, frm, most⟩ ⟨4, space, channel, Mo.e0, Mo.e0, Mo.e0, Mo.e0, frm, most⟩) := rfl
  obtain ⟨r, hr⟩ : ∃ r, r = Mo.opEq ⟨4, space, channel, user, text, toSpace, to, frm, most⟩ ⟨4, space, channel, Mo.e0, Mo.e0, Mo.e0, Mo.e0, frm, most⟩ := ⟨_, rfl⟩
  rw [← hr] at hm hEq
  have HM : Hid _ := hm
  have HF : Hid _ := isWithin_c frm 2147483647 z
  have HO : Hid _ := isWithin_c most 64 z
  clear hbz' hr hm hcu hcz hrow hbu hbZ o1 o2 o3 o4 o5 o6
  cases hq : Mo.labels [space, channel] with
  | false =>
    rw [hq] at HL HM
    clear hq
    go_enter Try.func51, Try.ntmps51
    go_wp2_with fail
    rw [← hu, ← hz, ← hbz, ← hbx]
    clear hu hbx hz hbz
    refine Calls.mono HL.out ?_
    rintro e w1 ⟨rfl, rfl⟩
    go_wp2_with fail
    go_ret
    exact ⟨by rw [HM.out]; rfl, HB.out⟩
  | true =>
    rw [hq] at HL HM
    clear hq
    cases hq : Mo.within frm 2147483647 with
    | false =>
      rw [hq] at HF HM
      clear hq
      go_enter Try.func51, Try.ntmps51
      go_wp2_with fail
      rw [← hu, ← hz, ← hbz, ← hbx]
      clear hu hbx hz hbz
      refine Calls.mono HL.out ?_
      rintro e w1 ⟨rfl, rfl⟩
      go_wp2_with fail
      refine Calls.mono HF.out ?_
      rintro e w2 ⟨rfl, rfl⟩
      go_wp2_with fail
      go_ret
      exact ⟨by rw [HM.out]; rfl, HB.out⟩
    | true =>
      rw [hq] at HF HM
      clear hq
      cases hq : Mo.within most 64 with
      | false =>
        rw [hq] at HO HM
        clear hq
        go_enter Try.func51, Try.ntmps51
        go_wp2_with fail
        rw [← hu, ← hz, ← hbz, ← hbx]
        clear hu hbx hz hbz
        refine Calls.mono HL.out ?_
        rintro e w1 ⟨rfl, rfl⟩
        go_wp2_with fail
        refine Calls.mono HF.out ?_
        rintro e w2 ⟨rfl, rfl⟩
        go_wp2_with fail
        refine Calls.mono HO.out ?_
        rintro e w2 ⟨rfl, rfl⟩
        go_wp2_with fail
        go_ret
        exact ⟨by rw [HM.out]; rfl, HB.out⟩
      | true =>
        rw [hq] at HO HM
        clear hq
        go_enter Try.func51, Try.ntmps51
        go_wp2_with fail
        rw [← hu, ← hz, ← hbz, ← hbx]
        clear hu hbx hz hbz
        refine Calls.mono HL.out ?_
        rintro e w1 ⟨rfl, rfl⟩
        go_wp2_with fail
        refine Calls.mono HF.out ?_
        rintro e w2 ⟨rfl, rfl⟩
        go_wp2_with fail
        refine Calls.mono HO.out ?_
        rintro e w2 ⟨rfl, rfl⟩
        go_wp2_with fail
        go_ret
        exact ⟨by rw [HM.out]; rfl, HB.out⟩

set_option maxHeartbeats 1600000 in
set_option maxRecDepth 20000 in
theorem mayBe_5 (space channel user text toSpace to : ByteArray) (frm most : Int) (ho : OpOk ⟨5, space, channel, user, text, toSpace, to, frm, most⟩) (w : World) : Calls Try.prog 51 #[.agg #[.int .i64 5, .string space, .string channel, .string user, .string text, .string toSpace, .string to, .int .i64 frm, .int .i64 most]] w fun e w' => e = .returned (.bool (Mo.may ⟨5, space, channel, user, text, toSpace, to, frm, most⟩)) ∧ Below w.heap.size w w' := by
  obtain ⟨o1, o2, o3, o4, o5, o6⟩ := ho
  dsimp only at o1 o2 o3 o4 o5 o6
  obtain ⟨u, hu⟩ : ∃ u, u = w.alloc (.cells #[.int .i64 5, .string space, .string channel, .string user, .string text, .string toSpace, .string to, .int .i64 frm, .int .i64 most] 37) := ⟨_, rfl⟩
  obtain ⟨bx, hbx⟩ : ∃ bx, bx = w.heap.size := ⟨_, rfl⟩
  obtain ⟨z, hz⟩ : ∃ z, z = u.alloc (.cells #[.string space, .string channel, .string toSpace, .string to] 9) := ⟨_, rfl⟩
  obtain ⟨bz, hbz⟩ : ∃ bz, bz = w.heap.size + 1 := ⟨_, rfl⟩
  have hbz' : bz = u.heap.size := by rw [hbz, hu]; simp
  have hbu : Below w.heap.size w u := by rw [hu]; exact below_alloc w _
  have hbZ : Below u.heap.size u z := by rw [hz]; exact below_alloc u _
  have HB : Hid (Below w.heap.size w z) := hbu.trans (hbZ.mono hbu.size)
  have hlx : bx < u.heap.size := by rw [hu, hbx]; simp
  have hcu : ∀ j, u.cell? ⟨bx, j, none⟩ = (#[.int .i64 5, .string space, .string channel, .string user, .string text, .string toSpace, .string to, .int .i64 frm, .int .i64 most] : Array Value)[j]? := fun j => by rw [hu, hbx]; exact World.cell?_alloc_mark w _ _ _ j
  have hcz : ∀ j, z.cell? ⟨bx, j, none⟩ = (#[.int .i64 5, .string space, .string channel, .string user, .string text, .string toSpace, .string to, .int .i64 frm, .int .i64 most] : Array Value)[j]? := fun j => (hbZ.cell (p := ⟨bx, j, none⟩) hlx).trans (hcu j)
  have hrow : TxRow z (.slice (some ⟨bz, 0, none⟩) 4 4) [space, channel, toSpace, to] := ⟨bz, 0, 4, rfl, Nat.le_refl _, by unfold maxLen; decide, fun j x hx => by
    have e : z.cell? ⟨bz, 0 + j, none⟩ = (#[.string space, .string channel, .string toSpace, .string to] : Array Value)[j]? := by rw [Nat.zero_add, hz, hbz']; exact World.cell?_alloc_mark u _ _ _ j
    rw [e]
    match j, hx with
    | 0, hx => (have hx : space = x := by simpa using hx); rw [hx]; rfl
    | 1, hx => (have hx : channel = x := by simpa using hx); rw [hx]; rfl
    | 2, hx => (have hx : toSpace = x := by simpa using hx); rw [hx]; rfl
    | 3, hx => (have hx : to = x := by simpa using hx); rw [hx]; rfl
    | j + 4, hx => simp at hx⟩
  have HL : Hid _ := areLabels_c hrow (fun x hx => by simp at hx; rcases hx with rfl | rfl | rfl | rfl <;> assumption) (by simp)
  have hEq : ∀ X : World, (binOp .eql 37 (.agg #[.int .i64 5, .string space, .string channel, .string user, .string text, .string toSpace, .string to, .int .i64 frm, .int .i64 most]) (.agg #[.int .i64 5, .string space, .string channel, .string ⟨#[]⟩, .string ⟨#[]⟩, .string toSpace, .string to, .int .i64 0, .int .i64 0])).run Try.prog X = .ok (.bool (Mo.opEq ⟨5, space, channel, user, text, toSpace, to, frm, most⟩ ⟨5, space, channel, Mo.e0, Mo.e0, toSpace, to, 0, 0⟩)) X := fun X => run_opEq ⟨5, space, channel, user, text, toSpace, to, frm, most⟩ ⟨5, space, channel, Mo.e0, Mo.e0, toSpace, to, 0, 0⟩ X
  have u0 := hcu 0
  have u1 := hcu 1
  have u2 := hcu 2
  have u3 := hcu 3
  have u4 := hcu 4
  have u5 := hcu 5
  have u6 := hcu 6
  have u7 := hcu 7
  have u8 := hcu 8
  have z0 := hcz 0
  have z1 := hcz 1
  have z2 := hcz 2
  have z3 := hcz 3
  have z4 := hcz 4
  have z5 := hcz 5
  have z6 := hcz 6
  have z7 := hcz 7
  have z8 := hcz 8
  have hm : Mo.may ⟨5, space, channel, user, text, toSpace, to, frm, most⟩ = (Mo.labels [space, channel, toSpace, to] && Mo.opEq ⟨5, space, channel, user, text, toSpace, to, frm, most⟩ ⟨5, space, channel, Mo.e0, Mo.e0, toSpace, to, 0, 0⟩) := rfl
  obtain ⟨r, hr⟩ : ∃ r, r = Mo.opEq ⟨5, space, channel, user, text, toSpace, to, frm, most⟩ ⟨5, space, channel, Mo.e0, Mo.e0, toSpace, to, 0, 0⟩ := ⟨_, rfl⟩
  rw [← hr] at hm hEq
  have HM : Hid _ := hm
  clear hbz' hr hm hcu hcz hrow hbu hbZ o1 o2 o3 o4 o5 o6
  cases hq : Mo.labels [space, channel, toSpace, to] with
  | false =>
    rw [hq] at HL HM
    clear hq
    go_enter Try.func51, Try.ntmps51
    go_wp2_with fail
    rw [← hu, ← hz, ← hbz, ← hbx]
    clear hu hbx hz hbz
    refine Calls.mono HL.out ?_
    rintro e w1 ⟨rfl, rfl⟩
    go_wp2_with fail
    go_ret
    exact ⟨by rw [HM.out]; rfl, HB.out⟩
  | true =>
    rw [hq] at HL HM
    clear hq
    go_enter Try.func51, Try.ntmps51
    go_wp2_with fail
    rw [← hu, ← hz, ← hbz, ← hbx]
    clear hu hbx hz hbz
    refine Calls.mono HL.out ?_
    rintro e w1 ⟨rfl, rfl⟩
    go_wp2_with fail
    go_ret
    exact ⟨by rw [HM.out]; rfl, HB.out⟩

set_option maxHeartbeats 1600000 in
set_option maxRecDepth 20000 in
theorem mayBe_6 (space channel user text toSpace to : ByteArray) (frm most : Int) (ho : OpOk ⟨6, space, channel, user, text, toSpace, to, frm, most⟩) (w : World) : Calls Try.prog 51 #[.agg #[.int .i64 6, .string space, .string channel, .string user, .string text, .string toSpace, .string to, .int .i64 frm, .int .i64 most]] w fun e w' => e = .returned (.bool (Mo.may ⟨6, space, channel, user, text, toSpace, to, frm, most⟩)) ∧ Below w.heap.size w w' := by
  obtain ⟨o1, o2, o3, o4, o5, o6⟩ := ho
  dsimp only at o1 o2 o3 o4 o5 o6
  obtain ⟨u, hu⟩ : ∃ u, u = w.alloc (.cells #[.int .i64 6, .string space, .string channel, .string user, .string text, .string toSpace, .string to, .int .i64 frm, .int .i64 most] 37) := ⟨_, rfl⟩
  obtain ⟨bx, hbx⟩ : ∃ bx, bx = w.heap.size := ⟨_, rfl⟩
  obtain ⟨z, hz⟩ : ∃ z, z = u.alloc (.cells #[.string space] 9) := ⟨_, rfl⟩
  obtain ⟨bz, hbz⟩ : ∃ bz, bz = w.heap.size + 1 := ⟨_, rfl⟩
  have hbz' : bz = u.heap.size := by rw [hbz, hu]; simp
  have hbu : Below w.heap.size w u := by rw [hu]; exact below_alloc w _
  have hbZ : Below u.heap.size u z := by rw [hz]; exact below_alloc u _
  have HB : Hid (Below w.heap.size w z) := hbu.trans (hbZ.mono hbu.size)
  have hlx : bx < u.heap.size := by rw [hu, hbx]; simp
  have hcu : ∀ j, u.cell? ⟨bx, j, none⟩ = (#[.int .i64 6, .string space, .string channel, .string user, .string text, .string toSpace, .string to, .int .i64 frm, .int .i64 most] : Array Value)[j]? := fun j => by rw [hu, hbx]; exact World.cell?_alloc_mark w _ _ _ j
  have hcz : ∀ j, z.cell? ⟨bx, j, none⟩ = (#[.int .i64 6, .string space, .string channel, .string user, .string text, .string toSpace, .string to, .int .i64 frm, .int .i64 most] : Array Value)[j]? := fun j => (hbZ.cell (p := ⟨bx, j, none⟩) hlx).trans (hcu j)
  have hrow : TxRow z (.slice (some ⟨bz, 0, none⟩) 1 1) [space] := ⟨bz, 0, 1, rfl, Nat.le_refl _, by unfold maxLen; decide, fun j x hx => by
    have e : z.cell? ⟨bz, 0 + j, none⟩ = (#[.string space] : Array Value)[j]? := by rw [Nat.zero_add, hz, hbz']; exact World.cell?_alloc_mark u _ _ _ j
    rw [e]
    match j, hx with
    | 0, hx => (have hx : space = x := by simpa using hx); rw [hx]; rfl
    | j + 1, hx => simp at hx⟩
  have HL : Hid _ := areLabels_c hrow (fun x hx => by simp at hx; rcases hx with rfl <;> assumption) (by simp)
  have hEq : ∀ X : World, (binOp .eql 37 (.agg #[.int .i64 6, .string space, .string channel, .string user, .string text, .string toSpace, .string to, .int .i64 frm, .int .i64 most]) (.agg #[.int .i64 6, .string space, .string ⟨#[]⟩, .string ⟨#[]⟩, .string ⟨#[]⟩, .string ⟨#[]⟩, .string ⟨#[]⟩, .int .i64 0, .int .i64 0])).run Try.prog X = .ok (.bool (Mo.opEq ⟨6, space, channel, user, text, toSpace, to, frm, most⟩ ⟨6, space, Mo.e0, Mo.e0, Mo.e0, Mo.e0, Mo.e0, 0, 0⟩)) X := fun X => run_opEq ⟨6, space, channel, user, text, toSpace, to, frm, most⟩ ⟨6, space, Mo.e0, Mo.e0, Mo.e0, Mo.e0, Mo.e0, 0, 0⟩ X
  have u0 := hcu 0
  have u1 := hcu 1
  have u2 := hcu 2
  have u3 := hcu 3
  have u4 := hcu 4
  have u5 := hcu 5
  have u6 := hcu 6
  have u7 := hcu 7
  have u8 := hcu 8
  have z0 := hcz 0
  have z1 := hcz 1
  have z2 := hcz 2
  have z3 := hcz 3
  have z4 := hcz 4
  have z5 := hcz 5
  have z6 := hcz 6
  have z7 := hcz 7
  have z8 := hcz 8
  have hm : Mo.may ⟨6, space, channel, user, text, toSpace, to, frm, most⟩ = (Mo.labels [space] && Mo.opEq ⟨6, space, channel, user, text, toSpace, to, frm, most⟩ ⟨6, space, Mo.e0, Mo.e0, Mo.e0, Mo.e0, Mo.e0, 0, 0⟩) := rfl
  obtain ⟨r, hr⟩ : ∃ r, r = Mo.opEq ⟨6, space, channel, user, text, toSpace, to, frm, most⟩ ⟨6, space, Mo.e0, Mo.e0, Mo.e0, Mo.e0, Mo.e0, 0, 0⟩ := ⟨_, rfl⟩
  rw [← hr] at hm hEq
  have HM : Hid _ := hm
  clear hbz' hr hm hcu hcz hrow hbu hbZ o1 o2 o3 o4 o5 o6
  cases hq : Mo.labels [space] with
  | false =>
    rw [hq] at HL HM
    clear hq
    go_enter Try.func51, Try.ntmps51
    go_wp2_with fail
    rw [← hu, ← hz, ← hbz, ← hbx]
    clear hu hbx hz hbz
    refine Calls.mono HL.out ?_
    rintro e w1 ⟨rfl, rfl⟩
    go_wp2_with fail
    go_ret
    exact ⟨by rw [HM.out]; rfl, HB.out⟩
  | true =>
    rw [hq] at HL HM
    clear hq
    go_enter Try.func51, Try.ntmps51
    go_wp2_with fail
    rw [← hu, ← hz, ← hbz, ← hbx]
    clear hu hbx hz hbz
    refine Calls.mono HL.out ?_
    rintro e w1 ⟨rfl, rfl⟩
    go_wp2_with fail
    go_ret
    exact ⟨by rw [HM.out]; rfl, HB.out⟩

set_option maxHeartbeats 1600000 in
set_option maxRecDepth 20000 in
theorem mayBe_7 (space channel user text toSpace to : ByteArray) (frm most : Int) (ho : OpOk ⟨7, space, channel, user, text, toSpace, to, frm, most⟩) (w : World) : Calls Try.prog 51 #[.agg #[.int .i64 7, .string space, .string channel, .string user, .string text, .string toSpace, .string to, .int .i64 frm, .int .i64 most]] w fun e w' => e = .returned (.bool (Mo.may ⟨7, space, channel, user, text, toSpace, to, frm, most⟩)) ∧ Below w.heap.size w w' := by
  obtain ⟨o1, o2, o3, o4, o5, o6⟩ := ho
  dsimp only at o1 o2 o3 o4 o5 o6
  obtain ⟨u, hu⟩ : ∃ u, u = w.alloc (.cells #[.int .i64 7, .string space, .string channel, .string user, .string text, .string toSpace, .string to, .int .i64 frm, .int .i64 most] 37) := ⟨_, rfl⟩
  obtain ⟨bx, hbx⟩ : ∃ bx, bx = w.heap.size := ⟨_, rfl⟩
  obtain ⟨z, hz⟩ : ∃ z, z = u.alloc (.cells #[.string user] 9) := ⟨_, rfl⟩
  obtain ⟨bz, hbz⟩ : ∃ bz, bz = w.heap.size + 1 := ⟨_, rfl⟩
  have hbz' : bz = u.heap.size := by rw [hbz, hu]; simp
  have hbu : Below w.heap.size w u := by rw [hu]; exact below_alloc w _
  have hbZ : Below u.heap.size u z := by rw [hz]; exact below_alloc u _
  have HB : Hid (Below w.heap.size w z) := hbu.trans (hbZ.mono hbu.size)
  have hlx : bx < u.heap.size := by rw [hu, hbx]; simp
  have hcu : ∀ j, u.cell? ⟨bx, j, none⟩ = (#[.int .i64 7, .string space, .string channel, .string user, .string text, .string toSpace, .string to, .int .i64 frm, .int .i64 most] : Array Value)[j]? := fun j => by rw [hu, hbx]; exact World.cell?_alloc_mark w _ _ _ j
  have hcz : ∀ j, z.cell? ⟨bx, j, none⟩ = (#[.int .i64 7, .string space, .string channel, .string user, .string text, .string toSpace, .string to, .int .i64 frm, .int .i64 most] : Array Value)[j]? := fun j => (hbZ.cell (p := ⟨bx, j, none⟩) hlx).trans (hcu j)
  have hrow : TxRow z (.slice (some ⟨bz, 0, none⟩) 1 1) [user] := ⟨bz, 0, 1, rfl, Nat.le_refl _, by unfold maxLen; decide, fun j x hx => by
    have e : z.cell? ⟨bz, 0 + j, none⟩ = (#[.string user] : Array Value)[j]? := by rw [Nat.zero_add, hz, hbz']; exact World.cell?_alloc_mark u _ _ _ j
    rw [e]
    match j, hx with
    | 0, hx => (have hx : user = x := by simpa using hx); rw [hx]; rfl
    | j + 1, hx => simp at hx⟩
  have HL : Hid _ := areLabels_c hrow (fun x hx => by simp at hx; rcases hx with rfl <;> assumption) (by simp)
  have hEq : ∀ X : World, (binOp .eql 37 (.agg #[.int .i64 7, .string space, .string channel, .string user, .string text, .string toSpace, .string to, .int .i64 frm, .int .i64 most]) (.agg #[.int .i64 7, .string ⟨#[]⟩, .string ⟨#[]⟩, .string user, .string ⟨#[]⟩, .string ⟨#[]⟩, .string ⟨#[]⟩, .int .i64 0, .int .i64 0])).run Try.prog X = .ok (.bool (Mo.opEq ⟨7, space, channel, user, text, toSpace, to, frm, most⟩ ⟨7, Mo.e0, Mo.e0, user, Mo.e0, Mo.e0, Mo.e0, 0, 0⟩)) X := fun X => run_opEq ⟨7, space, channel, user, text, toSpace, to, frm, most⟩ ⟨7, Mo.e0, Mo.e0, user, Mo.e0, Mo.e0, Mo.e0, 0, 0⟩ X
  have u0 := hcu 0
  have u1 := hcu 1
  have u2 := hcu 2
  have u3 := hcu 3
  have u4 := hcu 4
  have u5 := hcu 5
  have u6 := hcu 6
  have u7 := hcu 7
  have u8 := hcu 8
  have z0 := hcz 0
  have z1 := hcz 1
  have z2 := hcz 2
  have z3 := hcz 3
  have z4 := hcz 4
  have z5 := hcz 5
  have z6 := hcz 6
  have z7 := hcz 7
  have z8 := hcz 8
  have hm : Mo.may ⟨7, space, channel, user, text, toSpace, to, frm, most⟩ = (Mo.labels [user] && Mo.opEq ⟨7, space, channel, user, text, toSpace, to, frm, most⟩ ⟨7, Mo.e0, Mo.e0, user, Mo.e0, Mo.e0, Mo.e0, 0, 0⟩) := rfl
  obtain ⟨r, hr⟩ : ∃ r, r = Mo.opEq ⟨7, space, channel, user, text, toSpace, to, frm, most⟩ ⟨7, Mo.e0, Mo.e0, user, Mo.e0, Mo.e0, Mo.e0, 0, 0⟩ := ⟨_, rfl⟩
  rw [← hr] at hm hEq
  have HM : Hid _ := hm
  clear hbz' hr hm hcu hcz hrow hbu hbZ o1 o2 o3 o4 o5 o6
  cases hq : Mo.labels [user] with
  | false =>
    rw [hq] at HL HM
    clear hq
    go_enter Try.func51, Try.ntmps51
    go_wp2_with fail
    rw [← hu, ← hz, ← hbz, ← hbx]
    clear hu hbx hz hbz
    refine Calls.mono HL.out ?_
    rintro e w1 ⟨rfl, rfl⟩
    go_wp2_with fail
    go_ret
    exact ⟨by rw [HM.out]; rfl, HB.out⟩
  | true =>
    rw [hq] at HL HM
    clear hq
    go_enter Try.func51, Try.ntmps51
    go_wp2_with fail
    rw [← hu, ← hz, ← hbz, ← hbx]
    clear hu hbx hz hbz
    refine Calls.mono HL.out ?_
    rintro e w1 ⟨rfl, rfl⟩
    go_wp2_with fail
    go_ret
    exact ⟨by rw [HM.out]; rfl, HB.out⟩

set_option maxHeartbeats 800000 in
set_option maxRecDepth 20000 in
theorem mayBe_no (kind : Int) (space channel user text toSpace to : ByteArray) (frm most : Int) (h1 : kind ≠ 1) (h2 : kind ≠ 2) (h3 : kind ≠ 3) (h4 : kind ≠ 4) (h5 : kind ≠ 5) (h6 : kind ≠ 6) (h7 : kind ≠ 7) (w : World) : Calls Try.prog 51 #[.agg #[.int .i64 kind, .string space, .string channel, .string user, .string text, .string toSpace, .string to, .int .i64 frm, .int .i64 most]] w fun e w' => e = .returned (.bool (Mo.may ⟨kind, space, channel, user, text, toSpace, to, frm, most⟩)) ∧ Below w.heap.size w w' := by
  have HM : Hid (Mo.may ⟨kind, space, channel, user, text, toSpace, to, frm, most⟩ = false) := by
    show _ = _
    unfold Mo.may
    simp [h1, h2, h3, h4, h5, h6, h7]
  have HB : Hid (∀ o, Below w.heap.size w (w.alloc o)) := fun o => below_alloc w o
  have q1 : (kind == 1) = false := by simpa using h1
  have q2 : (kind == 2) = false := by simpa using h2
  have q3 : (kind == 3) = false := by simpa using h3
  have q4 : (kind == 4) = false := by simpa using h4
  have q5 : (kind == 5) = false := by simpa using h5
  have q6 : (kind == 6) = false := by simpa using h6
  have q7 : (kind == 7) = false := by simpa using h7
  clear h1 h2 h3 h4 h5 h6 h7
  go_enter Try.func51, Try.ntmps51
  go_wp2
  go_ret
  exact ⟨by rw [HM.out]; rfl, HB.out _⟩

theorem mayBe_c (o : Mo.Op) (ho : OpOk o) (w : World) : Calls Try.prog 51 #[opV o] w fun e w' => e = .returned (.bool (Mo.may o)) ∧ Below w.heap.size w w' := by
  obtain ⟨kind, space, channel, user, text, toSpace, to, frm, most⟩ := o
  unfold opV
  dsimp only
  by_cases h1 : kind = 1
  · subst h1
    exact mayBe_1 space channel user text toSpace to frm most ho w
  by_cases h2 : kind = 2
  · subst h2
    exact mayBe_2 space channel user text toSpace to frm most ho w
  by_cases h3 : kind = 3
  · subst h3
    exact mayBe_3 space channel user text toSpace to frm most ho w
  by_cases h4 : kind = 4
  · subst h4
    exact mayBe_4 space channel user text toSpace to frm most ho w
  by_cases h5 : kind = 5
  · subst h5
    exact mayBe_5 space channel user text toSpace to frm most ho w
  by_cases h6 : kind = 6
  · subst h6
    exact mayBe_6 space channel user text toSpace to frm most ho w
  by_cases h7 : kind = 7
  · subst h7
    exact mayBe_7 space channel user text toSpace to frm most ho w
  exact mayBe_no kind space channel user text toSpace to frm most h1 h2 h3 h4 h5 h6 h7 w

end Go.Proofs.Ytepbmfjimppgcaa
