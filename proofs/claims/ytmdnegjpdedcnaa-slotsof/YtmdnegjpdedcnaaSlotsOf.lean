/-
  For every op: SlotsOf answers true: the slot of its channel, and those that it is about, are what the document's are; the argument reads afterwards as before. No condition.
-/
import Derived.Test.YtmdnegjpdedcnaaSlRSl
import Derived.Test.YtmdnegjpdedcnaaSlRMay
import Derived.Test.YtmdnegjpdedcnaaSlArg9
import Derived.Test.YtmdnegjpdedcnaaSlAwake
import Derived.ProofKit
import Derived.OpenShut
import Derived.ShutString
import Derived.SizedLaws
import Derived.Deep.RegionHeld
namespace Go.Proofs.Ytmdnegjpdedcnaa.slotsOf
open Go.ChangeShapes Go.WideShapes Go.ChangeAt Go.RowKit
open Go.ChangeMaps (open_string shut_string)

theorem rMay_c (kind : Int) (space channel user text toSpace to : ByteArray) (frm most : Int) (hsz : space.size ≤ 9223372036854775807 ∧ channel.size ≤ 9223372036854775807 ∧ user.size ≤ 9223372036854775807 ∧ text.size ≤ 9223372036854775807 ∧ toSpace.size ≤ 9223372036854775807 ∧ to.size ≤ 9223372036854775807) (w : World) : Calls Try.prog 30 #[.agg #[.int .i64 kind, .string space, .string channel, .string user, .string text, .string toSpace, .string to, .int .i64 frm, .int .i64 most]] w fun e w' => e = .returned (.bool (Mo.may ⟨kind, space, channel, user, text, toSpace, to, frm, most⟩)) ∧ Below w.heap.size w w' := by
  by_cases h1 : kind = 1
  · subst h1; exact rMay_1 space channel user text toSpace to frm most hsz w
  by_cases h2 : kind = 2
  · subst h2; exact rMay_2 space channel user text toSpace to frm most hsz w
  by_cases h3 : kind = 3
  · subst h3; exact rMay_3 space channel user text toSpace to frm most hsz w
  by_cases h4 : kind = 4
  · subst h4; exact rMay_4 space channel user text toSpace to frm most hsz w
  by_cases h5 : kind = 5
  · subst h5; exact rMay_5 space channel user text toSpace to frm most hsz w
  by_cases h6 : kind = 6
  · subst h6; exact rMay_6 space channel user text toSpace to frm most hsz w
  by_cases h7 : kind = 7
  · subst h7; exact rMay_7 space channel user text toSpace to frm most hsz w
  exact rMay_0 kind h1 h2 h3 h4 h5 h6 h7 space channel user text toSpace to frm most w

theorem gat_all : gat (fun _ => true) 16 = List.range 16 := by decide
theorem gat_one : ∀ a : Fin 16, gat (fun i => decide (i = a.val)) 16 = [a.val] := by decide
theorem gat_two : ∀ a b : Fin 16, gat (fun i => decide (i = a.val) || decide (i = b.val)) 16 = two a.val b.val := by decide +kernel
theorem slotOf_lt (x y : ByteArray) : slotOf x y < 16 := S.slot_lt _

theorem rSl_none (kind : Int) (space channel user text toSpace to : ByteArray) (frm most : Int) (w : World)
    (hm : ∀ X : World, Calls Try.prog 30 #[.agg #[.int .i64 kind, .string space, .string channel, .string user, .string text, .string toSpace, .string to, .int .i64 frm, .int .i64 most]] X fun e w' => e = .returned (.bool false) ∧ Below X.heap.size X w') : Calls Try.prog 12 #[.agg #[.int .i64 kind, .string space, .string channel, .string user, .string text, .string toSpace, .string to, .int .i64 frm, .int .i64 most]] w fun e w' => RSl w [] e w' := by
  have HM : Hid _ := hm
  have HB : Hid (∀ o X, Below (w.alloc o).heap.size (w.alloc o) X → Gl w X (.slice none 0 0) []) := fun o X hX => ⟨RowC.nil _ _ _, (below_alloc w o).trans (hX.mono (by simp)), fun k h => by simp [cBlk] at h⟩
  clear hm
  go_enter Try.func12, Try.ntmps12
  go_wp2_with fail
  refine (HM.out _).mono ?_
  rintro e X ⟨rfl, hX⟩
  have HX : Hid _ := HB.out _ _ hX
  clear hX
  go_wp2
  go_ret
  exact ⟨_, rfl, HX.out⟩

theorem rSlots_c (kind : Int) (space channel user text toSpace to : ByteArray) (frm most : Int) (hsz : space.size ≤ 9223372036854775807 ∧ channel.size ≤ 9223372036854775807 ∧ user.size ≤ 9223372036854775807 ∧ text.size ≤ 9223372036854775807 ∧ toSpace.size ≤ 9223372036854775807 ∧ to.size ≤ 9223372036854775807) (w : World) : Calls Try.prog 12 #[.agg #[.int .i64 kind, .string space, .string channel, .string user, .string text, .string toSpace, .string to, .int .i64 frm, .int .i64 most]] w fun e w' => RSl w (slotsL ⟨kind, space, channel, user, text, toSpace, to, frm, most⟩) e w' := by
  have hm := fun X : World => rMay_c kind space channel user text toSpace to frm most hsz X
  cases hM : Mo.may ⟨kind, space, channel, user, text, toSpace, to, frm, most⟩ with
  | false =>
    rw [hM] at hm
    have hL : slotsL ⟨kind, space, channel, user, text, toSpace, to, frm, most⟩ = [] := by unfold slotsL; rw [hM]; rfl
    rw [hL]
    exact rSl_none kind space channel user text toSpace to frm most w hm
  | true =>
    rw [hM] at hm
    obtain ⟨hl1, hl2, hl3⟩ := may_labels hM
    dsimp only at hl1 hl2 hl3
    have hL : slotsL ⟨kind, space, channel, user, text, toSpace, to, frm, most⟩ = if kind = 5 then two (slotOf space channel) (slotOf toSpace to) else if kind = 6 then List.range 16 else if kind = 7 then List.range 16 else [slotOf space channel] := by unfold slotsL; rw [hM]; rfl
    rw [hL]
    by_cases h5 : kind = 5
    · subst h5
      rw [if_pos rfl]
      have := rSl_five space channel user text toSpace to frm most _ _ (hl1 (by omega)) (hl2 rfl) rfl rfl hsz w hm
      rw [gat_two ⟨_, slotOf_lt space channel⟩ ⟨_, slotOf_lt toSpace to⟩] at this
      exact this
    · rw [if_neg h5]
      by_cases h6 : kind = 6
      · subst h6
        rw [if_pos rfl]
        have := rSl_six space channel user text toSpace to frm most hsz w hm
        rw [gat_all] at this
        exact this
      · rw [if_neg h6]
        by_cases h7 : kind = 7
        · subst h7
          rw [if_pos rfl]
          have := rSl_seven space channel user text toSpace to frm most hsz w hm
          rw [gat_all] at this
          exact this
        · rw [if_neg h7]
          have := rSl_low space channel user text toSpace to frm most kind (by simpa using h5) (by simpa using h6) (by simpa using h7) _ (hl1 (by omega)) rfl hsz w hm
          rw [gat_one ⟨_, slotOf_lt space channel⟩] at this
          exact this

/-- What a list reads like. -/
def Rd (X : World) (v : Value) (l : List Nat) : Prop := ∃ p c, v = .slice p l.length c ∧ ∀ i x, l[i]? = some x → ∃ g off, p = some ⟨g, off, none⟩ ∧ ∀ Y, Below X.heap.size X Y → Y.cell? ⟨g, off + i, none⟩ = some (.int .i64 ((x : Nat) : Int))
theorem Lst.rd {w X : World} {v : Value} {l : List Nat} (h : Lst w X v l) : Rd X v l := by
  obtain ⟨h1, ⟨rfl, rfl⟩ | ⟨g, c, rfl, hg, hc⟩⟩ := h
  · exact ⟨none, 0, rfl, fun i x hx => by simp at hx⟩
  · exact ⟨_, c, rfl, fun i x hx => ⟨g, 0, rfl, fun Y hY => by rw [Nat.zero_add]; exact (hY.cell (p := ⟨g, i, none⟩) hg).trans (hc i x hx)⟩⟩
theorem Gl.rd {w X : World} {v : Value} {l : List Nat} (h : Gl w X v l) : Rd X v l := by
  obtain ⟨p, c, hv, _⟩ := h.row.form
  refine ⟨p, c, hv, fun i x hx => ?_⟩
  obtain ⟨g, off, cc, hv2, _, _, _, hC⟩ := h.row.cells (by have := (List.getElem?_eq_some_iff.1 hx).1; omega)
  have hlt := h.row.lt (by decide) (k := g) (by rw [hv2]; rfl)
  rw [hv] at hv2
  injection hv2 with hp
  refine ⟨g, off, hp, fun Y hY => (hY.cell (p := ⟨g, off + i, none⟩) hlt).trans (hC i _ ?_)⟩
  unfold natCells
  rw [List.getElem?_map, hx]
  rfl
theorem Rd.below {X Y : World} {v : Value} {l : List Nat} (h : Rd X v l) (hb : Below X.heap.size X Y) : Rd Y v l := by
  obtain ⟨p, c, hv, hc⟩ := h
  refine ⟨p, c, hv, fun i x hx => ?_⟩
  obtain ⟨g, off, hp, hY⟩ := hc i x hx
  exact ⟨g, off, hp, fun Z hZ => hY Z (hb.trans (hZ.mono hb.size))⟩

set_option maxHeartbeats 3200000 in
set_option maxRecDepth 20000 in
theorem walk (a0 : Mo.Op) (w : World) (b0 : Op9In a0) :
    Calls Try.prog 3 #[.agg #[.int .i64 a0.kind, .string a0.space, .string a0.channel, .string a0.user, .string a0.text, .string a0.toSpace, .string a0.to, .int .i64 a0.frm, .int .i64 a0.most]] w fun e w' => e = .returned (.bool true) ∧ Below w.heap.size w w' := by
  have HA : Hid (∀ u : World, Calls Try.prog 13 #[] u fun e w' => e = .returned (.bool true) ∧ Below u.heap.size u w') := awake_c
  have hOk := b0.1
  obtain ⟨kind, space, channel, user, text, toSpace, to, frm, most⟩ := a0
  have hsz : space.size ≤ 9223372036854775807 ∧ channel.size ≤ 9223372036854775807 ∧ user.size ≤ 9223372036854775807 ∧ text.size ≤ 9223372036854775807 ∧ toSpace.size ≤ 9223372036854775807 ∧ to.size ≤ 9223372036854775807 := by
    obtain ⟨o1, o2, o3, o4, o5, o6⟩ := hOk
    unfold Ok maxLen at o1 o2 o3 o4 o5 o6
    dsimp only at o1 o2 o3 o4 o5 o6
    omega
  dsimp only
  obtain ⟨sl, hsl⟩ : ∃ sl, sl = slotsL ⟨kind, space, channel, user, text, toSpace, to, frm, most⟩ := ⟨_, rfl⟩
  obtain ⟨n, hn⟩ : ∃ n, n = sl.length := ⟨_, rfl⟩
  obtain ⟨u, hu⟩ : ∃ u, u = w.alloc (.cells #[.int .i64 kind, .string space, .string channel, .string user, .string text, .string toSpace, .string to, .int .i64 frm, .int .i64 most] 23) := ⟨_, rfl⟩
  obtain ⟨bx, hbx⟩ : ∃ bx, bx = w.heap.size := ⟨_, rfl⟩
  have HBu : Hid (Below w.heap.size w u) := by rw [hu]; exact below_alloc w _
  have hlx : bx < u.heap.size := by rw [hu, hbx]; simp
  have HK : Hid (∀ W, Below u.heap.size u W → ∀ j, W.cell? ⟨bx, j, none⟩ = (#[.int .i64 kind, .string space, .string channel, .string user, .string text, .string toSpace, .string to, .int .i64 frm, .int .i64 most] : Array Value)[j]?) := fun W hW j => by
    rw [hW.cell (p := ⟨bx, j, none⟩) hlx, hu, hbx]
    exact World.cell?_alloc_mark w _ _ _ j
  obtain ⟨oa, ea, hO⟩ : ∃ oa ea : Int, (∀ X, Calls Try.prog 9 #[.string space, .string channel] X fun e w' => e = .returned (.tuple #[.int .i64 oa, .int .i64 ea]) ∧ Below X.heap.size X w') ∧ ∀ X, Calls Try.prog 10 #[.string space, .string channel] X fun e w' => e = .returned (.tuple #[.int .i64 oa, .int .i64 ea]) ∧ w' = X := ⟨_, _, fun X => Of_c space channel hsz.1 hsz.2.1 X, fun X => rOf_c space channel hsz.1 hsz.2.1 X⟩
  have HO1 : Hid _ := hO.1 u
  have HO2 : Hid _ := hO.2
  have HS1 : Hid (∀ X, Below u.heap.size u X → Calls Try.prog 11 #[.agg #[.int .i64 kind, .string space, .string channel, .string user, .string text, .string toSpace, .string to, .int .i64 frm, .int .i64 most]] X fun e Y => ∃ p c, e = .returned (.slice p n c) ∧ Rd Y (.slice p n c) sl ∧ Below X.heap.size X Y) := fun X _ => by
    refine (SlotsP_c ⟨kind, space, channel, user, text, toSpace, to, frm, most⟩ hOk X).mono ?_
    rintro e Y ⟨v, rfl, hv⟩
    have hb := hv.1
    have hr := Lst.rd hv
    rw [← hsl] at hr
    have hr2 := hr
    obtain ⟨p, c, hv2, _⟩ := hr2
    exact ⟨p, c, by rw [hv2, hn], by rw [hn, ← hv2]; exact hr, hb⟩
  have HS2 : Hid (∀ X, Below u.heap.size u X → Calls Try.prog 12 #[.agg #[.int .i64 kind, .string space, .string channel, .string user, .string text, .string toSpace, .string to, .int .i64 frm, .int .i64 most]] X fun e Y => ∃ p c, e = .returned (.slice p n c) ∧ Rd Y (.slice p n c) sl ∧ Below X.heap.size X Y) := fun X _ => by
    refine (rSlots_c kind space channel user text toSpace to frm most hsz X).mono ?_
    rintro e Y ⟨v, rfl, hv⟩
    have hb := hv.old
    rw [← hsl] at hv
    have hr := Gl.rd hv
    have hr2 := hr
    obtain ⟨p, c, hv2, _⟩ := hr2
    exact ⟨p, c, by rw [hv2, hn], by rw [hn, ← hv2]; exact hr, hb⟩
  have hn16 : n ≤ 16 := by
    rw [hn, hsl]
    unfold slotsL
    split
    · split
      · unfold two; split
        · simp
        · split <;> simp
      · split
        · simp
        · split <;> simp
    · simp
  have HN : Hid (n = sl.length) := hn
  have u1 := HK.out u (Below.refl _ _) 1
  have u2 := HK.out u (Below.refl _ _) 2
  clear hn hsl hlx hO hsz hOk b0
  go_enter Try.func3, Try.ntmps3
  go_wp2_with fail
  rw [← hu]
  try rw [← hbx]
  clear hu hbx
  refine Calls.mono HO1.out ?_
  rintro e X ⟨rfl, hX⟩
  have HX : Hid (Below u.heap.size u X) := hX
  have x1 := HK.out X hX 1
  have x2 := HK.out X hX 2
  clear hX u1 u2
  go_wp2_with fail
  refine (HO2.out X).mono ?_
  rintro e X2 ⟨rfl, h2⟩
  have h2 := h2.symm
  subst h2
  have HW0 : Hid (Below u.heap.size u X.drew) := HX.out.drew
  have HKp : Hid (∀ W, Below u.heap.size u W → W.cell? ⟨bx, 0, none⟩ = some (.int .i64 kind) ∧ W.cell? ⟨bx, 1, none⟩ = some (.string space) ∧ W.cell? ⟨bx, 2, none⟩ = some (.string channel) ∧ W.cell? ⟨bx, 3, none⟩ = some (.string user) ∧ W.cell? ⟨bx, 4, none⟩ = some (.string text) ∧ W.cell? ⟨bx, 5, none⟩ = some (.string toSpace) ∧ W.cell? ⟨bx, 6, none⟩ = some (.string to) ∧ W.cell? ⟨bx, 7, none⟩ = some (.int .i64 frm) ∧ W.cell? ⟨bx, 8, none⟩ = some (.int .i64 most)) := fun W hW => ⟨HK.out W hW 0, HK.out W hW 1, HK.out W hW 2, HK.out W hW 3, HK.out W hW 4, HK.out W hW 5, HK.out W hW 6, HK.out W hW 7, HK.out W hW 8⟩
  clear x1 x2
  go_wp2
  go_region_held (fun W => W.cell? ⟨bx, 0, none⟩ = some (.int .i64 kind) ∧ W.cell? ⟨bx, 1, none⟩ = some (.string space) ∧ W.cell? ⟨bx, 2, none⟩ = some (.string channel) ∧ W.cell? ⟨bx, 3, none⟩ = some (.string user) ∧ W.cell? ⟨bx, 4, none⟩ = some (.string text) ∧ W.cell? ⟨bx, 5, none⟩ = some (.string toSpace) ∧ W.cell? ⟨bx, 6, none⟩ = some (.string to) ∧ W.cell? ⟨bx, 7, none⟩ = some (.int .i64 frm) ∧ W.cell? ⟨bx, 8, none⟩ = some (.int .i64 most))
    (first | with_reducible exact HKp.out _ HWZ.out | with_reducible exact HKp.out _ HW1.out | with_reducible exact HKp.out _ HW2.out | with_reducible exact HKp.out _ HW0.out)
    (first
      | (go_at_call 11; refine (HS1.out _ HW2.out).mono ?_; rintro e wZ ⟨p1, d1, rfl, hr1, hb1⟩; have HR1 : Hid (Rd wZ (.slice p1 n d1) sl) := hr1; have HR3 : Hid (Rd wZ (.slice p2 n d2) sl) := Rd.below HR2.out hb1; have HWZ : Hid (Below u.heap.size u wZ) := HW2.out.trans (hb1.mono HW2.out.size); clear hr1 hb1)
      | (go_at_call 11; refine (HS1.out _ HW0.out).mono ?_; rintro e w1 ⟨p1, d1, rfl, hr1, hb1⟩; have HR2 : Hid (Rd w1 (.slice p1 n d1) sl) := hr1; have HW1 : Hid (Below u.heap.size u w1) := HW0.out.trans (hb1.mono HW0.out.size); clear hr1 hb1)
      | (go_at_call 12; refine (HS2.out _ HW1.out).mono ?_; rintro e wZ ⟨p2, d2, rfl, hr2, hb2⟩; have HR3 : Hid (Rd wZ (.slice p2 n d2) sl) := hr2; have HR1 : Hid (Rd wZ (.slice p1 n d1) sl) := Rd.below HR2.out hb2; have HWZ : Hid (Below u.heap.size u wZ) := HW1.out.trans (hb2.mono HW1.out.size); clear hr2 hb2)
      | (go_at_call 12; refine (HS2.out _ HW0.out).mono ?_; rintro e w2 ⟨p2, d2, rfl, hr2, hb2⟩; have HR2 : Hid (Rd w2 (.slice p2 n d2) sl) := hr2; have HW2 : Hid (Below u.heap.size u w2) := HW0.out.trans (hb2.mono HW0.out.size); clear hr2 hb2))
  all_goals
    have HL : Hid (∀ i, i < n → ∃ x g off g' off', p1 = some ⟨g, off, none⟩ ∧ p2 = some ⟨g', off', none⟩ ∧ ∀ Y, Below wZ.heap.size wZ Y → Y.cell? ⟨g, off + i, none⟩ = some (.int .i64 ((x : Nat) : Int)) ∧ Y.cell? ⟨g', off' + i, none⟩ = some (.int .i64 ((x : Nat) : Int))) := by
      intro i hi
      obtain ⟨x, hx⟩ : ∃ x, sl[i]? = some x := ⟨_, List.getElem?_eq_getElem (by rw [← HN.out]; exact hi)⟩
      obtain ⟨q1, c1, hv1, h1⟩ := HR1.out
      obtain ⟨q2, c2, hv2, h2⟩ := HR3.out
      obtain ⟨g, off, e1, f1⟩ := h1 i x hx
      obtain ⟨g', off', e2, f2⟩ := h2 i x hx
      injection hv1 with hp1
      injection hv2 with hp2
      exact ⟨x, g, off, g', off', hp1.trans e1, hp2.trans e2, fun Y hY => ⟨f1 Y hY, f2 Y hY⟩⟩
    clear HS1 HS2 HW0 HR1 HR2 HR3 HKp HK HO1 HO2
    go_wp2
    go_loopw [9] (fun iv wr => ∃ m : Nat, iv = .int .i64 (m : Int) ∧ m ≤ n ∧ Hid (Below wZ.heap.size wZ wr)) (fun iv _ => 16 - (intOf iv).toNat)
    case atStart => exact ⟨0, rfl, by omega, Below.refl _ _⟩
    case round =>
      obtain ⟨m, rfl, hmn, HB⟩ := hrel
      by_cases hm : m < n
      · obtain ⟨x, g, off, g', off', hp, hp', hc⟩ := HL.out m hm
        subst hp hp'
        obtain ⟨x0, y0⟩ := hc wr HB.out
        clear hc HL
        go_wp2
        go_region
        go_wp2
        go_roundw
        case rel => exact ⟨m + 1, by go_num, by omega, HB.out.drew⟩
        case measure => simp [intOf]; omega
      · obtain rfl : m = n := by omega
        have HE : Hid (Below w.heap.size w wr) := (HBu.out.trans (HWZ.out.mono HBu.out.size)).trans (HB.out.mono (Nat.le_trans HBu.out.size HWZ.out.size))
        clear hm hmn HL
        go_wp2_with fail
        refine (HA.out _).mono ?_
        rintro e w5 ⟨rfl, hb5⟩
        have HB5 : Hid _ := hb5
        clear hb5
        go_wp2
        go_ret
        exact ⟨rfl, HE.out.trans (HB5.out.mono HE.out.size)⟩

theorem laidOut : laidOutB Try.prog = true := by kernel_rfl

theorem own : ownKnob Try.prog.godebug = none := by kernel_rfl

set_option maxRecDepth 100000 in
theorem lifted (os : Os) (started : os.Started) (H : Type) (enc : TypeId × Value → H) :
    ReturnsInHanded {} Try.checked os 3 .any (Rows.slotsOfSpec.pre6 enc Try.prog Try.f3 Rows.slotsOfRow.domain false) (Rows.slotsOfSpec.post enc Try.prog Try.f3 false true false false) := by
  refine returnsInHanded_of_change_sized (C := Try.checked) own started (by kernel_rfl) Try.func3
    (ChangeSpec.witness6 (enc := enc) (C := Try.checked) false ⟨#[], #[.agg #[.int .i64 0, .string ByteArray.empty, .string ByteArray.empty, .string ByteArray.empty, .string ByteArray.empty, .string ByteArray.empty, .string ByteArray.empty, .int .i64 0, .int .i64 0]], []⟩ 8 (by kernel_rfl) (by kernel_rfl) (by kernel_rfl) (by kernel_rfl)) ?_
  intro W base args ds gs before hval0 hW _ hsz0 _
  have hsz : (DataW.weightsEach Try.prog (Try.f3.params.toList ++ Rows.slotsOfSpec.plain.varTypes Try.prog) (ds ++ gs)).all (· ≤ reachBytes) = true := hsz0
  have hval : ∀ (j : Nat) t v, Try.f3.params[j]? = some t → args[j]? = some v → Value.okWide Try.prog W .any base t v := hval0
  have hW' := hW
  obtain ⟨p, q, hA0, hV, rfl, hfz, hnd⟩ := hW
  have hA : DataW.TrodAll enc Try.prog W 0 (fun _ => true) true Try.f3.params.toList args.toList ds p := hA0
  rw [Try.params3] at hA hval hsz
  obtain ⟨v0, vs0, d0, ds0, p0, q0, hargs, rfl, rfl, h0, r0⟩ := trodAll_cons hA
  obtain ⟨rfl, rfl, rfl⟩ := trodAll_nil r0
  obtain rfl : args = #[v0] := by cases args; simp_all
  obtain ⟨rfl, rfl⟩ := trodVars_none hV
  have k0 := h0
  have lt0 : ∀ x ∈ p0, x.block < W.heap.size := by obtain ⟨m, hm⟩ := k0; exact DataW.trod_lt m _ _ _ hm
  obtain ⟨a0, rfl, b0⟩ := open_op9 (hval 0 23 v0 rfl rfl) h0
  clear hA0 hval0 hsz0
  refine (walk a0 W b0).mono fun e W' ⟨he, bel⟩ => ?_
  subst he
  exact ⟨_, rfl, _, _, _, [], _, [], hW', trodAll_mk1 (shut_bool Try.underlying4 _), (trodAll_cons_mk (Below.trod laidOut (by kernel_rfl) (of_decide_eq_true (by kernel_rfl)) k0 bel lt0) trodAll_mk0), rfl, bel.frame _, fun h => by cases h⟩

theorem over : Rows.slotsOfRow.holds Try.pinned (OpenSpec.ofChange Rows.slotsOfSpec) :=
  OpenClaim.holds_of_wide 3 Try.f3 rfl rfl rfl rfl rfl rfl rfl ⟨rfl, rfl, rfl, rfl, rfl⟩ rfl rfl rfl rfl rfl (by kernel_rfl) Try.func3 (by kernel_rfl)
    (of_decide_eq_true (by kernel_rfl)) (by unfold Func.isWrapper; first | (rw [if_pos (by decide +kernel)]; kernel_rfl) | (rw [if_neg (by decide +kernel)]; exact ⟨rfl, rfl⟩))
    (fun os started H enc _ => lifted os started H enc)


end Go.Proofs.Ytmdnegjpdedcnaa.slotsOf
namespace Go.Proofs.Ytmdnegjpdedcnaa
/-- The statement. -/
theorem slotsOf_holds : Rows.SlotsOfSaid := slotsOf.over
end Go.Proofs.Ytmdnegjpdedcnaa
