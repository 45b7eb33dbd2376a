/-
  The slots that an op is about: the program's.
-/
import Derived.Test.YtepbmfjimppgcaaSlOf
import Derived.Test.YtepbmfjimppgcaaSlRis2
import Derived.Deep.RegionHeld
namespace Go.Proofs.Ytepbmfjimppgcaa
open Go.RowKit

/-- The slots that an op is about. -/
def slotsL (o : Mo.Op) : List Nat := if Mo.may o = true then (if o.kind = 5 then two (slotOf o.space o.channel) (slotOf o.toSpace o.to) else if o.kind = 6 then List.range 16 else if o.kind = 7 then List.range 16 else [slotOf o.space o.channel]) else []

theorem may_labels {o : Mo.Op} (h : Mo.may o = true) : (o.kind = 1 ∨ o.kind = 2 ∨ o.kind = 3 ∨ o.kind = 4 ∨ o.kind = 5 → ofE o.space o.channel = true) ∧ (o.kind = 5 → ofE o.toSpace o.to = true) ∧ (1 ≤ o.kind ∧ o.kind ≤ 7) := by
  unfold Mo.may at h
  unfold ofE
  split at h
  · rename_i hk
    simp [Mo.labels] at h
    refine ⟨fun _ => by simp [h.1], fun e => by omega, by omega⟩
  · split at h
    · rename_i hk
      simp [Mo.labels] at h
      refine ⟨fun _ => by simp [h.1], fun e => by omega, by omega⟩
    · split at h
      · rename_i hk
        simp [Mo.labels] at h
        refine ⟨fun _ => by simp [h.1], fun e => by omega, by omega⟩
      · split at h
        · rename_i hk
          simp [Mo.labels] at h
          refine ⟨fun _ => by simp [h.1], fun e => by omega, by omega⟩
        · split at h
          · rename_i hk
            simp [Mo.labels] at h
            refine ⟨fun _ => by simp [h.1], fun _ => by simp [h.1], by omega⟩
          · split at h
            · refine ⟨fun e => by omega, fun e => by omega, by omega⟩
            · split at h
              · refine ⟨fun e => by omega, fun e => by omega, by omega⟩
              · cases h

theorem ofE_size {x y : ByteArray} (h : ofE x y = true) : x.size ≤ 1000 ∧ y.size ≤ 1000 := by
  unfold ofE at h
  simp at h
  have := Mo.label_size h.1
  have := Mo.label_size h.2
  omega

set_option maxHeartbeats 1600000 in
set_option maxRecDepth 20000 in
theorem SlotsP_c (o : Mo.Op) (ho : OpOk o) (w : World) : Calls Try.prog 45 #[opV o] w fun e w' => ∃ v, e = .returned v ∧ Lst w w' v (slotsL o) := by
  obtain ⟨u, hu⟩ : ∃ u, u = w.alloc (.cells #[.int .i64 o.kind, .string o.space, .string o.channel, .string o.user, .string o.text, .string o.toSpace, .string o.to, .int .i64 o.frm, .int .i64 o.most] 37) := ⟨_, rfl⟩
  obtain ⟨bx, hbx⟩ : ∃ bx, bx = w.heap.size := ⟨_, rfl⟩
  have hbu : Below w.heap.size w u := by rw [hu]; exact sl_below_alloc w _
  have hlx : bx < u.heap.size := by rw [hu, hbx]; simp
  have hcu : ∀ j, u.cell? ⟨bx, j, none⟩ = (#[.int .i64 o.kind, .string o.space, .string o.channel, .string o.user, .string o.text, .string o.toSpace, .string o.to, .int .i64 o.frm, .int .i64 o.most] : Array Value)[j]? := fun j => by rw [hu, hbx]; exact World.cell?_alloc_mark w _ _ _ j
  have HC : Hid (Calls Try.prog 33 #[.agg #[.int .i64 o.kind, .string o.space, .string o.channel, .string o.user, .string o.text, .string o.toSpace, .string o.to, .int .i64 o.frm, .int .i64 o.most]] u fun e X => e = .returned (.int .i64 (if Mo.may o = true then 0 else 1)) ∧ Below w.heap.size w X ∧ ∀ j, X.cell? ⟨bx, j, none⟩ = (#[.int .i64 o.kind, .string o.space, .string o.channel, .string o.user, .string o.text, .string o.toSpace, .string o.to, .int .i64 o.frm, .int .i64 o.most] : Array Value)[j]?) := by
    refine (Check_c o ho u).mono ?_
    rintro e X ⟨rfl, hX⟩
    exact ⟨rfl, hbu.trans (hX.mono hbu.size), fun j => (hX.cell (p := ⟨bx, j, none⟩) hlx).trans (hcu j)⟩
  have u0 := hcu 0
  have u1 := hcu 1
  have u2 := hcu 2
  have u3 := hcu 3
  have u4 := hcu 4
  have u5 := hcu 5
  have u6 := hcu 6
  have u7 := hcu 7
  have u8 := hcu 8
  unfold opV
  have hlab := may_labels (o := o)
  obtain ⟨kind, space, channel, user, text, toSpace, to, frm, most⟩ := o
  dsimp only at *
  cases hM : Mo.may ⟨kind, space, channel, user, text, toSpace, to, frm, most⟩ with
  | false =>
    have hL : slotsL ⟨kind, space, channel, user, text, toSpace, to, frm, most⟩ = [] := by unfold slotsL; rw [hM]; rfl
    rw [hM] at HC
    rw [hL]
    clear hM hL hlab hcu hlx hbu ho
    go_enter Try.func45, Try.ntmps45
    go_wp2_with fail
    rw [← hu]
    try rw [← hbx]
    clear hu hbx
    refine Calls.mono HC.out ?_
    rintro e X ⟨rfl, hX, -⟩
    have HX : Hid _ := hX
    clear hX
    go_wp2
    go_ret
    exact ⟨_, rfl, HX.out, .inl ⟨rfl, rfl⟩⟩
  | true =>
    obtain ⟨hl1, hl2, hl3⟩ := hlab hM
    have hL : slotsL ⟨kind, space, channel, user, text, toSpace, to, frm, most⟩ = if kind = 5 then two (slotOf space channel) (slotOf toSpace to) else if kind = 6 then List.range 16 else if kind = 7 then List.range 16 else [slotOf space channel] := by unfold slotsL; rw [hM]; rfl
    rw [hM] at HC
    rw [hL]
    clear hM hL hlab hcu hlx hbu ho
    by_cases h6 : kind = 6 ∨ kind = 7
    · have HE : Hid (∀ X, Below w.heap.size w X → Calls Try.prog 62 #[] X fun e w' => ∃ v, e = .returned v ∧ Lst w w' v (List.range 16)) := fun X hX => by
        refine (every_c X).mono ?_
        rintro e w' ⟨v, rfl, h1, h2⟩
        exact ⟨v, rfl, hX.trans (h1.mono hX.size), h2⟩
      rcases h6 with h6 | h6
      all_goals
        subst h6
        rw [if_neg (by decide)]
        try rw [if_neg (by decide)]
        rw [if_pos rfl]
        clear hl1 hl2 hl3
        go_enter Try.func45, Try.ntmps45
        go_wp2_with fail
        rw [← hu]
        try rw [← hbx]
        clear hu hbx
        refine Calls.mono HC.out ?_
        rintro e X ⟨rfl, hX, hc⟩
        have x0 := hc 0
        have HX : Hid _ := HE.out X hX
        clear hX hc
        go_wp2_with fail
        refine Calls.mono HX.out ?_
        rintro e Y ⟨v, rfl, hv⟩
        have HV : Hid _ := hv
        clear hv
        go_wp2
        go_ret
        exact ⟨v, rfl, HV.out⟩
    · by_cases h5 : kind = 5
      · subst h5
        rw [if_pos rfl]
        have hof := hl1 (by omega)
        have hof2 := hl2 rfl
        have hsz := ofE_size hof
        have hsz2 := ofE_size hof2
        have HH : Hid (∀ X, Calls Try.prog 61 #[.string space, .string channel] X fun e w' => e = .returned (.int .i64 (slotOf space channel : Int)) ∧ w' = X) := fun X => hashed_c space channel hsz.1 hsz.2 X
        have HH2 : Hid (∀ X, Calls Try.prog 61 #[.string toSpace, .string to] X fun e w' => e = .returned (.int .i64 (slotOf toSpace to : Int)) ∧ w' = X) := fun X => hashed_c toSpace to hsz2.1 hsz2.2 X
        obtain ⟨r, hr⟩ : ∃ r, r = slotOf space channel := ⟨_, rfl⟩
        obtain ⟨q, hq⟩ : ∃ q, q = slotOf toSpace to := ⟨_, rfl⟩
        rw [← hr, ← hq]
        rw [← hr] at HH
        rw [← hq] at HH2
        clear hl1 hl2 hl3 h6 hof hof2 hsz hsz2 hr hq
        go_enter Try.func45, Try.ntmps45
        go_wp2_with fail
        rw [← hu]
        try rw [← hbx]
        clear hu hbx
        refine Calls.mono HC.out ?_
        rintro e X ⟨rfl, hX, hc⟩
        have x0 := hc 0
        have x1 := hc 1
        have x2 := hc 2
        have x5 := hc 5
        have x6 := hc 6
        have hbl := World.block_lt_of_cell? X ⟨bx, 0, none⟩ x0
        have HSw : Hid (∀ W, Below X.heap.size X W → W.cell? ⟨bx, 1, none⟩ = some (.string space) ∧ W.cell? ⟨bx, 2, none⟩ = some (.string channel) ∧ W.cell? ⟨bx, 5, none⟩ = some (.string toSpace) ∧ W.cell? ⟨bx, 6, none⟩ = some (.string to)) := fun W hW => ⟨(hW.cell (p := ⟨bx, 1, none⟩) hbl).trans x1, (hW.cell (p := ⟨bx, 2, none⟩) hbl).trans x2, (hW.cell (p := ⟨bx, 5, none⟩) hbl).trans x5, (hW.cell (p := ⟨bx, 6, none⟩) hbl).trans x6⟩
        have HR : Hid (Calls Try.prog 60 #[.slice (some ⟨X.heap.size, 0, none⟩) 2 2] (X.alloc (.cells #[.int .i64 (r : Int), .int .i64 (q : Int)] 3)).drew fun e w' => ∃ v, e = .returned v ∧ Lst w w' v (two r q) ∧ Below X.heap.size X w') := by
          have h1 := rising_2 X.drew X.drew (Below.refl _ _) r q
          refine Calls.mono h1 ?_
          rintro e w' ⟨v, rfl, h2, h3⟩
          have h4 : Below X.heap.size X w' := (below_drew X).trans h2
          exact ⟨v, rfl, ⟨hX.trans (h4.mono hX.size), h3⟩, h4⟩
        have HK0 : Hid (Below X.heap.size X X.drew) := below_drew X
        have HK1 : Hid (Below X.heap.size X (X.alloc (.cells #[.int .i64 (r : Int), .int .i64 (q : Int)] 3)).drew) := (sl_below_alloc X _).drew
        clear hX hc hbl
        go_wp2
        go_region_held (fun W => W.cell? ⟨bx, 1, none⟩ = some (.string space) ∧ W.cell? ⟨bx, 2, none⟩ = some (.string channel) ∧ W.cell? ⟨bx, 5, none⟩ = some (.string toSpace) ∧ W.cell? ⟨bx, 6, none⟩ = some (.string to))
          (first | with_reducible exact HSw.out _ HK0.out | with_reducible exact HSw.out _ HK1.out | with_reducible exact HSw.out _ HK2.out)
          (first
            | (go_at_call_of 61 space; refine (HH.out _).mono ?_; rintro e Y ⟨rfl, hY⟩; have hY := hY.symm; subst hY)
            | (go_at_call_of 61 toSpace; refine (HH2.out _).mono ?_; rintro e Y ⟨rfl, hY⟩; have hY := hY.symm; subst hY)
            | (go_at_call 60; refine Calls.mono HR.out ?_; rintro e Y ⟨v, rfl, hv, hk2⟩; have HV : Hid _ := hv; have HK2 : Hid (Below X.heap.size X Y) := hk2; clear hv hk2))
        all_goals
          go_wp2
          go_ret
          exact ⟨v, rfl, HV.out⟩
      · have hof := hl1 (by omega)
        have hsz := ofE_size hof
        have HH : Hid (∀ X, Calls Try.prog 61 #[.string space, .string channel] X fun e w' => e = .returned (.int .i64 (slotOf space channel : Int)) ∧ w' = X) := fun X => hashed_c space channel hsz.1 hsz.2 X
        rw [if_neg h5, if_neg (fun e => h6 (.inl e)), if_neg (fun e => h6 (.inr e))]
        obtain ⟨r, hr⟩ : ∃ r, r = slotOf space channel := ⟨_, rfl⟩
        rw [← hr] at HH ⊢
        have k5 : (kind == 5) = false := by simpa using h5
        have k6 : (kind == 6) = false := by simpa using fun e : kind = 6 => h6 (.inl e)
        have k7 : (kind == 7) = false := by simpa using fun e : kind = 7 => h6 (.inr e)
        have HR : Hid (∀ X, Below w.heap.size w X → Calls Try.prog 60 #[.slice (some ⟨X.heap.size, 0, none⟩) 1 1] (X.alloc (.cells #[.int .i64 (r : Int)] 3)) fun e w' => ∃ v, e = .returned v ∧ Lst w w' v [r]) := fun X hX => rising_1 w X hX r
        clear hl1 hl2 hl3 h5 h6 hof hsz hr
        go_enter Try.func45, Try.ntmps45
        go_wp2_with fail
        rw [← hu]
        try rw [← hbx]
        clear hu hbx
        refine Calls.mono HC.out ?_
        rintro e X ⟨rfl, hX, hc⟩
        have x0 := hc 0
        have x1 := hc 1
        have x2 := hc 2
        have HX : Hid _ := HR.out X hX
        clear hX hc
        go_wp2_with fail
        refine (HH.out X).mono ?_
        rintro e Y ⟨rfl, hY⟩
        have hY := hY.symm
        subst hY
        go_wp2_with fail
        refine Calls.mono HX.out ?_
        rintro e Y2 ⟨v, rfl, hv⟩
        have HV : Hid _ := hv
        clear hv
        go_wp2
        go_ret
        exact ⟨v, rfl, HV.out⟩

end Go.Proofs.Ytepbmfjimppgcaa
