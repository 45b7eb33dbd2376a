/-
  New; a letter is put.
-/
import Derived.Test.YtpopanfefpehnaaNnAdd
import Derived.Test.YtpopanfefpehnaaClone
namespace Go.Proofs.Ytpopanfefpehnaa
open Go.RowKit

theorem New_bad (most : Int) (h : most < 1 ∨ most > 4096) (w : World) : Calls Try.prog 9 #[.int .i64 most] w fun e w' => e = .returned (.tuple #[.pointer none, .int .i64 1]) ∧ w' = w := by
  by_cases h1 : most < 1
  · clear h
    go_enter Try.func9, Try.ntmps9
    go_wp2
    exact bodyPost_ret (v := .tuple #[.pointer none, .int .i64 1]) (by simp [results, Try.results9, go_sem]) rfl ⟨rfl, rfl⟩
  · have h2 : most > 4096 := by omega
    clear h
    go_enter Try.func9, Try.ntmps9
    go_wp2
    exact bodyPost_ret (v := .tuple #[.pointer none, .int .i64 1]) (by simp [results, Try.results9, go_sem]) rfl ⟨rfl, rfl⟩

theorem New_yes (most : Int) (h : 1 ≤ most ∧ most ≤ 4096) (w : World) : Calls Try.prog 9 #[.int .i64 most] w fun e w' => e = .returned (.tuple #[.pointer (some ⟨w.heap.size + 1, 0, none⟩), .int .i64 0]) ∧
    Nn w' (w.heap.size + 1) ⟨most, []⟩ (fun k => w.heap.size ≤ k ∧ k < w'.heap.size ∧ k ≠ w.heap.size + 1) 0 ∧ Below w.heap.size w w' := by
  have h1 : ¬ most < 1 := by omega
  have h2 : ¬ most > 4096 := by omega
  obtain ⟨u, hu⟩ : ∃ u, u = (w.alloc (.map #[] 0)).alloc (.cells #[.int .i64 most, .slice none 0 0, .map (some w.heap.size), .int .i64 0] 75) := ⟨_, rfl⟩
  have HN : Hid (Nn u (w.heap.size + 1) ⟨most, []⟩ (fun k => w.heap.size ≤ k ∧ k < u.heap.size ∧ k ≠ w.heap.size + 1) 0 ∧ Below w.heap.size w u) := by
    have hs : u.heap.size = w.heap.size + 2 := by rw [hu]; simp
    have hb : Below w.heap.size w u := by rw [hu]; exact (below_alloc w _).trans ((below_alloc _ _).mono (by simp))
    have hcs : ∀ j, u.cell? ⟨w.heap.size + 1, j, none⟩ = (#[.int .i64 most, .slice none 0 0, .map (some w.heap.size), .int .i64 0] : Array Value)[j]? := fun j => by
      have e := World.cell?_alloc_mark (w.alloc (.map #[] 0)) #[.int .i64 most, .slice none 0 0, .map (some w.heap.size), .int .i64 0] 75 (0, 0) j
      have e2 : (w.alloc (.map #[] 0)).heap.size = w.heap.size + 1 := by simp
      rw [e2] at e
      rw [hu]
      exact e
    refine ⟨⟨.slice none 0 0, w.heap.size, 0, by omega, hcs 0, hcs 1, hcs 2, hcs 3, fun j _ => ?_, RowC.nil _ _ _, ?_, fun k hk => by simp [cBlk] at hk, ⟨Nat.le_refl _, by omega, by omega⟩, fun k hk => ⟨hk.2.1, hk.2.2⟩, Nat.le_refl _, Nat.le_refl _, ⟨h, fun l hl => by simp at hl⟩⟩, hb⟩
    · have e := World.frozen?_alloc_mark (w.alloc (.map #[] 0)) #[.int .i64 most, .slice none 0 0, .map (some w.heap.size), .int .i64 0] 75 0 0 j
      have e2 : (w.alloc (.map #[] 0)).heap.size = w.heap.size + 1 := by simp
      rw [e2] at e
      rw [hu, e]
      simp
    · refine (Mp.made w).carry ?_
      rw [hu]
      exact Below.heap_alloc _ _ _ (by simp)
  clear h
  have hmm := @run_makeMap Try.prog
  go_enter Try.func9, Try.ntmps9
  go_wp2
  rw [← hu]
  exact bodyPost_ret (v := .tuple #[.pointer (some ⟨w.heap.size + 1, 0, none⟩), .int .i64 0]) (by simp [results, Try.results9, go_sem]) rfl ⟨rfl, HN.out⟩

section
variable {w : World} {B : Nat} {s : Q.St} {own : Nat → Prop} {n : Nat}

set_option maxHeartbeats 800000 in
theorem Put_c (h : Nn w B s own n) (hn : n < 1099511627776) (l : Q.Lt) (h64 : In64 l.fr ∧ In64 l.tt) (hsz : l.tx.size ≤ 9223372036854775807) : Calls Try.prog 29 #[.pointer (some ⟨B, 0, none⟩), .agg #[.int .i64 l.fr, .int .i64 l.tt, .string l.tx]] w fun e w' => e = .returned (.int .i64 (Q.putE s l)) ∧ AftQ own w w' B (Q.put s l) (n + 1) := by
  obtain ⟨l0, hl0⟩ : ∃ l0, l0 = l := ⟨_, rfl⟩
  have HL0 : Hid (l0 = l) := hl0
  obtain ⟨fr, tt, tx⟩ := l
  dsimp only at h64 hsz ⊢
  rw [← hl0]
  obtain ⟨u, hu⟩ : ∃ u, u = w.alloc (.cells #[.int .i64 fr, .int .i64 tt, .string tx] 78) := ⟨_, rfl⟩
  obtain ⟨bx, hbx⟩ : ∃ bx, bx = w.heap.size := ⟨_, rfl⟩
  have hbu : Below w.heap.size w u := by rw [hu]; exact below_alloc w _
  have hU := h.below hbu
  have HSame : Hid (AftQ own w u B s (n + 1)) := (AftQ.same h hbu).more (by omega)
  have HM : Hid _ := isMade_c hU
  have HF : Hid _ := isFull_c hU ⟨fr, tt, tx⟩ h64.1 h64.2
  have HNf : Hid (∀ X, Calls Try.prog 63 #[.int .i64 fr] X fun e w' => e = .returned (.bool (decide (0 ≤ fr) && decide (fr ≤ 255))) ∧ w' = X) := isNumber_c fr
  have HNt : Hid (∀ X, Calls Try.prog 63 #[.int .i64 tt] X fun e w' => e = .returned (.bool (decide (0 ≤ tt) && decide (tt ≤ 255))) ∧ w' = X) := isNumber_c tt
  have hcs : ∀ j, u.cell? ⟨bx, j, none⟩ = (#[.int .i64 fr, .int .i64 tt, .string tx] : Array Value)[j]? := fun j => by
    rw [hu, hbx]
    exact World.cell?_alloc_mark w _ _ _ j
  have hf2 : u.frozen? ⟨bx, 2, none⟩ = false := by rw [hu, hbx, World.frozen?_alloc_mark]; simp
  have x0 := hcs 0
  have x1 := hcs 1
  have x2 := hcs 2
  have hlx : bx < u.heap.size := by rw [hu, hbx]; simp
  by_cases t1 : 0 ≤ fr ∧ fr ≤ 255
  · have e1 : (decide (0 ≤ fr) && decide (fr ≤ 255)) = true := by simp [t1.1, t1.2]
    rw [e1] at HNf
    by_cases t2 : 0 ≤ tt ∧ tt ≤ 255
    · have e2 : (decide (0 ≤ tt) && decide (tt ≤ 255)) = true := by simp [t2.1, t2.2]
      rw [e2] at HNt
      by_cases t3 : tx.size > 1048576
      · have HE : Hid (Q.putE s l0 = 4 ∧ Q.put s l0 = s) := by
          have : Q.putE s l0 = 4 := by
            unfold Q.putE
            rw [HL0.out, if_neg (by dsimp only; omega), if_pos t3]
          exact ⟨this, by unfold Q.put; rw [this]; rfl⟩
        have t3' : (tx.size : Int) > 1048576 := by omega
        clear h hU hbu hcs hf2 hlx HF e1 e2 t1 t2 t3 h64 hl0 HL0
        go_enter Try.func29, Try.ntmps29
        go_wp2_with fail
        rw [← hu]
        try rw [← hbx]
        clear hu hbx
        refine Calls.mono HM.out ?_
        rintro e w1 ⟨rfl, hw⟩
        subst hw
        go_wp2_with fail
        refine (HNf.out _).mono ?_
        rintro e w1 ⟨rfl, hw⟩
        subst hw
        go_wp2_with fail
        refine (HNt.out _).mono ?_
        rintro e w1 ⟨rfl, hw⟩
        subst hw
        go_wp2
        go_ret
        rw [HE.out.1, HE.out.2]
        exact ⟨rfl, HSame.out⟩
      · have t3' : ¬ (tx.size : Int) > 1048576 := by omega
        by_cases t4 : (Q.cnt s.ls fr tt : Int) ≥ s.most
        · have HE : Hid (Q.putE s l0 = 2 ∧ Q.put s l0 = s) := by
            have : Q.putE s l0 = 2 := by
              unfold Q.putE
              rw [HL0.out, if_neg (by dsimp only; omega), if_neg t3, if_pos t4]
            exact ⟨this, by unfold Q.put; rw [this]; rfl⟩
          have e4 : decide ((Q.cnt s.ls fr tt : Int) ≥ s.most) = true := by simpa using t4
          dsimp only at HF
          rw [e4] at HF
          clear h hU hbu hcs hf2 hlx e1 e2 t1 t2 t3 h64 hl0 HL0 t4 e4
          go_enter Try.func29, Try.ntmps29
          go_wp2_with fail
          rw [← hu]
          try rw [← hbx]
          clear hu hbx
          refine Calls.mono HM.out ?_
          rintro e w1 ⟨rfl, hw⟩
          subst hw
          go_wp2_with fail
          refine (HNf.out _).mono ?_
          rintro e w1 ⟨rfl, hw⟩
          subst hw
          go_wp2_with fail
          refine (HNt.out _).mono ?_
          rintro e w1 ⟨rfl, hw⟩
          subst hw
          go_wp2_with fail
          refine Calls.mono HF.out ?_
          rintro e w2 ⟨rfl, hb2⟩
          have HB2 : Hid _ := hb2
          clear hb2
          go_wp2
          go_ret
          rw [HE.out.1, HE.out.2]
          exact ⟨rfl, HSame.out.on HB2.out⟩
        · have hok : Q.LtOk l0 := by rw [HL0.out]; exact ⟨t1, t2, by show tx.size ≤ _; omega⟩
          have HE : Hid (Q.putE s l0 = 0 ∧ Q.put s l0 = { s with ls := s.ls ++ [l0] }) := by
            have : Q.putE s l0 = 0 := by
              unfold Q.putE
              rw [HL0.out, if_neg (by dsimp only; omega), if_neg t3, if_neg t4]
            exact ⟨this, by unfold Q.put; rw [if_pos this]⟩
          have e4 : decide ((Q.cnt s.ls fr tt : Int) ≥ s.most) = false := by simpa using t4
          dsimp only at HF
          rw [e4] at HF
          have HCl : Hid (∀ X : World, Calls Try.prog 65 #[.string tx] X fun e w' => e = .returned (.string tx) ∧ Below X.heap.size X w') := fun X => Clone_any tx X (by omega)
          have HAd : Hid (∀ X, Below u.heap.size u X → Calls Try.prog 66 #[.pointer (some ⟨B, 0, none⟩), .agg #[.int .i64 fr, .int .i64 tt, .string tx]] (X.setCell ⟨bx, 2, none⟩ (.string tx)) fun e w' => e = .returned (.tuple #[]) ∧ AftQ own w w' B { s with ls := s.ls ++ [l0] } (n + 1)) := by
            intro X hX
            have hB : Below w.heap.size w (X.setCell ⟨bx, 2, none⟩ (.string tx)) := (hbu.trans (hX.mono hbu.size)).setCell (p := ⟨bx, 2, none⟩) (by show _ ≤ bx; omega) _
            have hA := add_c (h.below hB) hn l0 hok
            rw [HL0.out] at hA ⊢
            refine hA.mono ?_
            rintro e w' ⟨rfl, ha⟩
            exact ⟨rfl, ha.from hB h.lt h.here⟩
          have HX : Hid (∀ X, Below u.heap.size u X → X.cell? ⟨bx, 0, none⟩ = some (.int .i64 fr) ∧ X.cell? ⟨bx, 1, none⟩ = some (.int .i64 tt) ∧ X.cell? ⟨bx, 2, none⟩ = some (.string tx) ∧ X.frozen? ⟨bx, 2, none⟩ = false) := fun X hX =>
            ⟨(hX.cell (p := ⟨bx, 0, none⟩) hlx).trans x0, (hX.cell (p := ⟨bx, 1, none⟩) hlx).trans x1, (hX.cell (p := ⟨bx, 2, none⟩) hlx).trans x2, (hX.frozen (p := ⟨bx, 2, none⟩) hlx).trans hf2⟩
          clear h hU hbu hcs hf2 hlx e1 e2 t1 t2 t3 h64 hl0 HL0 t4 e4 HSame hok
          go_enter Try.func29, Try.ntmps29
          go_wp2_with fail
          rw [← hu]
          try rw [← hbx]
          clear hu hbx
          refine Calls.mono HM.out ?_
          rintro e w1 ⟨rfl, hw⟩
          subst hw
          go_wp2_with fail
          refine (HNf.out _).mono ?_
          rintro e w1 ⟨rfl, hw⟩
          subst hw
          go_wp2_with fail
          refine (HNt.out _).mono ?_
          rintro e w1 ⟨rfl, hw⟩
          subst hw
          go_wp2_with fail
          refine Calls.mono HF.out ?_
          rintro e w2 ⟨rfl, hb2⟩
          have HB2 : Hid _ := hb2
          clear x0 x1 x2
          obtain ⟨x0, x1, x2, _⟩ := HX.out w2 hb2
          clear hb2
          go_wp2_with fail
          refine (HCl.out _).mono ?_
          rintro e w3 ⟨rfl, hb3⟩
          have hb3 := Below.trans HB2.out (hb3.mono HB2.out.size)
          have HB3 : Hid _ := hb3
          clear x0 x1 x2
          obtain ⟨x0, x1, x2, f2⟩ := HX.out w3 hb3
          clear hb3
          go_wp2_with fail
          refine (HAd.out _ HB3.out).mono ?_
          rintro e w4 ⟨rfl, ha⟩
          have HA4 : Hid _ := ha
          clear ha
          go_wp2
          go_ret
          rw [HE.out.1, HE.out.2]
          exact ⟨rfl, HA4.out⟩
    · have e2 : (decide (0 ≤ tt) && decide (tt ≤ 255)) = false := by simp; omega
      rw [e2] at HNt
      have HE : Hid (Q.putE s l0 = 1 ∧ Q.put s l0 = s) := by
        have : Q.putE s l0 = 1 := by
          unfold Q.putE
          rw [HL0.out, if_pos (by dsimp only; omega)]
        exact ⟨this, by unfold Q.put; rw [this]; rfl⟩
      clear h hU hbu hcs hf2 hlx HF e1 e2 t1 t2 h64 hl0 HL0
      go_enter Try.func29, Try.ntmps29
      go_wp2_with fail
      rw [← hu]
      try rw [← hbx]
      clear hu hbx
      refine Calls.mono HM.out ?_
      rintro e w1 ⟨rfl, hw⟩
      subst hw
      go_wp2_with fail
      refine (HNf.out _).mono ?_
      rintro e w1 ⟨rfl, hw⟩
      subst hw
      go_wp2_with fail
      refine (HNt.out _).mono ?_
      rintro e w1 ⟨rfl, hw⟩
      subst hw
      go_wp2
      go_ret
      rw [HE.out.1, HE.out.2]
      exact ⟨rfl, HSame.out⟩
  · have e1 : (decide (0 ≤ fr) && decide (fr ≤ 255)) = false := by simp; omega
    rw [e1] at HNf
    have HE : Hid (Q.putE s l0 = 1 ∧ Q.put s l0 = s) := by
      have : Q.putE s l0 = 1 := by
        unfold Q.putE
        rw [HL0.out, if_pos (by dsimp only; omega)]
      exact ⟨this, by unfold Q.put; rw [this]; rfl⟩
    clear h hU hbu hcs hf2 hlx HF e1 t1 h64 hl0 HL0
    go_enter Try.func29, Try.ntmps29
    go_wp2_with fail
    rw [← hu]
    try rw [← hbx]
    clear hu hbx
    refine Calls.mono HM.out ?_
    rintro e w1 ⟨rfl, hw⟩
    subst hw
    go_wp2_with fail
    refine (HNf.out _).mono ?_
    rintro e w1 ⟨rfl, hw⟩
    subst hw
    go_wp2
    go_ret
    rw [HE.out.1, HE.out.2]
    exact ⟨rfl, HSame.out⟩

end
end Go.Proofs.Ytpopanfefpehnaa
