/-
  A raft node that is alone: its clock ticks.
-/
import Derived.Test.YteaopnhjndnpnaaNdNoted
import Derived.Test.YteaopnhjndnpnaaNdSaved
namespace Go.Proofs.Yteaopnhjndnpnaa
open Go.RowKit

section
variable {w : World} {B : Nat} {s : N.St} {own : Nat → Prop}

/-- The closure of Tick. -/
theorem Tick1_c {b2 b3 : Nat} {draw : Int} {Q : World → Prop} (h2 : w.cell? ⟨b2, 0, none⟩ = some (.pointer (some ⟨B, 0, none⟩))) (h3 : w.cell? ⟨b3, 0, none⟩ = some (.int .i64 draw))
    (H : Calls Try.prog 42 #[.pointer (some ⟨B, 0, none⟩), .int .i64 draw] w (fun e w' => e = .returned (.slice none 0 0) ∧ Q w')) :
    Calls Try.prog 41 #[.pointer (some ⟨b2, 0, none⟩), .pointer (some ⟨b3, 0, none⟩)] w (fun e w' => e = .returned (.slice none 0 0) ∧ Q w') := by
  have HH : Hid _ := H
  clear H
  go_enter Try.func41, Try.ntmps41
  go_wp2_with fail
  refine Calls.mono HH.out ?_
  rintro e w1 ⟨rfl, hq⟩
  have HQ : Hid _ := hq
  clear hq
  go_wp2
  go_ret
  exact ⟨rfl, HQ.out⟩

/-- What is asked of a node that stands. -/
structure MayStand (s : N.St) : Prop where
  t : 0 ≤ s.term ∧ s.term < 1099511627776
  app : G.appE s.log (s.term + 1, ⟨#[]⟩) = 0
  recs : s.recs.length ≤ 99999999

theorem standS_one (h1 : One s) (hm : MayStand s) (draw : Int) : (N.standS s draw).group = s.group ∧ (N.standS s draw).recs = s.recs ++ [⟨2, G.last s.log + 1, s.term + 1, 0, ⟨#[]⟩⟩] := by
  have hel : N.isElected (N.stand1 s draw) = true := by
    unfold N.isElected N.stand1
    dsimp only
    rw [h1.nodes, h1.id]
    rfl
  have e : N.standS s draw = N.takeLead (N.stand1 s draw) := by
    unfold N.standS
    rw [if_neg (by have := hm.t; omega), if_pos hel]
  rw [e]
  unfold N.takeLead
  have hadd : N.add (N.takeLead1 (N.stand1 s draw)) ((N.stand1 s draw).term, ⟨#[]⟩) = { N.takeLead1 (N.stand1 s draw) with log := G.app s.log (s.term + 1, ⟨#[]⟩), recs := s.recs ++ [⟨2, G.last s.log + 1, s.term + 1, 0, ⟨#[]⟩⟩] } := by
    have e0 : G.appE (N.takeLead1 (N.stand1 s draw)).log ((N.stand1 s draw).term, ⟨#[]⟩) = 0 := hm.app
    unfold N.add
    rw [if_pos e0]
    rfl
  rw [hadd]
  unfold N.commitMore
  split <;> exact ⟨rfl, rfl⟩

set_option maxHeartbeats 800000 in
set_option maxRecDepth 20000 in
theorem Tick_one (h : Nd w B s own) (h1 : One s) (draw : Int) (hl : -1000 ≤ s.left ∧ s.left ≤ 1000) (hm : s.role ≠ 3 → s.left ≤ 1 → MayStand s) :
    Calls Try.prog 18 #[.pointer (some ⟨B, 0, none⟩), .int .i64 draw] w fun e w' => e = .returned (.slice none 0 0) ∧ ∃ own', AftN own w w' B (N.tickS s draw) own' := by
  obtain ⟨u, hu⟩ : ∃ u, u = (w.alloc (.cells #[.pointer (some ⟨B, 0, none⟩)] 38)).alloc (.cells #[.int .i64 draw] 3) := ⟨_, rfl⟩
  have hbu : Below w.heap.size w u := by rw [hu]; exact (below_alloc _ _).trans ((below_alloc _ _).mono (by simp))
  have hNu := h.below hbu
  have HM : Hid _ := made_c hNu
  obtain ⟨b2, hb2⟩ : ∃ b2, b2 = w.heap.size := ⟨_, rfl⟩
  have c2 : u.cell? ⟨b2, 0, none⟩ = some (.pointer (some ⟨B, 0, none⟩)) := by
    rw [hu, hb2, World.cell?_alloc_lt _ _ _ (by simp)]
    exact World.cell?_alloc_mark w _ _ _ 0
  have c3 : u.cell? ⟨b2 + 1, 0, none⟩ = some (.int .i64 draw) := by
    have := World.cell?_alloc_mark (w.alloc (.cells #[.pointer (some ⟨B, 0, none⟩)] 38)) #[.int .i64 draw] 3 (0, 0) 0
    rw [hu, hb2, ← show (w.alloc (.cells #[.pointer (some ⟨B, 0, none⟩)] 38)).heap.size = w.heap.size + 1 by simp]
    exact this
  have HBu : Hid (Below w.heap.size w u) := hbu
  have HNu : Hid (Nd u B s own) := hNu
  have H1 : Hid (One s) := h1
  have HTo : Hid (∀ f, Calls Try.prog 36 #[.pointer (some ⟨B, 0, none⟩), f] u fun e w' => e = .returned (.slice none 0 0) ∧ w' = u) := fun f => toOthers_one hNu h1.nodes f
  obtain ⟨LB, MB, ol, rv, hv⟩ := id hNu
  have k8 := hv.at 8 _ rfl
  have k12 := hv.at 12 _ rfl
  have f12 := hv.fz 12 (by decide)
  have hb2B : b2 ≠ B := by have := h.lt; omega
  have hb3B : b2 + 1 ≠ B := by have := h.lt; omega
  have hwl : IntKind.i64.wrap (s.left - 1) = s.left - 1 := by rw [IntKind.wrap_i64]; omega
  by_cases hr : s.role = 3
  · have HE : Hid (N.tickS s draw = s) := by unfold N.tickS; rw [if_pos hr]; rfl
    rw [hr] at k8
    clear hr hm hl hwl hv
    go_enter Try.func18, Try.ntmps18
    go_wp2_with fail
    rw [← hu]
    refine Calls.mono HM.out ?_
    rintro e w1 ⟨rfl, hw⟩
    subst hw
    rw [← hb2]
    clear hu hb2
    go_wp2_with fail
    refine Calls.mono (HTo.out _) ?_
    rintro e w2 ⟨rfl, hw⟩
    subst hw
    go_wp2
    go_ret
    exact ⟨rfl, own, by rw [HE.out]; exact AftN.from HBu.out (AftN.same HNu.out (Below.refl _ _))⟩
  · have r3 : (s.role == 3) = false := by simpa using hr
    have HN1 : Hid (Nk u own B { s with left := s.left - 1 } LB MB ol rv (u.setCell ⟨B, 12, none⟩ (.int .i64 (s.left - 1)))) := ⟨hv.setLeft _, (KeptB.refl B own u).setB _ _⟩
    obtain ⟨X, hX⟩ : ∃ X, X = u.setCell ⟨B, 12, none⟩ (.int .i64 (s.left - 1)) := ⟨_, rfl⟩
    by_cases hle : 0 < s.left - 1
    · have HE : Hid (N.tickS s draw = { s with left := s.left - 1 }) := by unfold N.tickS; rw [if_neg hr, if_pos hle]; rfl
      clear hr hm hl hv h1
      go_enter Try.func18, Try.ntmps18
      go_wp2_with fail
      rw [← hu]
      refine Calls.mono HM.out ?_
      rintro e w1 ⟨rfl, hw⟩
      subst hw
      rw [← hb2]
      clear hu hb2
      go_wp2
      go_ret
      exact ⟨rfl, own, by rw [HE.out]; exact AftN.from HBu.out HN1.out.aft⟩
    · have hms := hm hr (by omega)
      have hms' : MayStand { s with left := s.left - 1 } := ⟨hms.t, hms.app, hms.recs⟩
      have h1' : One { s with left := s.left - 1 } := ⟨h1.nodes, h1.id⟩
      have HE : Hid (N.tickS s draw = N.noted { s with left := s.left - 1 } (N.standS { s with left := s.left - 1 } draw)) := by unfold N.tickS; rw [if_neg hr, if_neg hle]; rfl
      rw [← hX] at HN1
      have hxb : ∀ k, k ≠ B → X.heap[k]? = u.heap[k]? := fun k hk => by rw [hX]; exact Below.heap_setCell _ _ _ _ hk
      have x2 : X.cell? ⟨b2, 0, none⟩ = some (.pointer (some ⟨B, 0, none⟩)) := (World.cell?_of_block (a := ⟨b2, 0, none⟩) (hxb b2 hb2B)).trans c2
      have x3 : X.cell? ⟨b2 + 1, 0, none⟩ = some (.int .i64 draw) := (World.cell?_of_block (a := ⟨b2 + 1, 0, none⟩) (hxb (b2 + 1) hb3B)).trans c3
      obtain ⟨g1, g2⟩ := standS_one h1' hms' draw
      have HNo : Hid (Calls Try.prog 39 #[.pointer (some ⟨B, 0, none⟩), .func (.func 41) #[] #[.pointer (some ⟨b2, 0, none⟩), .pointer (some ⟨b2 + 1, 0, none⟩)]] X fun e w' => e = .returned (.slice none 0 0) ∧ ∃ own', AftN own w w' B (N.tickS s draw) own') := by
        refine (noted_T HN1.out.nd.nd (M := fun _ _ v => v = .slice none 0 0) (s' := N.standS { s with left := s.left - 1 } draw) (fun _ _ _ _ _ q _ _ => q) (fun Y hY => ?_) g1 ⟨_, g2⟩ (by rw [g2]; have := hms.recs; simp; omega)).mono ?_
        · have hb2l := World.block_lt_of_cell? _ _ x2
          have hb3l := World.block_lt_of_cell? _ _ x3
          refine (Tick1_c (draw := draw) ((hY.cell (p := ⟨b2, 0, none⟩) hb2l).trans x2) ((hY.cell (p := ⟨b2 + 1, 0, none⟩) hb3l).trans x3) (stand_one (HN1.out.nd.nd.below hY) h1' draw hms'.t hms'.app (by have := hms'.recs; omega))).mono ?_
          rintro e w' ⟨rfl, own', ha⟩
          exact ⟨none, 0, 0, own', rfl, ha, rfl⟩
        · rintro e w' ⟨p, n, c, own', rfl, ha, hm⟩
          rw [hm, HE.out]
          exact ⟨rfl, own', AftN.from HBu.out (HN1.out.aft.trans ha)⟩
      clear hr hm hl hv h1 hms hms' h1' g1 g2 HE HN1 hxb x2 x3
      go_enter Try.func18, Try.ntmps18
      go_wp2_with fail
      rw [← hu]
      refine Calls.mono HM.out ?_
      rintro e w1 ⟨rfl, hw⟩
      subst hw
      rw [← hb2]
      clear hu hb2
      go_wp2_with fail
      rw [← hX]
      clear hX
      refine Calls.mono HNo.out ?_
      rintro e w2 ⟨rfl, hq⟩
      have HQ : Hid _ := hq
      clear hq
      go_wp2
      go_ret
      exact ⟨rfl, HQ.out⟩

end
end Go.Proofs.Yteaopnhjndnpnaa
