/-
  What a call of a raft node changed of its term and vote is noted ahead of what it did to the log.
-/
import Derived.Test.YteaopnhjndnpnaaNdOne3
namespace Go.Proofs.Yteaopnhjndnpnaa
open Go.RowKit

section
variable {w : World} {B : Nat} {s : N.St} {own : Nat → Prop}

set_option maxHeartbeats 1600000 in
set_option maxRecDepth 20000 in
theorem noted_T (h : Nd w B s own) {fv : Array Value} {s' : N.St} {M : World → (Nat → Prop) → Value → Prop}
    (hM : ∀ X Y o o' v, M X o v → KeptB B o X Y → (∀ k, o' k → o k ∨ X.heap.size ≤ k) → M Y o' v)
    (H : ∀ X, Below w.heap.size w X → Calls Try.prog 41 fv X (fun e w' => ∃ p n c own', e = .returned (.slice p n c) ∧ AftN own X w' B s' own' ∧ M w' own' (.slice p n c)))
    (hg : s'.group = s.group) (hp : ∃ more, s'.recs = s.recs ++ more) (hr : s'.recs.length ≤ 1000000000) :
    Calls Try.prog 39 #[.pointer (some ⟨B, 0, none⟩), .func (.func 41) #[] fv] w fun e w' => ∃ p n c own', e = .returned (.slice p n c) ∧ AftN own w w' B (N.noted s s') own' ∧ M w' own' (.slice p n c) := by
  obtain ⟨LB, MB, ol, rv, hv⟩ := h
  have k6 := hv.at 6 _ rfl
  have k7 := hv.at 7 _ rfl
  obtain ⟨p, c, hrv, hc1, hc2⟩ := hv.row.form
  obtain ⟨n, hn⟩ : ∃ n, n = s.recs.length := ⟨_, rfl⟩
  have k34 : w.cell? ⟨B, 34, none⟩ = some (.slice p n c) := by rw [hv.cells, ndCells_rv hv.sz, hrv, ← hn]
  have hlt := hv.lt
  have HV : Hid _ := hv
  obtain ⟨t0, ht0⟩ : ∃ t0, t0 = s.term := ⟨_, rfl⟩
  obtain ⟨q0, hq0⟩ : ∃ q0, q0 = s.vote := ⟨_, rfl⟩
  rw [← ht0] at k6
  rw [← hq0] at k7
  obtain ⟨u, hu⟩ : ∃ u, u = (w.alloc (.cells #[.int .i64 t0, .int .i64 q0] 52)).drew := ⟨_, rfl⟩
  obtain ⟨bh, hbh⟩ : ∃ bh, bh = w.heap.size := ⟨_, rfl⟩
  have hbu : Below w.heap.size w u := by rw [hu]; exact (below_alloc _ _).drew
  have u0 : u.cell? ⟨bh, 0, none⟩ = some (.int .i64 t0) := by rw [hu, hbh]; exact World.cell?_alloc_mark w _ _ _ 0
  have u1 : u.cell? ⟨bh, 1, none⟩ = some (.int .i64 q0) := by rw [hu, hbh]; exact World.cell?_alloc_mark w _ _ _ 1
  have hbl : bh < u.heap.size := World.block_lt_of_cell? _ _ u0
  have HCl : Hid (Calls Try.prog 41 fv u (fun e w' => ∃ p n c own', e = .returned (.slice p n c) ∧ AftN own u w' B s' own' ∧ M w' own' (.slice p n c))) := H u hbu
  have HBu : Hid _ := hbu
  have HS : Hid (s'.group = s.group ∧ (∃ more, s'.recs = s.recs ++ more) ∧ s'.recs.length ≤ 1000000000 ∧ n = s.recs.length ∧ t0 = s.term ∧ q0 = s.vote ∧ bh = w.heap.size) := ⟨hg, hp, hr, hn, ht0, hq0, hbh⟩
  have HMm : Hid _ := hM
  clear hv H hM hg hp hr hrv hc1 hc2 hn ht0 hq0
  go_enter Try.func39, Try.ntmps39
  go_wp2
  go_region
  go_wp2_with fail
  rw [← hu]
  clear hu
  refine Calls.mono HCl.out ?_
  clear HCl
  rintro e w2 ⟨po, no, co, own', rfl, ha2, hm2⟩
  rw [← hbh]
  clear hbh k6 k7 k34
  have hown : ¬ own bh := fun e => by have := (HV.out.here bh e).1; have := HS.out.2.2.2.2.2.2; omega
  have hbB : bh ≠ B := by have := HS.out.2.2.2.2.2.2; omega
  have hhb : w2.heap[bh]? = u.heap[bh]? := ha2.2.1.block bh hbl hbB hown
  have z0 : w2.cell? ⟨bh, 0, none⟩ = some (.int .i64 t0) := (World.cell?_of_block (a := ⟨bh, 0, none⟩) hhb).trans u0
  have z1 : w2.cell? ⟨bh, 1, none⟩ = some (.int .i64 q0) := (World.cell?_of_block (a := ⟨bh, 1, none⟩) hhb).trans u1
  obtain ⟨LB2, MB2, ol2, rv2, hv2⟩ := ha2.1
  have y6 := hv2.at 6 _ rfl
  have y7 := hv2.at 7 _ rfl
  have y0 := hv2.at 0 _ rfl
  have hlB2 := hv2.lt
  obtain ⟨p2, c2, hrv2, _, _⟩ := hv2.row.form
  obtain ⟨n2, hn2⟩ : ∃ n2, n2 = s'.recs.length := ⟨_, rfl⟩
  rw [← hn2] at hrv2
  have y34 : w2.cell? ⟨B, 34, none⟩ = some (.slice p2 n2 c2) := by rw [hv2.cells, ndCells_rv hv2.sz, hrv2]
  have y34f := hv2.fz 34 (by decide)
  have HV2 : Hid _ := hv2
  have HA2 : Hid _ := ha2
  have HM2 : Hid _ := hm2
  obtain ⟨t1, ht1⟩ : ∃ t1, t1 = s'.term := ⟨_, rfl⟩
  obtain ⟨q1, hq1⟩ : ∃ q1, q1 = s'.vote := ⟨_, rfl⟩
  obtain ⟨g1, hg1⟩ : ∃ g1, g1 = s'.group := ⟨_, rfl⟩
  rw [← ht1] at y6
  rw [← hq1] at y7
  rw [← hg1] at y0
  have HS1 : Hid (t1 = s'.term ∧ q1 = s'.vote ∧ g1 = s'.group ∧ n2 = s'.recs.length ∧ rv2 = .slice p2 n2 c2) := ⟨ht1, hq1, hg1, hn2, hrv2⟩
  clear hv2 ha2 hm2 ht1 hq1 hg1 hn2 hhb u0 u1 hrv2
  by_cases ce : t1 = t0 ∧ q1 = q0
  · obtain ⟨rfl, rfl⟩ := ce
    go_wp2
    go_quiet (fail)
    go_wp2
    go_ret
    have e : N.noted s s' = s' := by
      unfold N.noted
      rw [if_pos ⟨by rw [← HS1.out.1]; exact HS.out.2.2.2.2.1, by rw [← HS1.out.2.1]; exact HS.out.2.2.2.2.2.1⟩]
    refine ⟨po, no, co, own', rfl, ?_, HMm.out _ _ _ _ _ HM2.out (KeptB.ofBelow (below_drewN w2 _)) (fun k hk => .inl hk)⟩
    rw [e]
    exact (AftN.from HBu.out HA2.out).to (below_drewN w2 _)
  · have HNE : Hid (¬ (s'.term = s.term ∧ s'.vote = s.vote)) := fun q => ce ⟨by rw [HS1.out.1, HS.out.2.2.2.2.1]; exact q.1, by rw [HS1.out.2.1, HS.out.2.2.2.2.2.1]; exact q.2⟩
    by_cases c1 : t1 = t0
    · have ce2 : ¬ q1 = q0 := fun e => ce ⟨c1, e⟩
      subst c1
      have c3 : (q1 == q0) = false := by simpa using ce2
      clear ce
      go_wp2
      go_quiet (fail)
      obtain ⟨X2, hX2⟩ : ∃ X2, X2 = w2.drewN nq := ⟨_, rfl⟩
      have hbX2 : Below w2.heap.size w2 X2 := by rw [hX2]; exact below_drewN w2 nq
      rw [← hX2]
      have x0 : X2.cell? ⟨B, 0, none⟩ = some (.int .i64 g1) := (hbX2.cell (p := ⟨B, 0, none⟩) hlB2).trans y0
      have x6 : X2.cell? ⟨B, 6, none⟩ = some (.int .i64 t1) := (hbX2.cell (p := ⟨B, 6, none⟩) hlB2).trans y6
      have x7 : X2.cell? ⟨B, 7, none⟩ = some (.int .i64 q1) := (hbX2.cell (p := ⟨B, 7, none⟩) hlB2).trans y7
      have hlX2 : B < X2.heap.size := Nat.lt_of_lt_of_le hlB2 hbX2.size
      have HbX2 : Hid _ := hbX2
      clear hX2 hbX2 y0 y6 y7 z0 z1
      go_wp2
      go_region
      go_wp2
      obtain ⟨X4, hX4⟩ : ∃ X4, X4 = (X2.alloc (.cells #[.int .i64 g1, .int .i64 1, .int .i64 0, .int .i64 t1, .int .i64 q1, .string ⟨#[]⟩] 99)).drew := ⟨_, rfl⟩
      obtain ⟨br, hbr⟩ : ∃ br, br = X2.heap.size := ⟨_, rfl⟩
      have hb4 : Below w2.heap.size w2 X4 := by rw [hX4]; exact HbX2.out.trans ((below_alloc X2 _).drew.mono HbX2.out.size)
      have hrc : ∀ j, X4.cell? ⟨br, j, none⟩ = (#[.int .i64 g1, .int .i64 1, .int .i64 0, .int .i64 t1, .int .i64 q1, .string ⟨#[]⟩] : Array Value)[j]? := fun j => by rw [hX4, hbr]; exact World.cell?_alloc_mark X2 _ _ _ j
      have hbrl : br < X4.heap.size := by rw [hX4, hbr]; show _ < (X2.alloc _).heap.size; simp
      have hbrB : br ≠ B := by omega
      have hbr2 : w2.heap.size ≤ br := by rw [hbr]; exact HbX2.out.size
      rw [← hX4, ← hbr]
      clear hX4 hbr x0 x6 x7
      have x34 : X4.cell? ⟨B, 34, none⟩ = some (.slice p2 n2 c2) := (hb4.cell (p := ⟨B, 34, none⟩) hlB2).trans y34
      have hl4 : B < X4.heap.size := Nat.lt_of_lt_of_le hlB2 hb4.size
      obtain ⟨W5, hW5⟩ : ∃ W5, W5 = (X4.alloc (.cells #[.int .i64 g1, .int .i64 1, .int .i64 0, .int .i64 t1, .int .i64 q1, .string ⟨#[]⟩] 99)).drew := ⟨_, rfl⟩
      have hb5 : Below X4.heap.size X4 W5 := by rw [hW5]; exact (below_alloc X4 _).drew
      have HS0 : Hid (∀ Y, Below X4.heap.size X4 Y → Y.cell? ⟨br, 0, none⟩ = some (.int .i64 g1) ∧ Y.cell? ⟨br, 1, none⟩ = some (.int .i64 1) ∧ Y.cell? ⟨br, 2, none⟩ = some (.int .i64 0) ∧ Y.cell? ⟨br, 3, none⟩ = some (.int .i64 t1) ∧ Y.cell? ⟨br, 4, none⟩ = some (.int .i64 q1) ∧ Y.cell? ⟨br, 5, none⟩ = some (.string ⟨#[]⟩)) := fun Y hY => by
        have e : ∀ j, Y.cell? ⟨br, j, none⟩ = X4.cell? ⟨br, j, none⟩ := fun j => hY.cell (p := ⟨br, j, none⟩) hbrl
        rw [e, e, e, e, e, e]
        exact ⟨hrc 0, hrc 1, hrc 2, hrc 3, hrc 4, hrc 5⟩
      have hN5 : NdV W5 B s' own' LB2 MB2 ol2 rv2 := (HV2.out.below hb4).below hb5
      have HIn : Hid (Calls Try.prog 63 #[.slice p2 n2 c2, .int .i64 (n : Int), .slice (some ⟨X4.heap.size, 0, none⟩) 1 1] W5 (fun e w6 => ∃ p' n' c', e = .returned (.slice p' n' c') ∧ w6.cell? ⟨B, 34, none⟩ = some (.slice p2 n2 c2) ∧ w6.frozen? ⟨B, 34, none⟩ = false ∧ (fun Y : World => Y.cell? ⟨br, 0, none⟩ = some (.int .i64 g1) ∧ Y.cell? ⟨br, 1, none⟩ = some (.int .i64 1) ∧ Y.cell? ⟨br, 2, none⟩ = some (.int .i64 0) ∧ Y.cell? ⟨br, 3, none⟩ = some (.int .i64 t1) ∧ Y.cell? ⟨br, 4, none⟩ = some (.int .i64 q1) ∧ Y.cell? ⟨br, 5, none⟩ = some (.string ⟨#[]⟩)) w6 ∧ (fun Y : World => Y.cell? ⟨br, 0, none⟩ = some (.int .i64 g1) ∧ Y.cell? ⟨br, 1, none⟩ = some (.int .i64 1) ∧ Y.cell? ⟨br, 2, none⟩ = some (.int .i64 0) ∧ Y.cell? ⟨br, 3, none⟩ = some (.int .i64 t1) ∧ Y.cell? ⟨br, 4, none⟩ = some (.int .i64 q1) ∧ Y.cell? ⟨br, 5, none⟩ = some (.string ⟨#[]⟩)) (w6.setCell ⟨B, 34, none⟩ (.slice p' n' c')) ∧ ∃ own'', AftN own w (w6.setCell ⟨B, 34, none⟩ (.slice p' n' c')) B (N.noted s s') own'' ∧ M (w6.setCell ⟨B, 34, none⟩ (.slice p' n' c')) own'' (.slice po no co))) := by
        obtain ⟨e1, e2, e3, e4, e5⟩ := HS1.out
        obtain ⟨d1, ⟨more, d2⟩, d3, d4, d5, d6, d7⟩ := HS.out
        have hrow : RowC W5 6 (.slice p2 n2 c2) n2 (recCells s'.group s'.recs) := by have := hN5.row; rw [e5, ← e4] at this; exact this
        have hnw : Nw W5 X4.heap.size #[.int .i64 g1, .int .i64 1, .int .i64 0, .int .i64 t1, .int .i64 q1, .string ⟨#[]⟩].toList := ⟨rfl, fun u hu => by simp at hu; rcases hu with rfl | rfl | rfl | rfl | rfl | rfl <;> rfl, by rw [hW5]; exact heap_alloc_new X4 _⟩
        refine (Insert_c hrow (recCells_one _ _) hnw (i := n) (by rw [d2, List.length_append] at e4; omega) (by omega) (fun e => ?_)).mono ?_
        · have := (HV2.out.here X4.heap.size (HV2.out.orv _ (by rw [e5]; exact e))).1
          have := hb4.size
          omega
        · rintro e w6 ⟨v', rfl, i1, i2, i3⟩
          obtain ⟨p', c', hv', _, _⟩ := i1.form
          subst hv'
          have hneq := HNE.out
          have hnt : N.noted s s' = { s' with recs := s.recs ++ [⟨1, 0, t1, q1, ⟨#[]⟩⟩] ++ more } := by
            unfold N.noted
            rw [if_neg hneq, d2, List.drop_left, e1, e2]
          have hcs : (recCells s'.group s'.recs).take (n * 6) ++ (#[.int .i64 g1, .int .i64 1, .int .i64 0, .int .i64 t1, .int .i64 q1, .string ⟨#[]⟩].toList ++ (recCells s'.group s'.recs).drop (n * 6)) = recCells s'.group (s.recs ++ [⟨1, 0, t1, q1, ⟨#[]⟩⟩] ++ more) := by
            rw [d2, recCells_append, recCells_append, recCells_append, d4, List.take_left' (recCells_len _ _), List.drop_left' (recCells_len _ _), e3, List.append_assoc]
            rfl
          rw [hcs] at i1
          have hlen : n2 + 1 = (s.recs ++ [(⟨1, 0, t1, q1, ⟨#[]⟩⟩ : N.Rec)] ++ more).length := by rw [e4, d2]; simp; omega
          rw [← e5] at i2 i3
          obtain ⟨m1, m2⟩ := hN5.reslice (l := s.recs ++ [⟨1, 0, t1, q1, ⟨#[]⟩⟩] ++ more) (by rw [← hlen]; exact i1) i2 i3
          have hB6 : w6.heap[B]? = W5.heap[B]? := i2.block B hN5.lt (fun e => (hN5.here B (hN5.orv B e.symm)).2 rfl)
          have hr6 : w6.heap[br]? = W5.heap[br]? := i2.block br (Nat.lt_of_lt_of_le hbrl hb5.size) (fun e => by have := (HV2.out.here br (HV2.out.orv br e.symm)).1; omega)
          have hS6 : (fun Y : World => Y.cell? ⟨br, 0, none⟩ = some (.int .i64 g1) ∧ Y.cell? ⟨br, 1, none⟩ = some (.int .i64 1) ∧ Y.cell? ⟨br, 2, none⟩ = some (.int .i64 0) ∧ Y.cell? ⟨br, 3, none⟩ = some (.int .i64 t1) ∧ Y.cell? ⟨br, 4, none⟩ = some (.int .i64 q1) ∧ Y.cell? ⟨br, 5, none⟩ = some (.string ⟨#[]⟩)) w6 := by
            have e : ∀ j, w6.cell? ⟨br, j, none⟩ = W5.cell? ⟨br, j, none⟩ := fun j => World.cell?_of_block (a := ⟨br, j, none⟩) hr6
            show w6.cell? ⟨br, 0, none⟩ = some (.int .i64 g1) ∧ w6.cell? ⟨br, 1, none⟩ = some (.int .i64 1) ∧ w6.cell? ⟨br, 2, none⟩ = some (.int .i64 0) ∧ w6.cell? ⟨br, 3, none⟩ = some (.int .i64 t1) ∧ w6.cell? ⟨br, 4, none⟩ = some (.int .i64 q1) ∧ w6.cell? ⟨br, 5, none⟩ = some (.string ⟨#[]⟩)
            rw [e, e, e, e, e, e]
            exact HS0.out W5 hb5
          have hS7 : (fun Y : World => Y.cell? ⟨br, 0, none⟩ = some (.int .i64 g1) ∧ Y.cell? ⟨br, 1, none⟩ = some (.int .i64 1) ∧ Y.cell? ⟨br, 2, none⟩ = some (.int .i64 0) ∧ Y.cell? ⟨br, 3, none⟩ = some (.int .i64 t1) ∧ Y.cell? ⟨br, 4, none⟩ = some (.int .i64 q1) ∧ Y.cell? ⟨br, 5, none⟩ = some (.string ⟨#[]⟩)) (w6.setCell ⟨B, 34, none⟩ (.slice p' (n2 + 1) c')) := by
            have e : ∀ j, (w6.setCell ⟨B, 34, none⟩ (.slice p' (n2 + 1) c')).cell? ⟨br, j, none⟩ = w6.cell? ⟨br, j, none⟩ := fun j => World.cell?_of_block (a := ⟨br, j, none⟩) (Below.heap_setCell _ _ _ _ hbrB)
            show (w6.setCell ⟨B, 34, none⟩ (.slice p' (n2 + 1) c')).cell? ⟨br, 0, none⟩ = some (.int .i64 g1) ∧ (w6.setCell ⟨B, 34, none⟩ (.slice p' (n2 + 1) c')).cell? ⟨br, 1, none⟩ = some (.int .i64 1) ∧ (w6.setCell ⟨B, 34, none⟩ (.slice p' (n2 + 1) c')).cell? ⟨br, 2, none⟩ = some (.int .i64 0) ∧ (w6.setCell ⟨B, 34, none⟩ (.slice p' (n2 + 1) c')).cell? ⟨br, 3, none⟩ = some (.int .i64 t1) ∧ (w6.setCell ⟨B, 34, none⟩ (.slice p' (n2 + 1) c')).cell? ⟨br, 4, none⟩ = some (.int .i64 q1) ∧ (w6.setCell ⟨B, 34, none⟩ (.slice p' (n2 + 1) c')).cell? ⟨br, 5, none⟩ = some (.string ⟨#[]⟩)
            rw [e, e, e, e, e, e]
            exact hS6
          have hk25 : KeptB B own' w2 W5 := KeptB.ofBelow (hb4.trans (hb5.mono hb4.size))
          have hk27 : KeptB B own' w2 (w6.setCell ⟨B, 34, none⟩ (.slice p' (n2 + 1) c')) := hk25.trans m2 (fun _ _ e => e)
          have ho : ∀ k, sinceB own' W5 w6 k → own' k ∨ w2.heap.size ≤ k := fun k hk => by
            rcases hk with q | q
            · exact .inl q
            · exact .inr (by have := hk25.size; omega)
          refine ⟨_, _, _, rfl, ?_, ?_, hS6, hS7, _, ?_, HMm.out _ _ _ _ _ HM2.out hk27 ho⟩
          · rw [World.cell?_of_block (a := ⟨B, 34, none⟩) hB6, hN5.cells, ndCells_rv hN5.sz, e5]
          · rw [World.frozen?_of_block (a := ⟨B, 34, none⟩) hB6]; exact hN5.fz 34 (by decide)
          · rw [hnt]
            exact (AftN.from HBu.out HA2.out).trans ⟨m1.nd, hk27, ho⟩
      clear hrc hbrB hbr2 hN5 hb4 hb5
      refine wp_region_held_drew (S := fun Y => Y.cell? ⟨br, 0, none⟩ = some (.int .i64 g1) ∧ Y.cell? ⟨br, 1, none⟩ = some (.int .i64 1) ∧ Y.cell? ⟨br, 2, none⟩ = some (.int .i64 0) ∧ Y.cell? ⟨br, 3, none⟩ = some (.int .i64 t1) ∧ Y.cell? ⟨br, 4, none⟩ = some (.int .i64 q1) ∧ Y.cell? ⟨br, 5, none⟩ = some (.string ⟨#[]⟩)) (by kernel_rfl) (HS0.out _ (Below.refl _ _).drew) (fun hHeld => ?_)
      refine take7 (i := 0) (d := 41) (v := .pointer (some ⟨B, 0, none⟩)) rfl rfl (by kernel_rfl) (by kernel_rfl) (by kernel_rfl) (fun _ _ _ h => h) (Or.inl ⟨by rfl, ?_⟩) (by assumption) ?_
      · intro X hSw
        go_simp
      simp only [Act.put, List.setIfInBounds_toArray, List.set_cons_zero, List.set_cons_succ]
      refine take7 (i := 1) (d := 42) (v := .pointer (some ⟨B, 0, none⟩)) rfl rfl (by kernel_rfl) (by kernel_rfl) (by kernel_rfl) (fun _ _ _ h => h) (Or.inl ⟨by rfl, ?_⟩) (by assumption) ?_
      · intro X hSw
        go_simp
      simp only [Act.put, List.setIfInBounds_toArray, List.set_cons_zero, List.set_cons_succ]
      refine take7 (i := 2) (d := 43) (v := .pointer (some ⟨B, 0, none⟩)) rfl rfl (by kernel_rfl) (by kernel_rfl) (by kernel_rfl) (fun _ _ _ h => h) (Or.inl ⟨by rfl, ?_⟩) (by assumption) ?_
      · intro X hSw
        go_simp
      simp only [Act.put, List.setIfInBounds_toArray, List.set_cons_zero, List.set_cons_succ]
      refine take7 (i := 3) (d := 44) (v := .pointer (some ⟨B, 34, none⟩)) rfl rfl (by kernel_rfl) (by kernel_rfl) (by kernel_rfl) (fun _ _ _ h => h) (Or.inl ⟨by rfl, ?_⟩) (by assumption) ?_
      · intro X hSw
        go_simp
      simp only [Act.put, List.setIfInBounds_toArray, List.set_cons_zero, List.set_cons_succ]
      refine take7 (i := 5) (d := 46) (v := .int .i64 (n : Int)) rfl rfl (by kernel_rfl) (by kernel_rfl) (by kernel_rfl) (fun _ _ _ h => h) (Or.inl ⟨by rfl, ?_⟩) (by assumption) ?_
      · intro X hSw
        go_simp
      simp only [Act.put, List.setIfInBounds_toArray, List.set_cons_zero, List.set_cons_succ]
      refine take7 (i := 6) (d := 47) (v := .agg #[.int .i64 g1, .int .i64 1, .int .i64 0, .int .i64 t1, .int .i64 q1, .string ⟨#[]⟩]) rfl rfl (by kernel_rfl) (by kernel_rfl) (by kernel_rfl) (fun _ _ _ h => h) (Or.inl ⟨by rfl, ?_⟩) (by assumption) ?_
      · intro X hSw
        go_simp
      simp only [Act.put, List.setIfInBounds_toArray, List.set_cons_zero, List.set_cons_succ]
      refine wpAnyH_ready (rs := [4, 7]) (by kernel_rfl) (by simp) ?_
      refine AllReadyH.cons rfl (fun K hK => ?_) (AllReadyH.cons rfl (fun K hK => ?_) AllReadyH.nil)
      · go_simp
        refine hK.out _ _ (HS0.out _ (Below.refl _ _).drew) (fun hHeld2 => ?_)
        clear hK K hHeld
        refine wpAnyH_ready (rs := [7]) (by kernel_rfl) (by simp) ?_
        refine AllReadyH.cons rfl (fun K hK => ?_) AllReadyH.nil
        go_simp
        refine hK.out _ _ (HS0.out _ (below_alloc _ _).drew) (fun hHeld3 => ?_)
        clear hK K hHeld2
        refine wpAnyH_ready (rs := [8]) (by kernel_rfl) (by simp) ?_
        refine AllReadyH.cons rfl (fun K hK => ?_) AllReadyH.nil
        go_simp
        go_wp2_with fail
        subst hW5
        refine Calls.mono HIn.out ?_
        rintro e w6 ⟨p', n', c', rfl, j1, j2, s6, s7, own'', j3, j4⟩
        have HS7 : Hid _ := s7
        have HJ3 : Hid _ := j3
        have HJ4 : Hid _ := j4
        clear s7 j3 j4
        go_wp2
        refine hK.out _ _ s6 (fun hHeld4 => ?_)
        clear hK K hHeld3
        refine take7 (i := 9) (d := 50) (v := .pointer (some ⟨B, 0, none⟩)) rfl rfl (by kernel_rfl) (by kernel_rfl) (by kernel_rfl) (fun _ _ _ h => h) (Or.inl ⟨by rfl, ?_⟩) (by assumption) ?_
        · intro X hSw
          go_simp
        simp only [Act.put, List.setIfInBounds_toArray, List.set_cons_zero, List.set_cons_succ]
        refine take7 (i := 10) (d := 51) (v := .pointer (some ⟨B, 34, none⟩)) rfl rfl (by kernel_rfl) (by kernel_rfl) (by kernel_rfl) (fun _ _ _ h => h) (Or.inl ⟨by rfl, ?_⟩) (by assumption) ?_
        · intro X hSw
          go_simp
        simp only [Act.put, List.setIfInBounds_toArray, List.set_cons_zero, List.set_cons_succ]
        refine wpAnyH_ready (rs := [11]) (by kernel_rfl) (by simp) ?_
        refine AllReadyH.cons rfl (fun K hK => ?_) AllReadyH.nil
        go_simp
        refine hK.out _ _ HS7.out (fun hHeld5 => ?_)
        clear hK K hHeld4 s6 HS7
        refine wpAnyH_done (by kernel_rfl) ?_ _
        clear hHeld5
        go_wp2
        go_ret
        exact ⟨po, no, co, own'', rfl, HJ3.out, HJ4.out⟩
      · go_simp
        refine hK.out _ _ (HS0.out _ (below_alloc _ _).drew) (fun hHeld2 => ?_)
        clear hK K hHeld
        refine wpAnyH_ready (rs := [4]) (by kernel_rfl) (by simp) ?_
        refine AllReadyH.cons rfl (fun K hK => ?_) AllReadyH.nil
        go_simp
        refine hK.out _ _ (HS0.out _ (below_alloc _ _).drew) (fun hHeld3 => ?_)
        clear hK K hHeld2
        refine wpAnyH_ready (rs := [8]) (by kernel_rfl) (by simp) ?_
        refine AllReadyH.cons rfl (fun K hK => ?_) AllReadyH.nil
        go_simp
        go_wp2_with fail
        subst hW5
        refine Calls.mono HIn.out ?_
        rintro e w6 ⟨p', n', c', rfl, j1, j2, s6, s7, own'', j3, j4⟩
        have HS7 : Hid _ := s7
        have HJ3 : Hid _ := j3
        have HJ4 : Hid _ := j4
        clear s7 j3 j4
        go_wp2
        refine hK.out _ _ s6 (fun hHeld4 => ?_)
        clear hK K hHeld3
        refine take7 (i := 9) (d := 50) (v := .pointer (some ⟨B, 0, none⟩)) rfl rfl (by kernel_rfl) (by kernel_rfl) (by kernel_rfl) (fun _ _ _ h => h) (Or.inl ⟨by rfl, ?_⟩) (by assumption) ?_
        · intro X hSw
          go_simp
        simp only [Act.put, List.setIfInBounds_toArray, List.set_cons_zero, List.set_cons_succ]
        refine take7 (i := 10) (d := 51) (v := .pointer (some ⟨B, 34, none⟩)) rfl rfl (by kernel_rfl) (by kernel_rfl) (by kernel_rfl) (fun _ _ _ h => h) (Or.inl ⟨by rfl, ?_⟩) (by assumption) ?_
        · intro X hSw
          go_simp
        simp only [Act.put, List.setIfInBounds_toArray, List.set_cons_zero, List.set_cons_succ]
        refine wpAnyH_ready (rs := [11]) (by kernel_rfl) (by simp) ?_
        refine AllReadyH.cons rfl (fun K hK => ?_) AllReadyH.nil
        go_simp
        refine hK.out _ _ HS7.out (fun hHeld5 => ?_)
        clear hK K hHeld4 s6 HS7
        refine wpAnyH_done (by kernel_rfl) ?_ _
        clear hHeld5
        go_wp2
        go_ret
        exact ⟨po, no, co, own'', rfl, HJ3.out, HJ4.out⟩
    · have c3 : (t1 == t0) = false := by simpa using c1
      clear ce
      go_wp2
      go_quiet (fail)
      obtain ⟨X2, hX2⟩ : ∃ X2, X2 = w2.drewN nq := ⟨_, rfl⟩
      have hbX2 : Below w2.heap.size w2 X2 := by rw [hX2]; exact below_drewN w2 nq
      rw [← hX2]
      have x0 : X2.cell? ⟨B, 0, none⟩ = some (.int .i64 g1) := (hbX2.cell (p := ⟨B, 0, none⟩) hlB2).trans y0
      have x6 : X2.cell? ⟨B, 6, none⟩ = some (.int .i64 t1) := (hbX2.cell (p := ⟨B, 6, none⟩) hlB2).trans y6
      have x7 : X2.cell? ⟨B, 7, none⟩ = some (.int .i64 q1) := (hbX2.cell (p := ⟨B, 7, none⟩) hlB2).trans y7
      have hlX2 : B < X2.heap.size := Nat.lt_of_lt_of_le hlB2 hbX2.size
      have HbX2 : Hid _ := hbX2
      clear hX2 hbX2 y0 y6 y7 z0 z1
      go_wp2
      go_region
      go_wp2
      obtain ⟨X4, hX4⟩ : ∃ X4, X4 = (X2.alloc (.cells #[.int .i64 g1, .int .i64 1, .int .i64 0, .int .i64 t1, .int .i64 q1, .string ⟨#[]⟩] 99)).drew := ⟨_, rfl⟩
      obtain ⟨br, hbr⟩ : ∃ br, br = X2.heap.size := ⟨_, rfl⟩
      have hb4 : Below w2.heap.size w2 X4 := by rw [hX4]; exact HbX2.out.trans ((below_alloc X2 _).drew.mono HbX2.out.size)
      have hrc : ∀ j, X4.cell? ⟨br, j, none⟩ = (#[.int .i64 g1, .int .i64 1, .int .i64 0, .int .i64 t1, .int .i64 q1, .string ⟨#[]⟩] : Array Value)[j]? := fun j => by rw [hX4, hbr]; exact World.cell?_alloc_mark X2 _ _ _ j
      have hbrl : br < X4.heap.size := by rw [hX4, hbr]; show _ < (X2.alloc _).heap.size; simp
      have hbrB : br ≠ B := by omega
      have hbr2 : w2.heap.size ≤ br := by rw [hbr]; exact HbX2.out.size
      rw [← hX4, ← hbr]
      clear hX4 hbr x0 x6 x7
      have x34 : X4.cell? ⟨B, 34, none⟩ = some (.slice p2 n2 c2) := (hb4.cell (p := ⟨B, 34, none⟩) hlB2).trans y34
      have hl4 : B < X4.heap.size := Nat.lt_of_lt_of_le hlB2 hb4.size
      obtain ⟨W5, hW5⟩ : ∃ W5, W5 = (X4.alloc (.cells #[.int .i64 g1, .int .i64 1, .int .i64 0, .int .i64 t1, .int .i64 q1, .string ⟨#[]⟩] 99)).drew := ⟨_, rfl⟩
      have hb5 : Below X4.heap.size X4 W5 := by rw [hW5]; exact (below_alloc X4 _).drew
      have HS0 : Hid (∀ Y, Below X4.heap.size X4 Y → Y.cell? ⟨br, 0, none⟩ = some (.int .i64 g1) ∧ Y.cell? ⟨br, 1, none⟩ = some (.int .i64 1) ∧ Y.cell? ⟨br, 2, none⟩ = some (.int .i64 0) ∧ Y.cell? ⟨br, 3, none⟩ = some (.int .i64 t1) ∧ Y.cell? ⟨br, 4, none⟩ = some (.int .i64 q1) ∧ Y.cell? ⟨br, 5, none⟩ = some (.string ⟨#[]⟩)) := fun Y hY => by
        have e : ∀ j, Y.cell? ⟨br, j, none⟩ = X4.cell? ⟨br, j, none⟩ := fun j => hY.cell (p := ⟨br, j, none⟩) hbrl
        rw [e, e, e, e, e, e]
        exact ⟨hrc 0, hrc 1, hrc 2, hrc 3, hrc 4, hrc 5⟩
      have hN5 : NdV W5 B s' own' LB2 MB2 ol2 rv2 := (HV2.out.below hb4).below hb5
      have HIn : Hid (Calls Try.prog 63 #[.slice p2 n2 c2, .int .i64 (n : Int), .slice (some ⟨X4.heap.size, 0, none⟩) 1 1] W5 (fun e w6 => ∃ p' n' c', e = .returned (.slice p' n' c') ∧ w6.cell? ⟨B, 34, none⟩ = some (.slice p2 n2 c2) ∧ w6.frozen? ⟨B, 34, none⟩ = false ∧ (fun Y : World => Y.cell? ⟨br, 0, none⟩ = some (.int .i64 g1) ∧ Y.cell? ⟨br, 1, none⟩ = some (.int .i64 1) ∧ Y.cell? ⟨br, 2, none⟩ = some (.int .i64 0) ∧ Y.cell? ⟨br, 3, none⟩ = some (.int .i64 t1) ∧ Y.cell? ⟨br, 4, none⟩ = some (.int .i64 q1) ∧ Y.cell? ⟨br, 5, none⟩ = some (.string ⟨#[]⟩)) w6 ∧ (fun Y : World => Y.cell? ⟨br, 0, none⟩ = some (.int .i64 g1) ∧ Y.cell? ⟨br, 1, none⟩ = some (.int .i64 1) ∧ Y.cell? ⟨br, 2, none⟩ = some (.int .i64 0) ∧ Y.cell? ⟨br, 3, none⟩ = some (.int .i64 t1) ∧ Y.cell? ⟨br, 4, none⟩ = some (.int .i64 q1) ∧ Y.cell? ⟨br, 5, none⟩ = some (.string ⟨#[]⟩)) (w6.setCell ⟨B, 34, none⟩ (.slice p' n' c')) ∧ ∃ own'', AftN own w (w6.setCell ⟨B, 34, none⟩ (.slice p' n' c')) B (N.noted s s') own'' ∧ M (w6.setCell ⟨B, 34, none⟩ (.slice p' n' c')) own'' (.slice po no co))) := by
        obtain ⟨e1, e2, e3, e4, e5⟩ := HS1.out
        obtain ⟨d1, ⟨more, d2⟩, d3, d4, d5, d6, d7⟩ := HS.out
        have hrow : RowC W5 6 (.slice p2 n2 c2) n2 (recCells s'.group s'.recs) := by have := hN5.row; rw [e5, ← e4] at this; exact this
        have hnw : Nw W5 X4.heap.size #[.int .i64 g1, .int .i64 1, .int .i64 0, .int .i64 t1, .int .i64 q1, .string ⟨#[]⟩].toList := ⟨rfl, fun u hu => by simp at hu; rcases hu with rfl | rfl | rfl | rfl | rfl | rfl <;> rfl, by rw [hW5]; exact heap_alloc_new X4 _⟩
        refine (Insert_c hrow (recCells_one _ _) hnw (i := n) (by rw [d2, List.length_append] at e4; omega) (by omega) (fun e => ?_)).mono ?_
        · have := (HV2.out.here X4.heap.size (HV2.out.orv _ (by rw [e5]; exact e))).1
          have := hb4.size
          omega
        · rintro e w6 ⟨v', rfl, i1, i2, i3⟩
          obtain ⟨p', c', hv', _, _⟩ := i1.form
          subst hv'
          have hneq := HNE.out
          have hnt : N.noted s s' = { s' with recs := s.recs ++ [⟨1, 0, t1, q1, ⟨#[]⟩⟩] ++ more } := by
            unfold N.noted
            rw [if_neg hneq, d2, List.drop_left, e1, e2]
          have hcs : (recCells s'.group s'.recs).take (n * 6) ++ (#[.int .i64 g1, .int .i64 1, .int .i64 0, .int .i64 t1, .int .i64 q1, .string ⟨#[]⟩].toList ++ (recCells s'.group s'.recs).drop (n * 6)) = recCells s'.group (s.recs ++ [⟨1, 0, t1, q1, ⟨#[]⟩⟩] ++ more) := by
            rw [d2, recCells_append, recCells_append, recCells_append, d4, List.take_left' (recCells_len _ _), List.drop_left' (recCells_len _ _), e3, List.append_assoc]
            rfl
          rw [hcs] at i1
          have hlen : n2 + 1 = (s.recs ++ [(⟨1, 0, t1, q1, ⟨#[]⟩⟩ : N.Rec)] ++ more).length := by rw [e4, d2]; simp; omega
          rw [← e5] at i2 i3
          obtain ⟨m1, m2⟩ := hN5.reslice (l := s.recs ++ [⟨1, 0, t1, q1, ⟨#[]⟩⟩] ++ more) (by rw [← hlen]; exact i1) i2 i3
          have hB6 : w6.heap[B]? = W5.heap[B]? := i2.block B hN5.lt (fun e => (hN5.here B (hN5.orv B e.symm)).2 rfl)
          have hr6 : w6.heap[br]? = W5.heap[br]? := i2.block br (Nat.lt_of_lt_of_le hbrl hb5.size) (fun e => by have := (HV2.out.here br (HV2.out.orv br e.symm)).1; omega)
          have hS6 : (fun Y : World => Y.cell? ⟨br, 0, none⟩ = some (.int .i64 g1) ∧ Y.cell? ⟨br, 1, none⟩ = some (.int .i64 1) ∧ Y.cell? ⟨br, 2, none⟩ = some (.int .i64 0) ∧ Y.cell? ⟨br, 3, none⟩ = some (.int .i64 t1) ∧ Y.cell? ⟨br, 4, none⟩ = some (.int .i64 q1) ∧ Y.cell? ⟨br, 5, none⟩ = some (.string ⟨#[]⟩)) w6 := by
            have e : ∀ j, w6.cell? ⟨br, j, none⟩ = W5.cell? ⟨br, j, none⟩ := fun j => World.cell?_of_block (a := ⟨br, j, none⟩) hr6
            show w6.cell? ⟨br, 0, none⟩ = some (.int .i64 g1) ∧ w6.cell? ⟨br, 1, none⟩ = some (.int .i64 1) ∧ w6.cell? ⟨br, 2, none⟩ = some (.int .i64 0) ∧ w6.cell? ⟨br, 3, none⟩ = some (.int .i64 t1) ∧ w6.cell? ⟨br, 4, none⟩ = some (.int .i64 q1) ∧ w6.cell? ⟨br, 5, none⟩ = some (.string ⟨#[]⟩)
            rw [e, e, e, e, e, e]
            exact HS0.out W5 hb5
          have hS7 : (fun Y : World => Y.cell? ⟨br, 0, none⟩ = some (.int .i64 g1) ∧ Y.cell? ⟨br, 1, none⟩ = some (.int .i64 1) ∧ Y.cell? ⟨br, 2, none⟩ = some (.int .i64 0) ∧ Y.cell? ⟨br, 3, none⟩ = some (.int .i64 t1) ∧ Y.cell? ⟨br, 4, none⟩ = some (.int .i64 q1) ∧ Y.cell? ⟨br, 5, none⟩ = some (.string ⟨#[]⟩)) (w6.setCell ⟨B, 34, none⟩ (.slice p' (n2 + 1) c')) := by
            have e : ∀ j, (w6.setCell ⟨B, 34, none⟩ (.slice p' (n2 + 1) c')).cell? ⟨br, j, none⟩ = w6.cell? ⟨br, j, none⟩ := fun j => World.cell?_of_block (a := ⟨br, j, none⟩) (Below.heap_setCell _ _ _ _ hbrB)
            show (w6.setCell ⟨B, 34, none⟩ (.slice p' (n2 + 1) c')).cell? ⟨br, 0, none⟩ = some (.int .i64 g1) ∧ (w6.setCell ⟨B, 34, none⟩ (.slice p' (n2 + 1) c')).cell? ⟨br, 1, none⟩ = some (.int .i64 1) ∧ (w6.setCell ⟨B, 34, none⟩ (.slice p' (n2 + 1) c')).cell? ⟨br, 2, none⟩ = some (.int .i64 0) ∧ (w6.setCell ⟨B, 34, none⟩ (.slice p' (n2 + 1) c')).cell? ⟨br, 3, none⟩ = some (.int .i64 t1) ∧ (w6.setCell ⟨B, 34, none⟩ (.slice p' (n2 + 1) c')).cell? ⟨br, 4, none⟩ = some (.int .i64 q1) ∧ (w6.setCell ⟨B, 34, none⟩ (.slice p' (n2 + 1) c')).cell? ⟨br, 5, none⟩ = some (.string ⟨#[]⟩)
            rw [e, e, e, e, e, e]
            exact hS6
          have hk25 : KeptB B own' w2 W5 := KeptB.ofBelow (hb4.trans (hb5.mono hb4.size))
          have hk27 : KeptB B own' w2 (w6.setCell ⟨B, 34, none⟩ (.slice p' (n2 + 1) c')) := hk25.trans m2 (fun _ _ e => e)
          have ho : ∀ k, sinceB own' W5 w6 k → own' k ∨ w2.heap.size ≤ k := fun k hk => by
            rcases hk with q | q
            · exact .inl q
            · exact .inr (by have := hk25.size; omega)
          refine ⟨_, _, _, rfl, ?_, ?_, hS6, hS7, _, ?_, HMm.out _ _ _ _ _ HM2.out hk27 ho⟩
          · rw [World.cell?_of_block (a := ⟨B, 34, none⟩) hB6, hN5.cells, ndCells_rv hN5.sz, e5]
          · rw [World.frozen?_of_block (a := ⟨B, 34, none⟩) hB6]; exact hN5.fz 34 (by decide)
          · rw [hnt]
            exact (AftN.from HBu.out HA2.out).trans ⟨m1.nd, hk27, ho⟩
      clear hrc hbrB hbr2 hN5 hb4 hb5
      refine wp_region_held_drew (S := fun Y => Y.cell? ⟨br, 0, none⟩ = some (.int .i64 g1) ∧ Y.cell? ⟨br, 1, none⟩ = some (.int .i64 1) ∧ Y.cell? ⟨br, 2, none⟩ = some (.int .i64 0) ∧ Y.cell? ⟨br, 3, none⟩ = some (.int .i64 t1) ∧ Y.cell? ⟨br, 4, none⟩ = some (.int .i64 q1) ∧ Y.cell? ⟨br, 5, none⟩ = some (.string ⟨#[]⟩)) (by kernel_rfl) (HS0.out _ (Below.refl _ _).drew) (fun hHeld => ?_)
      refine take7 (i := 0) (d := 41) (v := .pointer (some ⟨B, 0, none⟩)) rfl rfl (by kernel_rfl) (by kernel_rfl) (by kernel_rfl) (fun _ _ _ h => h) (Or.inl ⟨by rfl, ?_⟩) (by assumption) ?_
      · intro X hSw
        go_simp
      simp only [Act.put, List.setIfInBounds_toArray, List.set_cons_zero, List.set_cons_succ]
      refine take7 (i := 1) (d := 42) (v := .pointer (some ⟨B, 0, none⟩)) rfl rfl (by kernel_rfl) (by kernel_rfl) (by kernel_rfl) (fun _ _ _ h => h) (Or.inl ⟨by rfl, ?_⟩) (by assumption) ?_
      · intro X hSw
        go_simp
      simp only [Act.put, List.setIfInBounds_toArray, List.set_cons_zero, List.set_cons_succ]
      refine take7 (i := 2) (d := 43) (v := .pointer (some ⟨B, 0, none⟩)) rfl rfl (by kernel_rfl) (by kernel_rfl) (by kernel_rfl) (fun _ _ _ h => h) (Or.inl ⟨by rfl, ?_⟩) (by assumption) ?_
      · intro X hSw
        go_simp
      simp only [Act.put, List.setIfInBounds_toArray, List.set_cons_zero, List.set_cons_succ]
      refine take7 (i := 3) (d := 44) (v := .pointer (some ⟨B, 34, none⟩)) rfl rfl (by kernel_rfl) (by kernel_rfl) (by kernel_rfl) (fun _ _ _ h => h) (Or.inl ⟨by rfl, ?_⟩) (by assumption) ?_
      · intro X hSw
        go_simp
      simp only [Act.put, List.setIfInBounds_toArray, List.set_cons_zero, List.set_cons_succ]
      refine take7 (i := 5) (d := 46) (v := .int .i64 (n : Int)) rfl rfl (by kernel_rfl) (by kernel_rfl) (by kernel_rfl) (fun _ _ _ h => h) (Or.inl ⟨by rfl, ?_⟩) (by assumption) ?_
      · intro X hSw
        go_simp
      simp only [Act.put, List.setIfInBounds_toArray, List.set_cons_zero, List.set_cons_succ]
      refine take7 (i := 6) (d := 47) (v := .agg #[.int .i64 g1, .int .i64 1, .int .i64 0, .int .i64 t1, .int .i64 q1, .string ⟨#[]⟩]) rfl rfl (by kernel_rfl) (by kernel_rfl) (by kernel_rfl) (fun _ _ _ h => h) (Or.inl ⟨by rfl, ?_⟩) (by assumption) ?_
      · intro X hSw
        go_simp
      simp only [Act.put, List.setIfInBounds_toArray, List.set_cons_zero, List.set_cons_succ]
      refine wpAnyH_ready (rs := [4, 7]) (by kernel_rfl) (by simp) ?_
      refine AllReadyH.cons rfl (fun K hK => ?_) (AllReadyH.cons rfl (fun K hK => ?_) AllReadyH.nil)
      · go_simp
        refine hK.out _ _ (HS0.out _ (Below.refl _ _).drew) (fun hHeld2 => ?_)
        clear hK K hHeld
        refine wpAnyH_ready (rs := [7]) (by kernel_rfl) (by simp) ?_
        refine AllReadyH.cons rfl (fun K hK => ?_) AllReadyH.nil
        go_simp
        refine hK.out _ _ (HS0.out _ (below_alloc _ _).drew) (fun hHeld3 => ?_)
        clear hK K hHeld2
        refine wpAnyH_ready (rs := [8]) (by kernel_rfl) (by simp) ?_
        refine AllReadyH.cons rfl (fun K hK => ?_) AllReadyH.nil
        go_simp
        go_wp2_with fail
        subst hW5
        refine Calls.mono HIn.out ?_
        rintro e w6 ⟨p', n', c', rfl, j1, j2, s6, s7, own'', j3, j4⟩
        have HS7 : Hid _ := s7
        have HJ3 : Hid _ := j3
        have HJ4 : Hid _ := j4
        clear s7 j3 j4
        go_wp2
        refine hK.out _ _ s6 (fun hHeld4 => ?_)
        clear hK K hHeld3
        refine take7 (i := 9) (d := 50) (v := .pointer (some ⟨B, 0, none⟩)) rfl rfl (by kernel_rfl) (by kernel_rfl) (by kernel_rfl) (fun _ _ _ h => h) (Or.inl ⟨by rfl, ?_⟩) (by assumption) ?_
        · intro X hSw
          go_simp
        simp only [Act.put, List.setIfInBounds_toArray, List.set_cons_zero, List.set_cons_succ]
        refine take7 (i := 10) (d := 51) (v := .pointer (some ⟨B, 34, none⟩)) rfl rfl (by kernel_rfl) (by kernel_rfl) (by kernel_rfl) (fun _ _ _ h => h) (Or.inl ⟨by rfl, ?_⟩) (by assumption) ?_
        · intro X hSw
          go_simp
        simp only [Act.put, List.setIfInBounds_toArray, List.set_cons_zero, List.set_cons_succ]
        refine wpAnyH_ready (rs := [11]) (by kernel_rfl) (by simp) ?_
        refine AllReadyH.cons rfl (fun K hK => ?_) AllReadyH.nil
        go_simp
        refine hK.out _ _ HS7.out (fun hHeld5 => ?_)
        clear hK K hHeld4 s6 HS7
        refine wpAnyH_done (by kernel_rfl) ?_ _
        clear hHeld5
        go_wp2
        go_ret
        exact ⟨po, no, co, own'', rfl, HJ3.out, HJ4.out⟩
      · go_simp
        refine hK.out _ _ (HS0.out _ (below_alloc _ _).drew) (fun hHeld2 => ?_)
        clear hK K hHeld
        refine wpAnyH_ready (rs := [4]) (by kernel_rfl) (by simp) ?_
        refine AllReadyH.cons rfl (fun K hK => ?_) AllReadyH.nil
        go_simp
        refine hK.out _ _ (HS0.out _ (below_alloc _ _).drew) (fun hHeld3 => ?_)
        clear hK K hHeld2
        refine wpAnyH_ready (rs := [8]) (by kernel_rfl) (by simp) ?_
        refine AllReadyH.cons rfl (fun K hK => ?_) AllReadyH.nil
        go_simp
        go_wp2_with fail
        subst hW5
        refine Calls.mono HIn.out ?_
        rintro e w6 ⟨p', n', c', rfl, j1, j2, s6, s7, own'', j3, j4⟩
        have HS7 : Hid _ := s7
        have HJ3 : Hid _ := j3
        have HJ4 : Hid _ := j4
        clear s7 j3 j4
        go_wp2
        refine hK.out _ _ s6 (fun hHeld4 => ?_)
        clear hK K hHeld3
        refine take7 (i := 9) (d := 50) (v := .pointer (some ⟨B, 0, none⟩)) rfl rfl (by kernel_rfl) (by kernel_rfl) (by kernel_rfl) (fun _ _ _ h => h) (Or.inl ⟨by rfl, ?_⟩) (by assumption) ?_
        · intro X hSw
          go_simp
        simp only [Act.put, List.setIfInBounds_toArray, List.set_cons_zero, List.set_cons_succ]
        refine take7 (i := 10) (d := 51) (v := .pointer (some ⟨B, 34, none⟩)) rfl rfl (by kernel_rfl) (by kernel_rfl) (by kernel_rfl) (fun _ _ _ h => h) (Or.inl ⟨by rfl, ?_⟩) (by assumption) ?_
        · intro X hSw
          go_simp
        simp only [Act.put, List.setIfInBounds_toArray, List.set_cons_zero, List.set_cons_succ]
        refine wpAnyH_ready (rs := [11]) (by kernel_rfl) (by simp) ?_
        refine AllReadyH.cons rfl (fun K hK => ?_) AllReadyH.nil
        go_simp
        refine hK.out _ _ HS7.out (fun hHeld5 => ?_)
        clear hK K hHeld4 s6 HS7
        refine wpAnyH_done (by kernel_rfl) ?_ _
        clear hHeld5
        go_wp2
        go_ret
        exact ⟨po, no, co, own'', rfl, HJ3.out, HJ4.out⟩

end
end Go.Proofs.Yteaopnhjndnpnaa
