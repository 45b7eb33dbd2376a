/-
  A raft node's base is another one.
-/
import Derived.Test.YteaopnhjndnpnabNdOne3
namespace Go.Proofs.Yteaopnhjndnpnab
open Go.RowKit

section
variable {w : World} {B : Nat} {s : N.St} {own : Nat → Prop}

theorem has_c (h : Nd w B s own) (i t : Int) : Calls Try.prog 53 #[.pointer (some ⟨B, 0, none⟩), .int .i64 i, .int .i64 t] w fun e w' => e = .returned (.bool (N.has s i t)) ∧ ∃ m, w' = w.drewN m := by
  obtain ⟨LB, MB, ol, rv, hv⟩ := h
  have k4 := hv.at 4 _ rfl
  have HT : Hid _ := Term_c hv.log i
  unfold N.has
  generalize G.termE s.log i = te at *
  generalize G.termA s.log i = ta at *
  clear hv
  by_cases c : te = 0
  · subst c
    by_cases c2 : ta = t
    · have c3 : (ta == t) = true := by simpa using c2
      have c4 : decide (ta = t) = true := decide_eq_true c2
      clear c2
      go_enter Try.func53, Try.ntmps53
      go_wp2_with fail
      refine Calls.mono HT.out ?_
      rintro e w1 ⟨rfl, m, hw⟩
      go_wp2
      go_ret
      exact ⟨by rw [c4]; rfl, m, by first | rfl | exact hw⟩
    · have c3 : (ta == t) = false := by simpa using c2
      have c4 : decide (ta = t) = false := decide_eq_false c2
      clear c2
      go_enter Try.func53, Try.ntmps53
      go_wp2_with fail
      refine Calls.mono HT.out ?_
      rintro e w1 ⟨rfl, m, hw⟩
      go_wp2
      go_ret
      exact ⟨by rw [c4]; rfl, m, by first | rfl | exact hw⟩
  · have c3 : (te == 0) = false := by simpa using c
    have c4 : decide (te = 0) = false := decide_eq_false c
    clear c
    go_enter Try.func53, Try.ntmps53
    go_wp2_with fail
    refine Calls.mono HT.out ?_
    rintro e w1 ⟨rfl, m, hw⟩
    go_wp2
    go_ret
    exact ⟨by rw [c4]; rfl, m, by first | rfl | exact hw⟩

theorem NdV.setData {LB MB : Nat} {ol : Nat → Prop} {rv : Value} (h : NdV w B s own LB MB ol rv) (x : ByteArray) : NdV (w.setCell ⟨B, 5, none⟩ (.string x)) B { s with data := x } own LB MB ol rv :=
  h.set 5 (.string x) (by decide) rfl rfl rfl rfl ⟨h.sz.id, h.sz.nodes, h.sz.v, h.sz.n, h.sz.m⟩

set_option maxHeartbeats 1600000 in
set_option maxRecDepth 20000 in
/-- Where the term at the index is the base's. -/
theorem rebase_in (h : Nd w B s own) (i t : Int) (d : ByteArray) (hh : N.has s i t = true) (hd : d.size ≤ 262144) (hr : s.recs.length ≤ 1000000000) :
    Calls Try.prog 30 #[.pointer (some ⟨B, 0, none⟩), .int .i64 i, .int .i64 t, .string d] w fun e w' => e = .returned (.tuple #[]) ∧ ∃ own', AftN own w w' B (N.rebase s i t d) own' := by
  have HH : Hid _ := has_c h i t
  rw [hh] at HH
  have HR : Hid (N.rebase s i t d = { s with log := G.cmp s.log i, data := d, recs := s.recs ++ [⟨4, i, t, 0, d⟩] }) := by
    unfold N.rebase
    rw [hh, if_pos rfl]
    rfl
  obtain ⟨LB, MB, ol, rv, hv⟩ := h
  have k4 := hv.at 4 _ rfl
  have hlt := hv.lt
  have HCo : Hid (∀ m, Calls Try.prog 54 #[.pointer (some ⟨LB, 0, none⟩), .int .i64 i] (w.drewN m) fun e w' => (∃ y, e = .returned y) ∧ ∃ own' ol', NdV w' B { s with log := G.cmp s.log i } own' LB MB ol' rv ∧ KeptB B own w w' ∧ (∀ k, own' k → own k ∨ w.heap.size ≤ k)) := fun m => by
    refine (Compact_c (hv.log.drewN m) i).mono ?_
    rintro e w' ⟨rfl, ha⟩
    obtain ⟨n1, n2⟩ := (hv.below (below_drewN w m)).logged ha
    refine ⟨⟨_, rfl⟩, _, _, n1, ⟨n2.os, n2.tape, n2.output, n2.size, n2.block⟩, fun k hk => ?_⟩
    rcases hk with q | q
    · exact .inl q
    · exact .inr q.1
  have HD : Hid (d.size ≤ 262144) := hd
  have HN : Hid (s.recs.length ≤ 1000000000) := hr
  clear hh hd hr hv
  go_enter Try.func30, Try.ntmps30
  go_wp2_with fail
  refine Calls.mono HH.out ?_
  rintro e w1 ⟨rfl, m, hw⟩
  subst hw
  have k4' : (w.drewN m).cell? ⟨B, 4, none⟩ = some (.pointer (some ⟨LB, 0, none⟩)) := k4
  go_wp2_with fail
  refine Calls.mono (HCo.out m) ?_
  rintro e w2 ⟨⟨y, rfl⟩, own2, ol2, hv2, hk2, ho2⟩
  have HV2 : Hid _ := hv2
  have HK2 : Hid _ := hk2
  have HO2 : Hid _ := ho2
  clear hv2 hk2 ho2 k4 k4' hlt HCo HH
  go_wp2_with fail
  refine Calls.mono (Clone_any d _ (by have := HD.out; omega)) ?_
  rintro e w3 ⟨rfl, hb3⟩
  have hv3 := NdV.below HV2.out hb3
  have y5 := hv3.at 5 _ rfl
  have f5 := hv3.fz 5 (by decide)
  obtain ⟨X, hX⟩ : ∃ X, X = w3.setCell ⟨B, 5, none⟩ (.string d) := ⟨_, rfl⟩
  have hvX : NdV X B { s with log := G.cmp s.log i, data := d } own2 LB MB ol2 rv := by rw [hX]; exact hv3.setData d
  have hkX : KeptB B own w X := by
    rw [hX]
    exact (KeptB.trans HK2.out (KeptB.ofBelow (own := own) hb3) (fun _ _ e => e)).setB _ _
  obtain ⟨g, hg⟩ : ∃ g, g = s.group := ⟨_, rfl⟩
  have HG : Hid (g = s.group) := hg
  have k0 : X.cell? ⟨B, 0, none⟩ = some (.int .i64 g) := by rw [hg]; exact hvX.at 0 _ rfl
  have k5 : X.cell? ⟨B, 5, none⟩ = some (.string d) := hvX.at 5 _ rfl
  have hlB := hvX.lt
  obtain ⟨p, c, hrv, hc1, hc2⟩ := hvX.row.form
  obtain ⟨n, hn⟩ : ∃ n, n = s.recs.length := ⟨_, rfl⟩
  have HNn : Hid (n = s.recs.length) := hn
  have hrv' : rv = .slice p n c := by rw [hn]; exact hrv
  have k34 : X.cell? ⟨B, 34, none⟩ = some (.slice p n c) := by rw [hvX.cells, ndCells_rv hvX.sz, hrv']
  obtain ⟨W, hW⟩ : ∃ W, W = (X.alloc (.cells #[.int .i64 g, .int .i64 4, .int .i64 i, .int .i64 t, .int .i64 0, .string d] 82)).drew := ⟨_, rfl⟩
  have HGb : Hid (Below X.heap.size X W) := by rw [hW]; exact (below_alloc X _).drew
  have HRw : Hid (RowC W 6 (.slice p n c) n (recCells s.group s.recs)) := by
    have := hvX.row.carry (w' := W) (fun k hk => HGb.out.block k (hvX.here k (hvX.orv k hk)).1)
    rw [hrv'] at this
    rw [hn] at this ⊢
    exact this
  have HSrc : Hid (Src Try.prog 6 54 (.slice (some ⟨X.heap.size, 0, none⟩) 1 1) 1 [.int .i64 g, .int .i64 4, .int .i64 i, .int .i64 t, .int .i64 0, .string d] W) := by
    refine Src.ofSlice W Try.underlying54 _ _ _ _ rfl (fun j u hu => ?_) (fun u hu => by simp at hu; rcases hu with rfl | rfl | rfl | rfl | rfl | rfl <;> rfl)
    rw [Addr.add_lit, Nat.zero_add, hW]
    show (X.alloc _).cell? _ = _
    rw [World.cell?_alloc_mark]
    simpa using hu
  have hL1 : Hid ((n + 1) * 56 ≤ 140737488355328) := by have := HN.out; show _ ≤ _; omega
  have hL2 : Hid (n + 1 ≤ maxLen) := by have := HN.out; unfold maxLen; show _ ≤ _; omega
  have HEnd : Hid (∀ w4 v', RowC w4 6 v' (n + 1) (recCells s.group s.recs ++ [.int .i64 g, .int .i64 4, .int .i64 i, .int .i64 t, .int .i64 0, .string d]) → W.grownBy w4 (cBlk (.slice p n c)) → (∀ k, cBlk v' = some k → cBlk (.slice p n c) = some k ∨ W.heap.size ≤ k) →
      Hid (∃ own'', AftN own w (w4.setCell ⟨B, 34, none⟩ v') B (N.rebase s i t d) own'') ∧ w4.cell? ⟨B, 34, none⟩ = some (.slice p n c) ∧ w4.frozen? ⟨B, 34, none⟩ = false ∧ ∃ p' c', v' = .slice p' (n + 1) c') := by
    intro w4 v' a1 a2 a3
    rw [← hrv'] at a2 a3
    rw [hg] at a1
    have := recGo (r := ⟨4, i, t, 0, d⟩) hvX hkX HO2.out HNn.out HGb.out a1 a2 a3
    rw [HR.out, ← hrv']
    exact this
  have HS0 : Hid (∀ Y, Below X.heap.size X Y → Y.cell? ⟨B, 0, none⟩ = some (.int .i64 g) ∧ Y.cell? ⟨B, 5, none⟩ = some (.string d)) := fun Y hY => ⟨(hY.cell (p := ⟨B, 0, none⟩) hlB).trans k0, (hY.cell (p := ⟨B, 5, none⟩) hlB).trans k5⟩
  have HS4 : Hid (∀ w4 v', W.grownBy w4 (cBlk (.slice p n c)) → ((fun Y : World => Y.cell? ⟨B, 0, none⟩ = some (.int .i64 g) ∧ Y.cell? ⟨B, 5, none⟩ = some (.string d)) w4 ∧ (fun Y : World => Y.cell? ⟨B, 0, none⟩ = some (.int .i64 g) ∧ Y.cell? ⟨B, 5, none⟩ = some (.string d)) (w4.setCell ⟨B, 34, none⟩ v'))) := by
    intro w4 v' hg4
    have hB4 : w4.heap[B]? = W.heap[B]? := hg4.block B (Nat.lt_of_lt_of_le hlB HGb.out.size) (fun e => (hvX.here B (hvX.orv B (by rw [hrv']; exact e.symm))).2 rfl)
    obtain ⟨z0, z1⟩ := HS0.out W HGb.out
    have y0 : w4.cell? ⟨B, 0, none⟩ = some (.int .i64 g) := (World.cell?_of_block (a := ⟨B, 0, none⟩) hB4).trans z0
    have y1 : w4.cell? ⟨B, 5, none⟩ = some (.string d) := (World.cell?_of_block (a := ⟨B, 5, none⟩) hB4).trans z1
    have y34 : w4.cell? ⟨B, 34, none⟩ = some rv := by
      rw [World.cell?_of_block (a := ⟨B, 34, none⟩) hB4, HGb.out.cell (p := ⟨B, 34, none⟩) hlB, hvX.cells, ndCells_rv hvX.sz]
    exact ⟨⟨y0, y1⟩, by show _ = _; rw [cell_set6 _ y34, if_neg (by decide)]; exact y0, by rw [cell_set6 _ y34, if_neg (by decide)]; exact y1⟩
  clear hv3 hvX hkX hrv hrv' hc1 hc2 hg hn hb3
  subst hW
  go_wp2
  rw [← hX]
  clear hX y5 f5
  refine wp_region_held_drew (S := fun Y => Y.cell? ⟨B, 0, none⟩ = some (.int .i64 g) ∧ Y.cell? ⟨B, 5, none⟩ = some (.string d)) (by kernel_rfl) (HS0.out _ (Below.refl _ _).drew) (fun hHeld => ?_)
  refine take7 (i := 0) (d := 32) (v := .pointer (some ⟨B, 0, none⟩)) rfl rfl (by kernel_rfl) (by kernel_rfl) (by kernel_rfl) (fun _ _ _ h => h) (Or.inl ⟨by rfl, ?_⟩) (by assumption) ?_
  · intro X hSw
    go_simp
  simp only [Act.put, List.setIfInBounds_toArray, List.set_cons_zero, List.set_cons_succ]
  refine take7 (i := 1) (d := 33) (v := .pointer (some ⟨B, 0, none⟩)) rfl rfl (by kernel_rfl) (by kernel_rfl) (by kernel_rfl) (fun _ _ _ h => h) (Or.inl ⟨by rfl, ?_⟩) (by assumption) ?_
  · intro X hSw
    go_simp
  simp only [Act.put, List.setIfInBounds_toArray, List.set_cons_zero, List.set_cons_succ]
  refine take7 (i := 2) (d := 34) (v := .pointer (some ⟨B, 0, none⟩)) rfl rfl (by kernel_rfl) (by kernel_rfl) (by kernel_rfl) (fun _ _ _ h => h) (Or.inl ⟨by rfl, ?_⟩) (by assumption) ?_
  · intro X hSw
    go_simp
  simp only [Act.put, List.setIfInBounds_toArray, List.set_cons_zero, List.set_cons_succ]
  refine take7 (i := 3) (d := 35) (v := .pointer (some ⟨B, 34, none⟩)) rfl rfl (by kernel_rfl) (by kernel_rfl) (by kernel_rfl) (fun _ _ _ h => h) (Or.inl ⟨by rfl, ?_⟩) (by assumption) ?_
  · intro X hSw
    go_simp
  simp only [Act.put, List.setIfInBounds_toArray, List.set_cons_zero, List.set_cons_succ]
  refine take7 (i := 5) (d := 37) (v := .pointer (some ⟨B, 0, none⟩)) rfl rfl (by kernel_rfl) (by kernel_rfl) (by kernel_rfl) (fun _ _ _ h => h) (Or.inl ⟨by rfl, ?_⟩) (by assumption) ?_
  · intro X hSw
    go_simp
  simp only [Act.put, List.setIfInBounds_toArray, List.set_cons_zero, List.set_cons_succ]
  refine take7 (i := 6) (d := 38) (v := .pointer (some ⟨B, 0, none⟩)) rfl rfl (by kernel_rfl) (by kernel_rfl) (by kernel_rfl) (fun _ _ _ h => h) (Or.inl ⟨by rfl, ?_⟩) (by assumption) ?_
  · intro X hSw
    go_simp
  simp only [Act.put, List.setIfInBounds_toArray, List.set_cons_zero, List.set_cons_succ]
  refine take7 (i := 7) (d := 39) (v := .pointer (some ⟨B, 0, none⟩)) rfl rfl (by kernel_rfl) (by kernel_rfl) (by kernel_rfl) (fun _ _ _ h => h) (Or.inl ⟨by rfl, ?_⟩) (by assumption) ?_
  · intro X hSw
    go_simp
  simp only [Act.put, List.setIfInBounds_toArray, List.set_cons_zero, List.set_cons_succ]
  refine take7 (i := 8) (d := 40) (v := .int .i64 g) rfl rfl (by kernel_rfl) (by kernel_rfl) (by kernel_rfl) (fun _ _ _ h => h) (Or.inl ⟨by rfl, ?_⟩) (by assumption) ?_
  · intro X hSw
    go_simp
  simp only [Act.put, List.setIfInBounds_toArray, List.set_cons_zero, List.set_cons_succ]
  refine take7 (i := 9) (d := 41) (v := .int .i64 i) rfl rfl (by kernel_rfl) (by kernel_rfl) (by kernel_rfl) (fun _ _ _ h => h) (Or.inl ⟨by rfl, ?_⟩) (by assumption) ?_
  · intro X hSw
    go_simp
  simp only [Act.put, List.setIfInBounds_toArray, List.set_cons_zero, List.set_cons_succ]
  refine take7 (i := 10) (d := 42) (v := .int .i64 t) rfl rfl (by kernel_rfl) (by kernel_rfl) (by kernel_rfl) (fun _ _ _ h => h) (Or.inl ⟨by rfl, ?_⟩) (by assumption) ?_
  · intro X hSw
    go_simp
  simp only [Act.put, List.setIfInBounds_toArray, List.set_cons_zero, List.set_cons_succ]
  refine take7 (i := 11) (d := 43) (v := .pointer (some ⟨B, 0, none⟩)) rfl rfl (by kernel_rfl) (by kernel_rfl) (by kernel_rfl) (fun _ _ _ h => h) (Or.inl ⟨by rfl, ?_⟩) (by assumption) ?_
  · intro X hSw
    go_simp
  simp only [Act.put, List.setIfInBounds_toArray, List.set_cons_zero, List.set_cons_succ]
  refine take7 (i := 12) (d := 44) (v := .pointer (some ⟨B, 0, none⟩)) rfl rfl (by kernel_rfl) (by kernel_rfl) (by kernel_rfl) (fun _ _ _ h => h) (Or.inl ⟨by rfl, ?_⟩) (by assumption) ?_
  · intro X hSw
    go_simp
  simp only [Act.put, List.setIfInBounds_toArray, List.set_cons_zero, List.set_cons_succ]
  refine take7 (i := 13) (d := 45) (v := .pointer (some ⟨B, 5, none⟩)) rfl rfl (by kernel_rfl) (by kernel_rfl) (by kernel_rfl) (fun _ _ _ h => h) (Or.inl ⟨by rfl, ?_⟩) (by assumption) ?_
  · intro X hSw
    go_simp
  simp only [Act.put, List.setIfInBounds_toArray, List.set_cons_zero, List.set_cons_succ]
  refine take7 (i := 14) (d := 46) (v := .string d) rfl rfl (by kernel_rfl) (by kernel_rfl) (by kernel_rfl) (fun _ _ _ h => h) (Or.inl ⟨by rfl, ?_⟩) (by assumption) ?_
  · intro X hSw
    go_simp
  simp only [Act.put, List.setIfInBounds_toArray, List.set_cons_zero, List.set_cons_succ]
  refine take7 (i := 15) (d := 47) (v := .agg #[.int .i64 g, .int .i64 4, .int .i64 i, .int .i64 t, .int .i64 0, .string d]) rfl rfl (by kernel_rfl) (by kernel_rfl) (by kernel_rfl) (fun _ _ _ h => h) (Or.inl ⟨by rfl, ?_⟩) (by assumption) ?_
  · intro X hSw
    go_simp
  simp only [Act.put, List.setIfInBounds_toArray, List.set_cons_zero, List.set_cons_succ]
  refine wpAnyH_ready (rs := [4, 16]) (by kernel_rfl) (by simp) ?_
  refine AllReadyH.cons rfl (fun K hK => ?_) (AllReadyH.cons rfl (fun K hK => ?_) AllReadyH.nil)
  · go_simp
    refine hK.out _ _ (HS0.out _ (Below.refl _ _).drew) (fun hHeld2 => ?_)
    clear hK K hHeld
    refine wpAnyH_ready (rs := [16]) (by kernel_rfl) (by simp) ?_
    refine AllReadyH.cons rfl (fun K hK => ?_) AllReadyH.nil
    go_simp
    refine hK.out _ _ (HS0.out _ HGb.out) (fun hHeld3 => ?_)
    clear hK K hHeld2
    refine wpAnyH_ready (rs := [17]) (by kernel_rfl) (by simp) ?_
    refine AllReadyH.cons rfl (fun K hK => ?_) AllReadyH.nil
    refine step7 49 rfl rfl (.tmp 36) (.tmp 48) 54 54 82 rfl Try.underlying54 _ 6 56 infoRec rfl (.slice p n c) n (recCells s.group s.recs) (by simp [Act.eval]) HRw.out _ 1 _ (by simp [Act.eval]) HSrc.out hL1.out hL2.out ?_
    intro v' w4 ho hg hl
    obtain ⟨H1, c1, g1, ⟨p', c', hv'⟩⟩ := HEnd.out w4 v' ho hg hl
    obtain ⟨s4, s5⟩ := HS4.out w4 v' hg
    have HS5 : Hid _ := s5
    subst hv'
    clear ho hg hl s5
    refine hK.out _ _ s4 (fun hHeld4 => ?_)
    clear hK K hHeld3
    simp only [Act.put, List.setIfInBounds_toArray, List.set_cons_zero, List.set_cons_succ]
    refine take7 (i := 18) (d := 50) (v := .pointer (some ⟨B, 0, none⟩)) rfl rfl (by kernel_rfl) (by kernel_rfl) (by kernel_rfl) (fun _ _ _ h => h) (Or.inl ⟨by rfl, ?_⟩) (by assumption) ?_
    · intro X hSw
      go_simp
    simp only [Act.put, List.setIfInBounds_toArray, List.set_cons_zero, List.set_cons_succ]
    refine take7 (i := 19) (d := 51) (v := .pointer (some ⟨B, 34, none⟩)) rfl rfl (by kernel_rfl) (by kernel_rfl) (by kernel_rfl) (fun _ _ _ h => h) (Or.inl ⟨by rfl, ?_⟩) (by assumption) ?_
    · intro X hSw
      go_simp
    simp only [Act.put, List.setIfInBounds_toArray, List.set_cons_zero, List.set_cons_succ]
    refine wpAnyH_ready (rs := [20]) (by kernel_rfl) (by simp) ?_
    refine AllReadyH.cons rfl (fun K hK => ?_) AllReadyH.nil
    go_simp
    refine hK.out _ _ HS5.out (fun hHeld5 => ?_)
    clear hK K hHeld4 s4 HS5
    refine wpAnyH_done (by kernel_rfl) ?_ _
    clear hHeld5
    go_wp2
    exact bodyPost_end (v := .tuple #[]) (by simp [results, Try.results30]) rfl ⟨rfl, H1.out⟩
  · go_simp
    refine hK.out _ _ (HS0.out _ (below_alloc _ _).drew) (fun hHeld2 => ?_)
    clear hK K hHeld
    refine wpAnyH_ready (rs := [4]) (by kernel_rfl) (by simp) ?_
    refine AllReadyH.cons rfl (fun K hK => ?_) AllReadyH.nil
    go_simp
    refine hK.out _ _ (HS0.out _ HGb.out) (fun hHeld3 => ?_)
    clear hK K hHeld2
    refine wpAnyH_ready (rs := [17]) (by kernel_rfl) (by simp) ?_
    refine AllReadyH.cons rfl (fun K hK => ?_) AllReadyH.nil
    refine step7 49 rfl rfl (.tmp 36) (.tmp 48) 54 54 82 rfl Try.underlying54 _ 6 56 infoRec rfl (.slice p n c) n (recCells s.group s.recs) (by simp [Act.eval]) HRw.out _ 1 _ (by simp [Act.eval]) HSrc.out hL1.out hL2.out ?_
    intro v' w4 ho hg hl
    obtain ⟨H1, c1, g1, ⟨p', c', hv'⟩⟩ := HEnd.out w4 v' ho hg hl
    obtain ⟨s4, s5⟩ := HS4.out w4 v' hg
    have HS5 : Hid _ := s5
    subst hv'
    clear ho hg hl s5
    refine hK.out _ _ s4 (fun hHeld4 => ?_)
    clear hK K hHeld3
    simp only [Act.put, List.setIfInBounds_toArray, List.set_cons_zero, List.set_cons_succ]
    refine take7 (i := 18) (d := 50) (v := .pointer (some ⟨B, 0, none⟩)) rfl rfl (by kernel_rfl) (by kernel_rfl) (by kernel_rfl) (fun _ _ _ h => h) (Or.inl ⟨by rfl, ?_⟩) (by assumption) ?_
    · intro X hSw
      go_simp
    simp only [Act.put, List.setIfInBounds_toArray, List.set_cons_zero, List.set_cons_succ]
    refine take7 (i := 19) (d := 51) (v := .pointer (some ⟨B, 34, none⟩)) rfl rfl (by kernel_rfl) (by kernel_rfl) (by kernel_rfl) (fun _ _ _ h => h) (Or.inl ⟨by rfl, ?_⟩) (by assumption) ?_
    · intro X hSw
      go_simp
    simp only [Act.put, List.setIfInBounds_toArray, List.set_cons_zero, List.set_cons_succ]
    refine wpAnyH_ready (rs := [20]) (by kernel_rfl) (by simp) ?_
    refine AllReadyH.cons rfl (fun K hK => ?_) AllReadyH.nil
    go_simp
    refine hK.out _ _ HS5.out (fun hHeld5 => ?_)
    clear hK K hHeld4 s4 HS5
    refine wpAnyH_done (by kernel_rfl) ?_ _
    clear hHeld5
    go_wp2
    exact bodyPost_end (v := .tuple #[]) (by simp [results, Try.results30]) rfl ⟨rfl, H1.out⟩

def compE (s : N.St) (i : Int) : Int := if i ≤ s.log.base then 60 else if s.commit < i then 3 else 0
def compS (s : N.St) (i : Int) (d : ByteArray) : N.St := if compE s i = 0 then N.rebase s i (G.termA s.log i) d else s

set_option maxHeartbeats 800000 in
set_option maxRecDepth 20000 in
theorem CompactN_c (h : Nd w B s own) (i : Int) (d : ByteArray) (hd : d.size ≤ 262144) (hin : s.log.base < i → i ≤ s.commit → G.termE s.log i = 0) (hr : s.recs.length ≤ 1000000000) :
    Calls Try.prog 9 #[.pointer (some ⟨B, 0, none⟩), .int .i64 i, .string d] w fun e w' => e = .returned (.int .i64 (compE s i)) ∧ ∃ own', AftN own w w' B (compS s i d) own' := by
  have HM : Hid _ := made_c h
  obtain ⟨LB, MB, ol, rv, hv⟩ := id h
  have k4 := hv.at 4 _ rfl
  have k10 := hv.at 10 _ rfl
  have HBa : Hid (Calls Try.prog 19 #[.pointer (some ⟨LB, 0, none⟩)] w fun e w' => e = .returned (.int .i64 s.log.base) ∧ w' = w) := Base_c hv.log
  have d1 : decide ((262144 : Int) < (d.size : Int)) = false := decide_eq_false (by omega)
  have HNo : Hid (∀ c, compE s i = c → c ≠ 0 → (∃ own', AftN own w w B (compS s i d) own')) := fun c hc h0 => by
    unfold compS
    rw [hc, if_neg h0]
    exact ⟨own, AftN.same h (Below.refl _ _)⟩
  by_cases c1 : i ≤ s.log.base
  · have e1 : compE s i = 60 := by unfold compE; rw [if_pos c1]
    have HO : Hid _ := HNo.out 60 e1 (by decide)
    rw [e1]
    generalize compS s i d = sp at *
    generalize s.log.base = ba at *
    clear h hv hin hr hd HNo e1 k10
    go_enter Try.func9, Try.ntmps9
    go_wp2_with fail
    refine Calls.mono HM.out ?_
    rintro e w1 ⟨rfl, hw⟩
    subst hw
    go_wp2_with fail
    refine Calls.mono HBa.out ?_
    rintro e w1 ⟨rfl, hw⟩
    subst hw
    go_wp2
    go_ret
    exact ⟨rfl, HO.out⟩
  · by_cases c2 : s.commit < i
    · have e1 : compE s i = 3 := by unfold compE; rw [if_neg c1, if_pos c2]
      have HO : Hid _ := HNo.out 3 e1 (by decide)
      rw [e1]
      generalize compS s i d = sp at *
      generalize s.log.base = ba at *
      generalize s.commit = cm at *
      clear h hv hin hr hd HNo e1
      go_enter Try.func9, Try.ntmps9
      go_wp2_with fail
      refine Calls.mono HM.out ?_
      rintro e w1 ⟨rfl, hw⟩
      subst hw
      go_wp2_with fail
      refine Calls.mono HBa.out ?_
      rintro e w1 ⟨rfl, hw⟩
      subst hw
      go_wp2
      go_ret
      exact ⟨rfl, HO.out⟩
    · have e1 : compE s i = 0 := by unfold compE; rw [if_neg c1, if_neg c2]
      have hte := hin (by omega) (by omega)
      have HTm : Hid _ := termAtN_c h i
      have HRb : Hid (∀ m, Calls Try.prog 30 #[.pointer (some ⟨B, 0, none⟩), .int .i64 i, .int .i64 (G.termA s.log i), .string d] (w.drewN m) fun e w' => e = .returned (.tuple #[]) ∧ ∃ own', AftN own w w' B (compS s i d) own') := fun m => by
        refine (rebase_in (h.below (below_drewN w m)) i (G.termA s.log i) d (by unfold N.has; rw [hte]; simp) hd hr).mono ?_
        rintro e w' ⟨rfl, own', ha⟩
        refine ⟨rfl, own', ?_⟩
        unfold compS
        rw [if_pos e1]
        exact AftN.from (below_drewN w m) ha
      rw [e1]
      generalize compS s i d = sp at *
      generalize G.termA s.log i = ta at *
      generalize s.log.base = ba at *
      generalize s.commit = cm at *
      clear h hv hin hr hd HNo e1 hte
      go_enter Try.func9, Try.ntmps9
      go_wp2_with fail
      refine Calls.mono HM.out ?_
      rintro e w1 ⟨rfl, hw⟩
      subst hw
      go_wp2_with fail
      refine Calls.mono HBa.out ?_
      rintro e w1 ⟨rfl, hw⟩
      subst hw
      go_wp2_with fail
      refine Calls.mono HTm.out ?_
      rintro e w1 ⟨rfl, m, hw⟩
      subst hw
      go_wp2_with fail
      refine Calls.mono (HRb.out m) ?_
      rintro e w2 ⟨rfl, hq⟩
      have HQ : Hid _ := hq
      clear hq
      go_wp2
      go_ret
      exact ⟨rfl, HQ.out⟩

end
end Go.Proofs.Yteaopnhjndnpnab
