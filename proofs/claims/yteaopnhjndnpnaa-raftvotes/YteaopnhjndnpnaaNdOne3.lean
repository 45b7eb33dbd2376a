/-
  A raft node that is alone: it stands.
-/
import Derived.Test.YteaopnhjndnpnaaNdOne2
namespace Go.Proofs.Yteaopnhjndnpnaa
open Go.RowKit

section
variable {w : World} {B : Nat} {s : N.St} {own : Nat → Prop} {LB MB : Nat} {ol : Nat → Prop} {rv : Value}

theorem NdV.votedAt (h : NdV w B s own LB MB ol rv) (j : Nat) (x : Bool) (hj : s.voted[j]? = some x) : w.cell? ⟨B, 13 + j, none⟩ = some (.bool x) := by
  have hl := (List.getElem?_eq_some_iff.1 hj).1
  rw [h.cells (13 + j)]
  have e : (ndCells s LB MB rv)[13 + j]? = (bools s.voted ++ (ints s.next ++ (ints s.mtch ++ [rv])))[j]? := by
    rw [show 13 + j = j + 13 by omega]
    rfl
  rw [e, List.getElem?_append_left (by simpa [bools] using hl)]
  simp [bools, hj]

theorem NdV.setVoted (h : NdV w B s own LB MB ol rv) (o j : Nat) (ho : o = 13 + j) (hj : j < 7) (x : Bool) : NdV (w.setCell ⟨B, o, none⟩ (.bool x)) B { s with voted := s.voted.set j x } own LB MB ol rv := by
  subst ho
  refine h.set (13 + j) (.bool x) (by omega) ?_ rfl rfl rfl ⟨h.sz.id, h.sz.nodes, by rw [List.length_set]; exact h.sz.v, h.sz.n, h.sz.m⟩
  rw [show 13 + j = j + 13 by omega]
  have e : (bools s.voted ++ (ints s.next ++ (ints s.mtch ++ [rv]))).set j (.bool x) = bools (s.voted.set j x) ++ (ints s.next ++ (ints s.mtch ++ [rv])) := by
    rw [List.set_append, if_pos (by simp [bools, h.sz.v]; omega)]
    simp [bools, List.map_set]
  unfold ndCells
  show _ :: _ :: _ :: _ :: _ :: _ :: _ :: _ :: _ :: _ :: _ :: _ :: _ :: (bools s.voted ++ (ints s.next ++ (ints s.mtch ++ [rv]))).set j (.bool x) = _
  rw [e]
theorem NdV.setTerm (h : NdV w B s own LB MB ol rv) (x : Int) : NdV (w.setCell ⟨B, 6, none⟩ (.int .i64 x)) B { s with term := x } own LB MB ol rv :=
  h.set 6 (.int .i64 x) (by decide) rfl rfl rfl rfl ⟨h.sz.id, h.sz.nodes, h.sz.v, h.sz.n, h.sz.m⟩
theorem NdV.setVote (h : NdV w B s own LB MB ol rv) (x : Int) : NdV (w.setCell ⟨B, 7, none⟩ (.int .i64 x)) B { s with vote := x } own LB MB ol rv :=
  h.set 7 (.int .i64 x) (by decide) rfl rfl rfl rfl ⟨h.sz.id, h.sz.nodes, h.sz.v, h.sz.n, h.sz.m⟩
theorem NdV.setWait (h : NdV w B s own LB MB ol rv) (x : Int) : NdV (w.setCell ⟨B, 11, none⟩ (.int .i64 x)) B { s with wait := x } own LB MB ol rv :=
  h.set 11 (.int .i64 x) (by decide) rfl rfl rfl rfl ⟨h.sz.id, h.sz.nodes, h.sz.v, h.sz.n, h.sz.m⟩
theorem NdV.setLeft (h : NdV w B s own LB MB ol rv) (x : Int) : NdV (w.setCell ⟨B, 12, none⟩ (.int .i64 x)) B { s with left := x } own LB MB ol rv :=
  h.set 12 (.int .i64 x) (by decide) rfl rfl rfl rfl ⟨h.sz.id, h.sz.nodes, h.sz.v, h.sz.n, h.sz.m⟩

theorem KeptB.setB {a : World} (h : KeptB B own a w) (o : Nat) (u : Value) : KeptB B own a (w.setCell ⟨B, o, none⟩ u) := h.setCell ⟨B, o, none⟩ (.inl rfl) u

/-- The state, the voted being written out. -/
def stand0 (s : N.St) : N.St := { s with term := s.term + 1, vote := 0, role := 2, lead := -1, voted := [true, false, false, false, false, false, false] }

theorem stand0_nk (hv : NdV w B s own LB MB ol rv) : Nk w own B (stand0 s) LB MB ol rv ((((((((((((w.setCell ⟨B, 6, none⟩ (.int .i64 (s.term + 1))).setCell ⟨B, 7, none⟩ (.int .i64 0)).setCell ⟨B, 8, none⟩ (.int .i64 2)).setCell ⟨B, 9, none⟩ (.int .i64 (-1))).setCell ⟨B, 13, none⟩ (.bool false)).setCell ⟨B, 14, none⟩ (.bool false)).setCell ⟨B, 15, none⟩ (.bool false)).setCell ⟨B, 16, none⟩ (.bool false)).setCell ⟨B, 17, none⟩ (.bool false)).setCell ⟨B, 18, none⟩ (.bool false)).setCell ⟨B, 19, none⟩ (.bool false)).setCell ⟨B, 13, none⟩ (.bool true)).drew.drew := by
  obtain ⟨a0, a1, a2, a3, a4, a5, a6, ea⟩ := seven s.voted hv.sz.v
  have h1 := (((hv.setTerm (s.term + 1)).setVote 0).setRole 2).setLead (-1)
  have h2 := (((h1.setVoted 13 0 rfl (by decide) false).setVoted 14 1 rfl (by decide) false).setVoted 15 2 rfl (by decide) false).setVoted 16 3 rfl (by decide) false
  have h3 := (((h2.setVoted 17 4 rfl (by decide) false).setVoted 18 5 rfl (by decide) false).setVoted 19 6 rfl (by decide) false).setVoted 13 0 rfl (by decide) true
  have e : ((((((((s.voted.set 0 false).set 1 false).set 2 false).set 3 false).set 4 false).set 5 false).set 6 false).set 0 true) = [true, false, false, false, false, false, false] := by rw [ea]; rfl
  dsimp only at h3
  rw [e] at h3
  refine Nk.below ⟨h3, ?_⟩ (Below.refl _ _).drew.drew
  iterate 12 refine KeptB.setB ?_ _ _
  exact KeptB.refl _ _ _

set_option maxHeartbeats 1600000 in
set_option maxRecDepth 20000 in
theorem stand_one (h : Nd w B s own) (h1 : One s) (draw : Int) (ht : 0 ≤ s.term ∧ s.term < 1099511627776) (he : G.appE s.log (s.term + 1, ⟨#[]⟩) = 0) (hr : s.recs.length ≤ 999999999) :
    Calls Try.prog 42 #[.pointer (some ⟨B, 0, none⟩), .int .i64 draw] w fun e w' => e = .returned (.slice none 0 0) ∧ ∃ own', AftN own w w' B (N.standS s draw) own' := by
  obtain ⟨LB, MB, ol, rv, hv⟩ := h
  have k1 : w.cell? ⟨B, 1, none⟩ = some (.int .i64 0) := by have := hv.at 1 _ rfl; rw [h1.id] at this; exact this
  have k6 := hv.at 6 _ rfl
  have k7 := hv.at 7 _ rfl
  have k8 := hv.at 8 _ rfl
  have k9 := hv.at 9 _ rfl
  have f6 := hv.fz 6 (by decide)
  have f7 := hv.fz 7 (by decide)
  have f8 := hv.fz 8 (by decide)
  have f9 := hv.fz 9 (by decide)
  obtain ⟨a0, a1, a2, a3, a4, a5, a6, ea⟩ := seven s.voted hv.sz.v
  have v0 : w.cell? ⟨B, 13, none⟩ = some (.bool a0) := hv.votedAt 0 a0 (by rw [ea]; rfl)
  have v1 : w.cell? ⟨B, 14, none⟩ = some (.bool a1) := hv.votedAt 1 a1 (by rw [ea]; rfl)
  have v2 : w.cell? ⟨B, 15, none⟩ = some (.bool a2) := hv.votedAt 2 a2 (by rw [ea]; rfl)
  have v3 : w.cell? ⟨B, 16, none⟩ = some (.bool a3) := hv.votedAt 3 a3 (by rw [ea]; rfl)
  have v4 : w.cell? ⟨B, 17, none⟩ = some (.bool a4) := hv.votedAt 4 a4 (by rw [ea]; rfl)
  have v5 : w.cell? ⟨B, 18, none⟩ = some (.bool a5) := hv.votedAt 5 a5 (by rw [ea]; rfl)
  have v6 : w.cell? ⟨B, 19, none⟩ = some (.bool a6) := hv.votedAt 6 a6 (by rw [ea]; rfl)
  have fz13 := hv.fz 13 (by decide)
  have fz14 := hv.fz 14 (by decide)
  have fz15 := hv.fz 15 (by decide)
  have fz16 := hv.fz 16 (by decide)
  have fz17 := hv.fz 17 (by decide)
  have fz18 := hv.fz 18 (by decide)
  have fz19 := hv.fz 19 (by decide)
  have t1 : (s.term == 1099511627776) = false := by simp; omega
  have hw1 : IntKind.i64.wrap (s.term + 1) = s.term + 1 := by rw [IntKind.wrap_i64]; omega
  have HV : Hid _ := hv
  have H1 : Hid (One s) := h1
  have HE : Hid (G.appE s.log (s.term + 1, ⟨#[]⟩) = 0) := he
  have HR : Hid (s.recs.length ≤ 999999999) := hr
  have HT : Hid (0 ≤ s.term ∧ s.term < 1099511627776) := ht
  obtain ⟨tm, htm⟩ : ∃ tm, tm = s.term := ⟨_, rfl⟩
  rw [← htm] at k6 t1 hw1
  have HTM : Hid (tm = s.term) := htm
  clear h1 he hr ht hv ea htm
  go_enter Try.func42, Try.ntmps42
  go_wp2
  go_region
  go_wp2
  go_region
  go_wp2_with fail
  have hNk := stand0_nk HV.out
  rw [← HTM.out] at hNk
  obtain ⟨Z, hZ⟩ : ∃ Z, Z = ((((((((((((w.setCell ⟨B, 6, none⟩ (.int .i64 (tm + 1))).setCell ⟨B, 7, none⟩ (.int .i64 0)).setCell ⟨B, 8, none⟩ (.int .i64 2)).setCell ⟨B, 9, none⟩ (.int .i64 (-1))).setCell ⟨B, 13, none⟩ (.bool false)).setCell ⟨B, 14, none⟩ (.bool false)).setCell ⟨B, 15, none⟩ (.bool false)).setCell ⟨B, 16, none⟩ (.bool false)).setCell ⟨B, 17, none⟩ (.bool false)).setCell ⟨B, 18, none⟩ (.bool false)).setCell ⟨B, 19, none⟩ (.bool false)).setCell ⟨B, 13, none⟩ (.bool true)).drew.drew := ⟨_, rfl⟩
  rw [← hZ] at hNk ⊢
  refine Calls.mono (waitOf_c _ _) ?_
  rintro e w2 ⟨rfl, hw2⟩
  subst hw2
  have HN2 : Hid _ := hNk
  have y11 := hNk.nd.at 11 _ rfl
  have g11 := hNk.nd.fz 11 (by decide)
  have y12 := hNk.nd.at 12 _ rfl
  have g12 := hNk.nd.fz 12 (by decide)
  clear hZ hNk k1 k6 k7 k8 k9 f6 f7 f8 f9 v0 v1 v2 v3 v4 v5 v6 fz13 fz14 fz15 fz16 fz17 fz18 fz19 t1 hw1
  obtain ⟨wo, hwo⟩ : ∃ wo, wo = N.waitOf draw := ⟨_, rfl⟩
  have HWo : Hid (wo = N.waitOf draw) := hwo
  rw [← hwo]
  clear hwo
  go_wp2_with fail
  have hS : N.stand1 s draw = { stand0 s with wait := wo, left := wo } := by
    unfold N.stand1 stand0
    rw [HWo.out, H1.out.id]
    rfl
  have hN3 : Nk w own B (N.stand1 s draw) LB MB ol rv ((w2.setCell ⟨B, 11, none⟩ (.int .i64 wo)).setCell ⟨B, 12, none⟩ (.int .i64 wo)) := by
    rw [hS]
    exact ⟨(HN2.out.nd.setWait wo).setLeft wo, (HN2.out.kept.setB _ _).setB _ _⟩
  obtain ⟨Y, hY⟩ : ∃ Y, Y = (w2.setCell ⟨B, 11, none⟩ (.int .i64 wo)).setCell ⟨B, 12, none⟩ (.int .i64 wo) := ⟨_, rfl⟩
  rw [← hY] at hN3 ⊢
  clear hY y11 g11 y12 g12 HN2
  have hel : N.isElected (N.stand1 s draw) = true := by
    rw [hS]
    unfold N.isElected stand0
    dsimp only
    rw [H1.out.nodes]
    rfl
  have HEl : Hid (Calls Try.prog 64 #[.pointer (some ⟨B, 0, none⟩)] Y fun e w' => e = .returned (.bool true) ∧ w' = Y) := by
    have := isElected_c hN3.nd.nd
    rw [hel] at this
    exact this
  have HFin : Hid (N.standS s draw = N.takeLead (N.stand1 s draw)) := by
    unfold N.standS
    rw [if_neg (by have := HT.out; omega), if_pos hel]
    rfl
  have HTk : Hid (Calls Try.prog 65 #[.pointer (some ⟨B, 0, none⟩)] Y fun e w' => e = .returned (.slice none 0 0) ∧ ∃ own', AftN own w w' B (N.standS s draw) own') := by
    refine (takeLead_one hN3.nd.nd (by rw [hS]; exact ⟨H1.out.nodes, H1.out.id⟩) HE.out HR.out).mono ?_
    rintro e w' ⟨rfl, own', ha⟩
    rw [HFin.out]
    exact ⟨rfl, own', hN3.aft.trans ha⟩
  clear hS hN3 hel
  refine Calls.mono HEl.out ?_
  rintro e w3 ⟨rfl, hw3⟩
  subst hw3
  go_wp2_with fail
  refine Calls.mono HTk.out ?_
  rintro e w4 ⟨rfl, hb⟩
  have HB4 : Hid _ := hb
  clear hb
  go_wp2
  go_ret
  exact ⟨rfl, HB4.out⟩

end
end Go.Proofs.Yteaopnhjndnpnaa
