/-
  A raft node gives a candidate the vote, or not.
-/
import Derived.Test.YteaopnhjndnpnaaNdOne3
namespace Go.Proofs.Yteaopnhjndnpnaa
open Go.RowKit

section
variable {w : World} {B : Nat} {s : N.St} {own : Nat → Prop}

/-- Whether it gives the vote. -/
def voteOk (s : N.St) (frm term index at_ : Int) : Bool := decide (term = s.term) && decide (s.role = 1) && (decide (s.vote = -1) || decide (s.vote = frm)) && G.newer s.log index at_
/-- The node behind it. -/
def voteS (s : N.St) (frm term index at_ : Int) : N.St := if voteOk s frm term index at_ then { s with vote := frm, left := s.wait } else s

theorem heap_alloc_new' (w : World) (o : Obj) (g : Nat) (hg : g = w.heap.size) : (w.alloc o).heap[g]? = some o := by
  subst hg
  exact heap_alloc_new w o
theorem cell_obj {Y : World} {g : Nat} {cs : Array Value} {t : TypeId} {fr : Nat × Nat} (hY : Y.heap[g]? = some (.cells cs t fr)) (j : Nat) : Y.cell? ⟨g, j, none⟩ = cs[j]? := by
  unfold World.cell?
  rw [hY]
  rfl
theorem frozen_obj {Y : World} {g : Nat} {cs : Array Value} {t : TypeId} (hY : Y.heap[g]? = some (.cells cs t (0, 0))) (j : Nat) : Y.frozen? ⟨g, j, none⟩ = false := by
  unfold World.frozen?
  rw [hY]
  simp
theorem msgs_one {Y : World} {g : Nat} {P : Nat → Prop} {m : N.Msg} (hY : Y.heap[g]? = some (.cells (msgOne m (.slice none 0 0)).toArray 48 (0, 0))) (hP : P g) (he : m.ents = [] := by rfl) : Msgs Y P (.slice (some ⟨g, 0, none⟩) 1 1) [m] := by
  refine ⟨[(m, .slice none 0 0)], rfl, ?_, ?_, ?_⟩
  · refine ⟨rfl, some ⟨g, 0, none⟩, 1, rfl, Nat.le_refl _, by unfold maxLen; omega, .inr ⟨g, 0, rfl, fun j hj => ?_, fun j x hx => ?_⟩⟩
    · have hc : Y.cell? ⟨g, 0 + j, none⟩ = (msgOne m (.slice none 0 0))[j]? := by
        rw [Nat.zero_add, cell_obj hY j]
        exact List.getElem?_toArray
      refine ⟨?_, ?_⟩
      · rw [hc, List.getElem?_eq_getElem (by simpa [msgOne] using hj)]
        rfl
      · exact frozen_obj hY _
    · have hc : Y.cell? ⟨g, 0 + j, none⟩ = (msgOne m (.slice none 0 0))[j]? := by
        rw [Nat.zero_add, cell_obj hY j]
        exact List.getElem?_toArray
      rw [hc]
      simpa [msgCells] using hx
  · intro k hk
    simp [cBlk] at hk
    subst hk
    exact hP
  · intro x hx
    simp at hx
    subst hx
    rw [he]
    exact EntP.nil _ _

set_option maxHeartbeats 1600000 in
set_option maxRecDepth 20000 in
theorem takeVote_c (h : Nd w B s own) (m : N.Msg) (p0 : Option Addr) (n0 c0 : Nat) :
    Calls Try.prog 67 #[.pointer (some ⟨B, 0, none⟩), msgV m (.slice p0 n0 c0)] w fun e w' => ∃ p n c, e = .returned (.slice p n c) ∧ AftN own w w' B (voteS s m.frm m.term m.index m.at_) own ∧ Msgs w' (fun k => w.heap.size ≤ k) (.slice p n c) [{ N.msg (voteS s m.frm m.term m.index m.at_) 2 m.frm with ok := voteOk s m.frm m.term m.index m.at_ }] := by
  obtain ⟨LB, MB, ol, rv, hv⟩ := id h
  obtain ⟨u, hu⟩ : ∃ u, u = w.alloc (.cells (msgOne m (.slice p0 n0 c0)).toArray 48) := ⟨_, rfl⟩
  obtain ⟨bm, hbm⟩ : ∃ bm, bm = w.heap.size := ⟨_, rfl⟩
  have hbu : Below w.heap.size w u := by rw [hu]; exact below_alloc _ _
  have hvu := hv.below hbu
  have hc : ∀ j, u.cell? ⟨bm, j, none⟩ = (msgOne m (.slice p0 n0 c0))[j]? := fun j => by rw [hu, hbm]; exact (World.cell?_alloc_mark w _ _ _ j).trans (List.getElem?_toArray)
  obtain ⟨mf, hmf⟩ : ∃ mf, mf = m.frm := ⟨_, rfl⟩
  obtain ⟨mt, hmt⟩ : ∃ mt, mt = m.term := ⟨_, rfl⟩
  obtain ⟨mi, hmi⟩ : ∃ mi, mi = m.index := ⟨_, rfl⟩
  obtain ⟨ma, hma⟩ : ∃ ma, ma = m.at_ := ⟨_, rfl⟩
  have x2 : u.cell? ⟨bm, 2, none⟩ = some (.int .i64 mf) := by rw [hmf]; exact hc 2
  have x4 : u.cell? ⟨bm, 4, none⟩ = some (.int .i64 mt) := by rw [hmt]; exact hc 4
  have x5 : u.cell? ⟨bm, 5, none⟩ = some (.int .i64 mi) := by rw [hmi]; exact hc 5
  have x6 : u.cell? ⟨bm, 6, none⟩ = some (.int .i64 ma) := by rw [hma]; exact hc 6
  have y4 := hvu.at 4 _ rfl
  have y6 := hvu.at 6 _ rfl
  have y7 := hvu.at 7 _ rfl
  have y8 := hvu.at 8 _ rfl
  have y11 := hvu.at 11 _ rfl
  have y12 := hvu.at 12 _ rfl
  have f7 := hvu.fz 7 (by decide)
  have f12 := hvu.fz 12 (by decide)
  have hbmB : bm ≠ B := by have := hv.lt; omega
  have HNe : Hid (∀ a n, Calls Try.prog 80 #[.pointer (some ⟨LB, 0, none⟩), .int .i64 mi, .int .i64 ma] (u.drewN (a + n)) fun e w' => e = .returned (.bool (G.newer s.log mi ma)) ∧ ∃ k, w' = u.drewN (a + k)) := fun a n => by
    refine (Newer_c (hvu.log.drewN (a + n)) _ _).mono ?_
    rintro e w' ⟨rfl, k, rfl⟩
    exact ⟨rfl, n + k, by rw [World.drewN_drewN, Nat.add_assoc]⟩
  have HV : Hid _ := hvu
  have HBu : Hid _ := hbu
  rw [← hmf, ← hmt, ← hmi, ← hma]
  obtain ⟨bn, hbn⟩ : ∃ bn, bn = G.newer s.log mi ma := ⟨_, rfl⟩
  rw [← hbn] at HNe
  have HOk : Hid (voteOk s mf mt mi ma = (decide (mt = s.term) && decide (s.role = 1) && (decide (s.vote = -1) || decide (s.vote = mf)) && bn)) := by rw [hbn]; rfl
  have HFin : Hid (∀ (b : Bool) (X Y : World) (g : Nat), voteOk s mf mt mi ma = b → AftN own u X B (voteS s mf mt mi ma) own → Below X.heap.size X Y → X.heap.size ≤ g → Y.heap[g]? = some (.cells (msgOne { N.msg (voteS s mf mt mi ma) 2 mf with ok := b } (.slice none 0 0)).toArray 48 (0, 0)) →
      (∃ p n c, Ending.returned (.slice (some ⟨g, 0, none⟩) 1 1) = Ending.returned (.slice p n c) ∧ AftN own w Y B (voteS s mf mt mi ma) own ∧ Msgs Y (fun k => w.heap.size ≤ k) (.slice p n c) [{ N.msg (voteS s mf mt mi ma) 2 mf with ok := voteOk s mf mt mi ma }])) := by
    intro b X Y g hb ha hXY hg hY
    rw [hb]
    have := hbu.size
    have := ha.2.1.size
    refine ⟨_, _, _, rfl, AftN.from hbu (ha.to hXY), msgs_one hY (by omega)⟩
  have HMs : Hid (∀ X st, Nd X B st own → Calls Try.prog 60 #[.pointer (some ⟨B, 0, none⟩), .int .i64 2, .int .i64 mf] X fun e w' => e = .returned (msgV (N.msg st 2 mf) (.slice none 0 0)) ∧ Below X.heap.size X w') := fun X st hX => message_c hX 2 mf
  clear hv hvu hc hbu h hmf hmt hmi hma hbn
  unfold msgV msgOne N.msg at HMs
  dsimp only at HMs
  unfold msgV msgOne at *
  by_cases c1 : s.vote = -1
  · have d1 : (s.vote == -1) = true := by simpa using c1
    by_cases c3 : mt = s.term
    · have d3 : (mt == s.term) = true := by simpa using c3
      by_cases c4 : s.role = 1
      · have d4 : (s.role == 1) = true := by simpa using c4
        have HD : Hid (voteOk s mf mt mi ma = bn) := by show _ = _; rw [HOk.out]; simp [c1, c3, c4]
        clear c1 c3 c4
        cases bn
        · go_enter Try.func67, Try.ntmps67
          go_wp2
          rw [← hu, ← hbm]
          clear hu hbm
          go_quiet (fail)
          go_wp2
          go_quiet (first | (go_at_call 80; exact HNe.out _ _))
          go_wp2_with fail
          refine Calls.mono (HMs.out _ s (HV.out.below (below_drewN _ _)).nd) ?_
          rintro e w2 ⟨rfl, hb2⟩
          have HB2 : Hid _ := hb2
          clear hb2
          go_wp2
          go_ret
          have hS : voteS s mf mt mi ma = s := by unfold voteS; rw [HD.out]; rfl
          refine HFin.out false w2 _ _ HD.out (by rw [hS]; exact AftN.same HV.out.nd ((below_drewN u _).trans HB2.out)) ((below_alloc _ _).trans ((below_alloc _ _).mono (by simp))) (by omega) ?_
          rw [hS]
          exact heap_alloc_new' _ _ _ (by simp)
        · go_enter Try.func67, Try.ntmps67
          go_wp2
          rw [← hu, ← hbm]
          clear hu hbm
          go_quiet (fail)
          go_wp2
          go_quiet (first | (go_at_call 80; exact HNe.out _ _))
          go_wp2
          go_region
          go_wp2_with fail
          have hS : voteS s mf mt mi ma = { s with vote := mf, left := s.wait } := by unfold voteS; rw [HD.out]; rfl
          have HX : Hid (∀ k, Nk u own B { s with vote := mf, left := s.wait } LB MB ol rv (((u.drewN k).setCell ⟨B, 7, none⟩ (.int .i64 mf)).setCell ⟨B, 12, none⟩ (.int .i64 s.wait))) := fun k => ⟨((HV.out.below (below_drewN u k)).setVote mf).setLeft s.wait, ((KeptB.ofBelow (below_drewN u k)).setB _ _).setB _ _⟩
          have HS : Hid _ := hS
          clear hS
          refine Calls.mono (HMs.out _ _ (HX.out _).nd.nd) ?_
          rintro e w2 ⟨rfl, hb2⟩
          have HA2 : Hid (AftN own u w2 B { s with vote := mf, left := s.wait } own) := (HX.out _).aft.to hb2
          clear hb2
          go_wp2
          go_ret
          refine HFin.out true w2 _ _ HD.out (by rw [HS.out]; exact HA2.out) ((below_alloc _ _).trans ((below_alloc _ _).mono (by simp))) (by omega) ?_
          rw [HS.out]
          exact heap_alloc_new' _ _ _ (by simp)
      · have d4 : (s.role == 1) = false := by simpa using c4
        have HD : Hid (voteOk s mf mt mi ma = false) := by show _ = _; rw [HOk.out]; simp [c4]
        clear c1 c3 c4
        go_enter Try.func67, Try.ntmps67
        go_wp2
        rw [← hu, ← hbm]
        clear hu hbm
        go_quiet (fail)
        go_wp2
        go_quiet (fail)
        go_wp2_with fail
        refine Calls.mono (HMs.out _ s (HV.out.below (below_drewN _ _)).nd) ?_
        rintro e w2 ⟨rfl, hb2⟩
        have HB2 : Hid _ := hb2
        clear hb2
        go_wp2
        go_ret
        have hS : voteS s mf mt mi ma = s := by unfold voteS; rw [HD.out]; rfl
        refine HFin.out false w2 _ _ HD.out (by rw [hS]; exact AftN.same HV.out.nd ((below_drewN u _).trans HB2.out)) ((below_alloc _ _).trans ((below_alloc _ _).mono (by simp))) (by omega) ?_
        rw [hS]
        exact heap_alloc_new' _ _ _ (by simp)
    · have d3 : (mt == s.term) = false := by simpa using c3
      have HD : Hid (voteOk s mf mt mi ma = false) := by show _ = _; rw [HOk.out]; simp [c3]
      clear c1 c3
      go_enter Try.func67, Try.ntmps67
      go_wp2
      rw [← hu, ← hbm]
      clear hu hbm
      go_quiet (fail)
      go_wp2
      go_quiet (fail)
      go_wp2_with fail
      refine Calls.mono (HMs.out _ s (HV.out.below (below_drewN _ _)).nd) ?_
      rintro e w2 ⟨rfl, hb2⟩
      have HB2 : Hid _ := hb2
      clear hb2
      go_wp2
      go_ret
      have hS : voteS s mf mt mi ma = s := by unfold voteS; rw [HD.out]; rfl
      refine HFin.out false w2 _ _ HD.out (by rw [hS]; exact AftN.same HV.out.nd ((below_drewN u _).trans HB2.out)) ((below_alloc _ _).trans ((below_alloc _ _).mono (by simp))) (by omega) ?_
      rw [hS]
      exact heap_alloc_new' _ _ _ (by simp)
  · have d1 : (s.vote == -1) = false := by simpa using c1
    by_cases c2 : s.vote = mf
    · have d2 : (s.vote == mf) = true := by simpa using c2
      by_cases c3 : mt = s.term
      · have d3 : (mt == s.term) = true := by simpa using c3
        by_cases c4 : s.role = 1
        · have d4 : (s.role == 1) = true := by simpa using c4
          have HD : Hid (voteOk s mf mt mi ma = bn) := by show _ = _; rw [HOk.out]; simp [c2, c3, c4]
          clear c1 c2 c3 c4
          cases bn
          · go_enter Try.func67, Try.ntmps67
            go_wp2
            rw [← hu, ← hbm]
            clear hu hbm
            go_quiet (fail)
            go_wp2
            go_quiet (first | (go_at_call 80; exact HNe.out _ _))
            go_wp2_with fail
            refine Calls.mono (HMs.out _ s (HV.out.below (below_drewN _ _)).nd) ?_
            rintro e w2 ⟨rfl, hb2⟩
            have HB2 : Hid _ := hb2
            clear hb2
            go_wp2
            go_ret
            have hS : voteS s mf mt mi ma = s := by unfold voteS; rw [HD.out]; rfl
            refine HFin.out false w2 _ _ HD.out (by rw [hS]; exact AftN.same HV.out.nd ((below_drewN u _).trans HB2.out)) ((below_alloc _ _).trans ((below_alloc _ _).mono (by simp))) (by omega) ?_
            rw [hS]
            exact heap_alloc_new' _ _ _ (by simp)
          · go_enter Try.func67, Try.ntmps67
            go_wp2
            rw [← hu, ← hbm]
            clear hu hbm
            go_quiet (fail)
            go_wp2
            go_quiet (first | (go_at_call 80; exact HNe.out _ _))
            go_wp2
            go_region
            go_wp2_with fail
            have hS : voteS s mf mt mi ma = { s with vote := mf, left := s.wait } := by unfold voteS; rw [HD.out]; rfl
            have HX : Hid (∀ k, Nk u own B { s with vote := mf, left := s.wait } LB MB ol rv (((u.drewN k).setCell ⟨B, 7, none⟩ (.int .i64 mf)).setCell ⟨B, 12, none⟩ (.int .i64 s.wait))) := fun k => ⟨((HV.out.below (below_drewN u k)).setVote mf).setLeft s.wait, ((KeptB.ofBelow (below_drewN u k)).setB _ _).setB _ _⟩
            have HS : Hid _ := hS
            clear hS
            refine Calls.mono (HMs.out _ _ (HX.out _).nd.nd) ?_
            rintro e w2 ⟨rfl, hb2⟩
            have HA2 : Hid (AftN own u w2 B { s with vote := mf, left := s.wait } own) := (HX.out _).aft.to hb2
            clear hb2
            go_wp2
            go_ret
            refine HFin.out true w2 _ _ HD.out (by rw [HS.out]; exact HA2.out) ((below_alloc _ _).trans ((below_alloc _ _).mono (by simp))) (by omega) ?_
            rw [HS.out]
            exact heap_alloc_new' _ _ _ (by simp)
        · have d4 : (s.role == 1) = false := by simpa using c4
          have HD : Hid (voteOk s mf mt mi ma = false) := by show _ = _; rw [HOk.out]; simp [c4]
          clear c1 c2 c3 c4
          go_enter Try.func67, Try.ntmps67
          go_wp2
          rw [← hu, ← hbm]
          clear hu hbm
          go_quiet (fail)
          go_wp2
          go_quiet (fail)
          go_wp2_with fail
          refine Calls.mono (HMs.out _ s (HV.out.below (below_drewN _ _)).nd) ?_
          rintro e w2 ⟨rfl, hb2⟩
          have HB2 : Hid _ := hb2
          clear hb2
          go_wp2
          go_ret
          have hS : voteS s mf mt mi ma = s := by unfold voteS; rw [HD.out]; rfl
          refine HFin.out false w2 _ _ HD.out (by rw [hS]; exact AftN.same HV.out.nd ((below_drewN u _).trans HB2.out)) ((below_alloc _ _).trans ((below_alloc _ _).mono (by simp))) (by omega) ?_
          rw [hS]
          exact heap_alloc_new' _ _ _ (by simp)
      · have d3 : (mt == s.term) = false := by simpa using c3
        have HD : Hid (voteOk s mf mt mi ma = false) := by show _ = _; rw [HOk.out]; simp [c3]
        clear c1 c2 c3
        go_enter Try.func67, Try.ntmps67
        go_wp2
        rw [← hu, ← hbm]
        clear hu hbm
        go_quiet (fail)
        go_wp2
        go_quiet (fail)
        go_wp2_with fail
        refine Calls.mono (HMs.out _ s (HV.out.below (below_drewN _ _)).nd) ?_
        rintro e w2 ⟨rfl, hb2⟩
        have HB2 : Hid _ := hb2
        clear hb2
        go_wp2
        go_ret
        have hS : voteS s mf mt mi ma = s := by unfold voteS; rw [HD.out]; rfl
        refine HFin.out false w2 _ _ HD.out (by rw [hS]; exact AftN.same HV.out.nd ((below_drewN u _).trans HB2.out)) ((below_alloc _ _).trans ((below_alloc _ _).mono (by simp))) (by omega) ?_
        rw [hS]
        exact heap_alloc_new' _ _ _ (by simp)
    · have d2 : (s.vote == mf) = false := by simpa using c2
      have HD : Hid (voteOk s mf mt mi ma = false) := by show _ = _; rw [HOk.out]; simp [c1, c2]
      clear c1 c2
      by_cases c3 : mt = s.term
      · have d3 : (mt == s.term) = true := by simpa using c3
        clear c3
        by_cases c4 : s.role = 1
        · have d4 : (s.role == 1) = true := by simpa using c4
          clear c4
          go_enter Try.func67, Try.ntmps67
          go_wp2
          rw [← hu, ← hbm]
          clear hu hbm
          go_quiet (fail)
          go_wp2
          go_quiet (fail)
          go_wp2_with fail
          refine Calls.mono (HMs.out _ s (HV.out.below (below_drewN _ _)).nd) ?_
          rintro e w2 ⟨rfl, hb2⟩
          have HB2 : Hid _ := hb2
          clear hb2
          go_wp2
          go_ret
          have hS : voteS s mf mt mi ma = s := by unfold voteS; rw [HD.out]; rfl
          refine HFin.out false w2 _ _ HD.out (by rw [hS]; exact AftN.same HV.out.nd ((below_drewN u _).trans HB2.out)) ((below_alloc _ _).trans ((below_alloc _ _).mono (by simp))) (by omega) ?_
          rw [hS]
          exact heap_alloc_new' _ _ _ (by simp)
        · have d4 : (s.role == 1) = false := by simpa using c4
          clear c4
          go_enter Try.func67, Try.ntmps67
          go_wp2
          rw [← hu, ← hbm]
          clear hu hbm
          go_quiet (fail)
          go_wp2
          go_quiet (fail)
          go_wp2_with fail
          refine Calls.mono (HMs.out _ s (HV.out.below (below_drewN _ _)).nd) ?_
          rintro e w2 ⟨rfl, hb2⟩
          have HB2 : Hid _ := hb2
          clear hb2
          go_wp2
          go_ret
          have hS : voteS s mf mt mi ma = s := by unfold voteS; rw [HD.out]; rfl
          refine HFin.out false w2 _ _ HD.out (by rw [hS]; exact AftN.same HV.out.nd ((below_drewN u _).trans HB2.out)) ((below_alloc _ _).trans ((below_alloc _ _).mono (by simp))) (by omega) ?_
          rw [hS]
          exact heap_alloc_new' _ _ _ (by simp)
      · have d3 : (mt == s.term) = false := by simpa using c3
        clear c3
        go_enter Try.func67, Try.ntmps67
        go_wp2
        rw [← hu, ← hbm]
        clear hu hbm
        go_quiet (fail)
        go_wp2
        go_quiet (fail)
        go_wp2_with fail
        refine Calls.mono (HMs.out _ s (HV.out.below (below_drewN _ _)).nd) ?_
        rintro e w2 ⟨rfl, hb2⟩
        have HB2 : Hid _ := hb2
        clear hb2
        go_wp2
        go_ret
        have hS : voteS s mf mt mi ma = s := by unfold voteS; rw [HD.out]; rfl
        refine HFin.out false w2 _ _ HD.out (by rw [hS]; exact AftN.same HV.out.nd ((below_drewN u _).trans HB2.out)) ((below_alloc _ _).trans ((below_alloc _ _).mono (by simp))) (by omega) ?_
        rw [hS]
        exact heap_alloc_new' _ _ _ (by simp)

end
end Go.Proofs.Yteaopnhjndnpnaa
