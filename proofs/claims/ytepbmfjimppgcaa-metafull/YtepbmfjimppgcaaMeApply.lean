/-
  Apply of a command, by its method's own contract.
-/
import Derived.Test.YtepbmfjimppgcaaMePlan
namespace Go.Proofs.Ytepbmfjimppgcaa
open Go.RowKit

set_option maxHeartbeats 1600000 in
set_option maxRecDepth 20000 in
theorem Apply_begin {w : World} {B n n' : Nat} {q q' : Me.St} {who : Nat → Nat} {e0 a0 : Int} (h : Mt w B q who n) (c : Me.Cd) (hk : c.kind = 6) (hm : ∀ X, Mt X B q who n → Calls Try.prog 21 #[.pointer (some ⟨B, 0, none⟩), cmdV c] X (AnsT who X B q' n' e0 a0)) : Calls Try.prog 8 #[.pointer (some ⟨B, 0, none⟩), cmdV c] w (AnsT who w B q' n' e0 a0) := by
  unfold cmdV at *
  obtain ⟨u0, hu0⟩ : ∃ u0, u0 = w.alloc (.cells (cmdL c).toArray 39) := ⟨_, rfl⟩
  obtain ⟨u, hu⟩ : ∃ u, u = u0.alloc (.cells #[.int .i64 0, .int .i64 0, .slice none 0 0] 32) := ⟨_, rfl⟩
  obtain ⟨bc, hbc⟩ : ∃ bc, bc = w.heap.size := ⟨_, rfl⟩
  obtain ⟨br, hbr⟩ : ∃ br, br = w.heap.size + 1 := ⟨_, rfl⟩
  have hB : Bc w u bc br who (cmdL c) := by rw [hbc, hbr]; exact Bc.of h.here _ hu0 hu
  have HBc : Hid _ := hB
  have hh : Mt u B q who n := h.below hB.old
  have HM : Hid _ := isMadeQ_c hh
  have HCall : Hid (Calls Try.prog 21 #[.pointer (some ⟨B, 0, none⟩), .agg (cmdL c).toArray] u (AnsT who u B q' n' e0 a0)) := hm u hh
  have y0 : u.cell? ⟨bc, 0, none⟩ = some (.int .i64 6) := by rw [← hk]; exact hB.c u (KeptQ.refl _ _) 0 _ rfl
  clear hh hm hB hk
  have hs0 : u0.heap.size = br := by rw [hu0, hbr]; simp
  go_enter Try.func8, Try.ntmps8
  go_upto_region 1 with fail
  try rw [← hu0]
  try rw [← hu]
  try rw [hs0]
  try rw [← hbr]
  try rw [← hbc]
  clear hu hu0 hbc hbr hs0
  go_wp2_with fail
  refine Calls.mono HM.out ?_
  rintro e w1 ⟨rfl, hw1⟩
  have hw1 := hw1.symm
  subst hw1
  go_wp2_with (first | refine wpList_load_mid rfl 39 (.tmp 3) rfl bc 0 rfl (cmdL c) _ (HBc.out.range (KeptQ.refl _ _)) Try.underlying39 rfl cmdInfo ?_)
  refine Calls.mono HCall.out ?_
  rintro e wA ⟨who', rfl, hA⟩
  have HA : Hid (AftT who u wA B q' n' who') := hA
  clear hA y0
  obtain ⟨⟨r0, r1, r2⟩, g0, g1, g2⟩ := HBc.out.r wA HA.out.2.2
  obtain ⟨F, hF⟩ : ∃ F, F = putS wA br [.int .i64 e0, .int .i64 a0, .slice none 0 0] := ⟨_, rfl⟩
  have hx3 := HBc.out.told HA.out.2.2 (.int .i64 e0) (.int .i64 a0) (.slice none 0 0)
  rw [← hF] at hx3
  obtain ⟨x0, x1, x2⟩ := hx3
  have HR : Hid (AftT who w (putS wA br _) B _ _ _) := AftT.fin HA.out HBc.out [.int .i64 e0, .int .i64 a0, .slice none 0 0]
  rw [← hF] at HR
  have hFe : F = ((wA.setCell ⟨br, 0, none⟩ (.int .i64 e0)).setCell ⟨br, 1, none⟩ (.int .i64 a0)).setCell ⟨br, 2, none⟩ (.slice none 0 0) := hF
  have HFe : Hid _ := hFe
  clear hF hFe
  go_wp2
  rw [← HFe.out]
  refine bodyPost_ret (v := .agg #[.int .i64 e0, .int .i64 a0, .slice none 0 0]) ?qres rfl ?qpost
  case qres => simp [results, Try.results8, go_sem, x0, x1, x2]
  case qpost => exact ⟨_, rfl, HR.out⟩

set_option maxHeartbeats 1600000 in
set_option maxRecDepth 20000 in
theorem Apply_plan {w : World} {B n n' : Nat} {q q' : Me.St} {who : Nat → Nat} {e0 a0 : Int} (h : Mt w B q who n) (c : Me.Cd) (hk : c.kind = 9) (hm : ∀ X, Mt X B q who n → Calls Try.prog 24 #[.pointer (some ⟨B, 0, none⟩), cmdV c] X (AnsT who X B q' n' e0 a0)) : Calls Try.prog 8 #[.pointer (some ⟨B, 0, none⟩), cmdV c] w (AnsT who w B q' n' e0 a0) := by
  unfold cmdV at *
  obtain ⟨u0, hu0⟩ : ∃ u0, u0 = w.alloc (.cells (cmdL c).toArray 39) := ⟨_, rfl⟩
  obtain ⟨u, hu⟩ : ∃ u, u = u0.alloc (.cells #[.int .i64 0, .int .i64 0, .slice none 0 0] 32) := ⟨_, rfl⟩
  obtain ⟨bc, hbc⟩ : ∃ bc, bc = w.heap.size := ⟨_, rfl⟩
  obtain ⟨br, hbr⟩ : ∃ br, br = w.heap.size + 1 := ⟨_, rfl⟩
  have hB : Bc w u bc br who (cmdL c) := by rw [hbc, hbr]; exact Bc.of h.here _ hu0 hu
  have HBc : Hid _ := hB
  have hh : Mt u B q who n := h.below hB.old
  have HM : Hid _ := isMadeQ_c hh
  have HCall : Hid (Calls Try.prog 24 #[.pointer (some ⟨B, 0, none⟩), .agg (cmdL c).toArray] u (AnsT who u B q' n' e0 a0)) := hm u hh
  have y0 : u.cell? ⟨bc, 0, none⟩ = some (.int .i64 9) := by rw [← hk]; exact hB.c u (KeptQ.refl _ _) 0 _ rfl
  clear hh hm hB hk
  have hs0 : u0.heap.size = br := by rw [hu0, hbr]; simp
  go_enter Try.func8, Try.ntmps8
  go_upto_region 1 with fail
  try rw [← hu0]
  try rw [← hu]
  try rw [hs0]
  try rw [← hbr]
  try rw [← hbc]
  clear hu hu0 hbc hbr hs0
  go_wp2_with fail
  refine Calls.mono HM.out ?_
  rintro e w1 ⟨rfl, hw1⟩
  have hw1 := hw1.symm
  subst hw1
  go_wp2_with (first | refine wpList_load_mid rfl 39 (.tmp 3) rfl bc 0 rfl (cmdL c) _ (HBc.out.range (KeptQ.refl _ _)) Try.underlying39 rfl cmdInfo ?_)
  refine Calls.mono HCall.out ?_
  rintro e wA ⟨who', rfl, hA⟩
  have HA : Hid (AftT who u wA B q' n' who') := hA
  clear hA y0
  obtain ⟨⟨r0, r1, r2⟩, g0, g1, g2⟩ := HBc.out.r wA HA.out.2.2
  obtain ⟨F, hF⟩ : ∃ F, F = putS wA br [.int .i64 e0, .int .i64 a0, .slice none 0 0] := ⟨_, rfl⟩
  have hx3 := HBc.out.told HA.out.2.2 (.int .i64 e0) (.int .i64 a0) (.slice none 0 0)
  rw [← hF] at hx3
  obtain ⟨x0, x1, x2⟩ := hx3
  have HR : Hid (AftT who w (putS wA br _) B _ _ _) := AftT.fin HA.out HBc.out [.int .i64 e0, .int .i64 a0, .slice none 0 0]
  rw [← hF] at HR
  have hFe : F = ((wA.setCell ⟨br, 0, none⟩ (.int .i64 e0)).setCell ⟨br, 1, none⟩ (.int .i64 a0)).setCell ⟨br, 2, none⟩ (.slice none 0 0) := hF
  have HFe : Hid _ := hFe
  clear hF hFe
  go_wp2
  rw [← HFe.out]
  refine bodyPost_ret (v := .agg #[.int .i64 e0, .int .i64 a0, .slice none 0 0]) ?qres rfl ?qpost
  case qres => simp [results, Try.results8, go_sem, x0, x1, x2]
  case qpost => exact ⟨_, rfl, HR.out⟩

set_option maxHeartbeats 1600000 in
set_option maxRecDepth 20000 in
theorem Apply_frozen {w : World} {B n n' : Nat} {q q' : Me.St} {who : Nat → Nat} {e0 a0 : Int} (h : Mt w B q who n) (c : Me.Cd) (hk : c.kind = 10) (hm : ∀ X, Mt X B q who n → Calls Try.prog 25 #[.pointer (some ⟨B, 0, none⟩), cmdV c] X (AnsT who X B q' n' e0 a0)) : Calls Try.prog 8 #[.pointer (some ⟨B, 0, none⟩), cmdV c] w (AnsT who w B q' n' e0 a0) := by
  unfold cmdV at *
  obtain ⟨u0, hu0⟩ : ∃ u0, u0 = w.alloc (.cells (cmdL c).toArray 39) := ⟨_, rfl⟩
  obtain ⟨u, hu⟩ : ∃ u, u = u0.alloc (.cells #[.int .i64 0, .int .i64 0, .slice none 0 0] 32) := ⟨_, rfl⟩
  obtain ⟨bc, hbc⟩ : ∃ bc, bc = w.heap.size := ⟨_, rfl⟩
  obtain ⟨br, hbr⟩ : ∃ br, br = w.heap.size + 1 := ⟨_, rfl⟩
  have hB : Bc w u bc br who (cmdL c) := by rw [hbc, hbr]; exact Bc.of h.here _ hu0 hu
  have HBc : Hid _ := hB
  have hh : Mt u B q who n := h.below hB.old
  have HM : Hid _ := isMadeQ_c hh
  have HCall : Hid (Calls Try.prog 25 #[.pointer (some ⟨B, 0, none⟩), .agg (cmdL c).toArray] u (AnsT who u B q' n' e0 a0)) := hm u hh
  have y0 : u.cell? ⟨bc, 0, none⟩ = some (.int .i64 10) := by rw [← hk]; exact hB.c u (KeptQ.refl _ _) 0 _ rfl
  clear hh hm hB hk
  have hs0 : u0.heap.size = br := by rw [hu0, hbr]; simp
  go_enter Try.func8, Try.ntmps8
  go_upto_region 1 with fail
  try rw [← hu0]
  try rw [← hu]
  try rw [hs0]
  try rw [← hbr]
  try rw [← hbc]
  clear hu hu0 hbc hbr hs0
  go_wp2_with fail
  refine Calls.mono HM.out ?_
  rintro e w1 ⟨rfl, hw1⟩
  have hw1 := hw1.symm
  subst hw1
  go_wp2_with (first | refine wpList_load_mid rfl 39 (.tmp 3) rfl bc 0 rfl (cmdL c) _ (HBc.out.range (KeptQ.refl _ _)) Try.underlying39 rfl cmdInfo ?_)
  refine Calls.mono HCall.out ?_
  rintro e wA ⟨who', rfl, hA⟩
  have HA : Hid (AftT who u wA B q' n' who') := hA
  clear hA y0
  obtain ⟨⟨r0, r1, r2⟩, g0, g1, g2⟩ := HBc.out.r wA HA.out.2.2
  obtain ⟨F, hF⟩ : ∃ F, F = putS wA br [.int .i64 e0, .int .i64 a0, .slice none 0 0] := ⟨_, rfl⟩
  have hx3 := HBc.out.told HA.out.2.2 (.int .i64 e0) (.int .i64 a0) (.slice none 0 0)
  rw [← hF] at hx3
  obtain ⟨x0, x1, x2⟩ := hx3
  have HR : Hid (AftT who w (putS wA br _) B _ _ _) := AftT.fin HA.out HBc.out [.int .i64 e0, .int .i64 a0, .slice none 0 0]
  rw [← hF] at HR
  have hFe : F = ((wA.setCell ⟨br, 0, none⟩ (.int .i64 e0)).setCell ⟨br, 1, none⟩ (.int .i64 a0)).setCell ⟨br, 2, none⟩ (.slice none 0 0) := hF
  have HFe : Hid _ := hFe
  clear hF hFe
  go_wp2
  rw [← HFe.out]
  refine bodyPost_ret (v := .agg #[.int .i64 e0, .int .i64 a0, .slice none 0 0]) ?qres rfl ?qpost
  case qres => simp [results, Try.results8, go_sem, x0, x1, x2]
  case qpost => exact ⟨_, rfl, HR.out⟩

set_option maxHeartbeats 1600000 in
set_option maxRecDepth 20000 in
theorem Apply_taken {w : World} {B n n' : Nat} {q q' : Me.St} {who : Nat → Nat} {e0 a0 : Int} (h : Mt w B q who n) (c : Me.Cd) (hk : c.kind = 11) (hm : ∀ X, Mt X B q who n → Calls Try.prog 26 #[.pointer (some ⟨B, 0, none⟩), cmdV c] X (AnsT who X B q' n' e0 a0)) : Calls Try.prog 8 #[.pointer (some ⟨B, 0, none⟩), cmdV c] w (AnsT who w B q' n' e0 a0) := by
  unfold cmdV at *
  obtain ⟨u0, hu0⟩ : ∃ u0, u0 = w.alloc (.cells (cmdL c).toArray 39) := ⟨_, rfl⟩
  obtain ⟨u, hu⟩ : ∃ u, u = u0.alloc (.cells #[.int .i64 0, .int .i64 0, .slice none 0 0] 32) := ⟨_, rfl⟩
  obtain ⟨bc, hbc⟩ : ∃ bc, bc = w.heap.size := ⟨_, rfl⟩
  obtain ⟨br, hbr⟩ : ∃ br, br = w.heap.size + 1 := ⟨_, rfl⟩
  have hB : Bc w u bc br who (cmdL c) := by rw [hbc, hbr]; exact Bc.of h.here _ hu0 hu
  have HBc : Hid _ := hB
  have hh : Mt u B q who n := h.below hB.old
  have HM : Hid _ := isMadeQ_c hh
  have HCall : Hid (Calls Try.prog 26 #[.pointer (some ⟨B, 0, none⟩), .agg (cmdL c).toArray] u (AnsT who u B q' n' e0 a0)) := hm u hh
  have y0 : u.cell? ⟨bc, 0, none⟩ = some (.int .i64 11) := by rw [← hk]; exact hB.c u (KeptQ.refl _ _) 0 _ rfl
  clear hh hm hB hk
  have hs0 : u0.heap.size = br := by rw [hu0, hbr]; simp
  go_enter Try.func8, Try.ntmps8
  go_upto_region 1 with fail
  try rw [← hu0]
  try rw [← hu]
  try rw [hs0]
  try rw [← hbr]
  try rw [← hbc]
  clear hu hu0 hbc hbr hs0
  go_wp2_with fail
  refine Calls.mono HM.out ?_
  rintro e w1 ⟨rfl, hw1⟩
  have hw1 := hw1.symm
  subst hw1
  go_wp2_with (first | refine wpList_load_mid rfl 39 (.tmp 3) rfl bc 0 rfl (cmdL c) _ (HBc.out.range (KeptQ.refl _ _)) Try.underlying39 rfl cmdInfo ?_)
  refine Calls.mono HCall.out ?_
  rintro e wA ⟨who', rfl, hA⟩
  have HA : Hid (AftT who u wA B q' n' who') := hA
  clear hA y0
  obtain ⟨⟨r0, r1, r2⟩, g0, g1, g2⟩ := HBc.out.r wA HA.out.2.2
  obtain ⟨F, hF⟩ : ∃ F, F = putS wA br [.int .i64 e0, .int .i64 a0, .slice none 0 0] := ⟨_, rfl⟩
  have hx3 := HBc.out.told HA.out.2.2 (.int .i64 e0) (.int .i64 a0) (.slice none 0 0)
  rw [← hF] at hx3
  obtain ⟨x0, x1, x2⟩ := hx3
  have HR : Hid (AftT who w (putS wA br _) B _ _ _) := AftT.fin HA.out HBc.out [.int .i64 e0, .int .i64 a0, .slice none 0 0]
  rw [← hF] at HR
  have hFe : F = ((wA.setCell ⟨br, 0, none⟩ (.int .i64 e0)).setCell ⟨br, 1, none⟩ (.int .i64 a0)).setCell ⟨br, 2, none⟩ (.slice none 0 0) := hF
  have HFe : Hid _ := hFe
  clear hF hFe
  go_wp2
  rw [← HFe.out]
  refine bodyPost_ret (v := .agg #[.int .i64 e0, .int .i64 a0, .slice none 0 0]) ?qres rfl ?qpost
  case qres => simp [results, Try.results8, go_sem, x0, x1, x2]
  case qpost => exact ⟨_, rfl, HR.out⟩

set_option maxHeartbeats 1600000 in
set_option maxRecDepth 20000 in
theorem Apply_voted {w : World} {B n n' : Nat} {q q' : Me.St} {who : Nat → Nat} {e0 a0 : Int} (h : Mt w B q who n) (c : Me.Cd) (hk : c.kind = 7) (hm : ∀ X, Mt X B q who n → Calls Try.prog 22 #[.pointer (some ⟨B, 0, none⟩), cmdV c] X (AnsT who X B q' n' e0 a0)) : Calls Try.prog 8 #[.pointer (some ⟨B, 0, none⟩), cmdV c] w (AnsT who w B q' n' e0 a0) := by
  unfold cmdV at *
  obtain ⟨u0, hu0⟩ : ∃ u0, u0 = w.alloc (.cells (cmdL c).toArray 39) := ⟨_, rfl⟩
  obtain ⟨u, hu⟩ : ∃ u, u = u0.alloc (.cells #[.int .i64 0, .int .i64 0, .slice none 0 0] 32) := ⟨_, rfl⟩
  obtain ⟨bc, hbc⟩ : ∃ bc, bc = w.heap.size := ⟨_, rfl⟩
  obtain ⟨br, hbr⟩ : ∃ br, br = w.heap.size + 1 := ⟨_, rfl⟩
  have hB : Bc w u bc br who (cmdL c) := by rw [hbc, hbr]; exact Bc.of h.here _ hu0 hu
  have HBc : Hid _ := hB
  have hh : Mt u B q who n := h.below hB.old
  have HM : Hid _ := isMadeQ_c hh
  have HCall : Hid (Calls Try.prog 22 #[.pointer (some ⟨B, 0, none⟩), .agg (cmdL c).toArray] u (AnsT who u B q' n' e0 a0)) := hm u hh
  have y0 : u.cell? ⟨bc, 0, none⟩ = some (.int .i64 7) := by rw [← hk]; exact hB.c u (KeptQ.refl _ _) 0 _ rfl
  clear hh hm hB hk
  have hs0 : u0.heap.size = br := by rw [hu0, hbr]; simp
  go_enter Try.func8, Try.ntmps8
  go_upto_region 1 with fail
  try rw [← hu0]
  try rw [← hu]
  try rw [hs0]
  try rw [← hbr]
  try rw [← hbc]
  clear hu hu0 hbc hbr hs0
  go_wp2_with fail
  refine Calls.mono HM.out ?_
  rintro e w1 ⟨rfl, hw1⟩
  have hw1 := hw1.symm
  subst hw1
  go_wp2_with (first | refine wpList_load_mid rfl 39 (.tmp 3) rfl bc 0 rfl (cmdL c) _ (HBc.out.range (KeptQ.refl _ _)) Try.underlying39 rfl cmdInfo ?_)
  refine Calls.mono HCall.out ?_
  rintro e wA ⟨who', rfl, hA⟩
  have HA : Hid (AftT who u wA B q' n' who') := hA
  clear hA y0
  obtain ⟨⟨r0, r1, r2⟩, g0, g1, g2⟩ := HBc.out.r wA HA.out.2.2
  obtain ⟨F, hF⟩ : ∃ F, F = putS wA br [.int .i64 e0, .int .i64 a0, .slice none 0 0] := ⟨_, rfl⟩
  have hx3 := HBc.out.told HA.out.2.2 (.int .i64 e0) (.int .i64 a0) (.slice none 0 0)
  rw [← hF] at hx3
  obtain ⟨x0, x1, x2⟩ := hx3
  have HR : Hid (AftT who w (putS wA br _) B _ _ _) := AftT.fin HA.out HBc.out [.int .i64 e0, .int .i64 a0, .slice none 0 0]
  rw [← hF] at HR
  have hFe : F = ((wA.setCell ⟨br, 0, none⟩ (.int .i64 e0)).setCell ⟨br, 1, none⟩ (.int .i64 a0)).setCell ⟨br, 2, none⟩ (.slice none 0 0) := hF
  have HFe : Hid _ := hFe
  clear hF hFe
  go_wp2
  rw [← HFe.out]
  refine bodyPost_ret (v := .agg #[.int .i64 e0, .int .i64 a0, .slice none 0 0]) ?qres rfl ?qpost
  case qres => simp [results, Try.results8, go_sem, x0, x1, x2]
  case qpost => exact ⟨_, rfl, HR.out⟩

set_option maxHeartbeats 1600000 in
set_option maxRecDepth 20000 in
theorem Apply_ended {w : World} {B n n' : Nat} {q q' : Me.St} {who : Nat → Nat} {e0 a0 : Int} (h : Mt w B q who n) (c : Me.Cd) (hk : c.kind = 8) (hm : ∀ X, Mt X B q who n → Calls Try.prog 23 #[.pointer (some ⟨B, 0, none⟩), cmdV c] X (AnsT who X B q' n' e0 a0)) : Calls Try.prog 8 #[.pointer (some ⟨B, 0, none⟩), cmdV c] w (AnsT who w B q' n' e0 a0) := by
  unfold cmdV at *
  obtain ⟨u0, hu0⟩ : ∃ u0, u0 = w.alloc (.cells (cmdL c).toArray 39) := ⟨_, rfl⟩
  obtain ⟨u, hu⟩ : ∃ u, u = u0.alloc (.cells #[.int .i64 0, .int .i64 0, .slice none 0 0] 32) := ⟨_, rfl⟩
  obtain ⟨bc, hbc⟩ : ∃ bc, bc = w.heap.size := ⟨_, rfl⟩
  obtain ⟨br, hbr⟩ : ∃ br, br = w.heap.size + 1 := ⟨_, rfl⟩
  have hB : Bc w u bc br who (cmdL c) := by rw [hbc, hbr]; exact Bc.of h.here _ hu0 hu
  have HBc : Hid _ := hB
  have hh : Mt u B q who n := h.below hB.old
  have HM : Hid _ := isMadeQ_c hh
  have HCall : Hid (Calls Try.prog 23 #[.pointer (some ⟨B, 0, none⟩), .agg (cmdL c).toArray] u (AnsT who u B q' n' e0 a0)) := hm u hh
  have y0 : u.cell? ⟨bc, 0, none⟩ = some (.int .i64 8) := by rw [← hk]; exact hB.c u (KeptQ.refl _ _) 0 _ rfl
  clear hh hm hB hk
  have hs0 : u0.heap.size = br := by rw [hu0, hbr]; simp
  go_enter Try.func8, Try.ntmps8
  go_upto_region 1 with fail
  try rw [← hu0]
  try rw [← hu]
  try rw [hs0]
  try rw [← hbr]
  try rw [← hbc]
  clear hu hu0 hbc hbr hs0
  go_wp2_with fail
  refine Calls.mono HM.out ?_
  rintro e w1 ⟨rfl, hw1⟩
  have hw1 := hw1.symm
  subst hw1
  go_wp2_with (first | refine wpList_load_mid rfl 39 (.tmp 3) rfl bc 0 rfl (cmdL c) _ (HBc.out.range (KeptQ.refl _ _)) Try.underlying39 rfl cmdInfo ?_)
  refine Calls.mono HCall.out ?_
  rintro e wA ⟨who', rfl, hA⟩
  have HA : Hid (AftT who u wA B q' n' who') := hA
  clear hA y0
  obtain ⟨⟨r0, r1, r2⟩, g0, g1, g2⟩ := HBc.out.r wA HA.out.2.2
  obtain ⟨F, hF⟩ : ∃ F, F = putS wA br [.int .i64 e0, .int .i64 a0, .slice none 0 0] := ⟨_, rfl⟩
  have hx3 := HBc.out.told HA.out.2.2 (.int .i64 e0) (.int .i64 a0) (.slice none 0 0)
  rw [← hF] at hx3
  obtain ⟨x0, x1, x2⟩ := hx3
  have HR : Hid (AftT who w (putS wA br _) B _ _ _) := AftT.fin HA.out HBc.out [.int .i64 e0, .int .i64 a0, .slice none 0 0]
  rw [← hF] at HR
  have hFe : F = ((wA.setCell ⟨br, 0, none⟩ (.int .i64 e0)).setCell ⟨br, 1, none⟩ (.int .i64 a0)).setCell ⟨br, 2, none⟩ (.slice none 0 0) := hF
  have HFe : Hid _ := hFe
  clear hF hFe
  go_wp2
  rw [← HFe.out]
  refine bodyPost_ret (v := .agg #[.int .i64 e0, .int .i64 a0, .slice none 0 0]) ?qres rfl ?qpost
  case qres => simp [results, Try.results8, go_sem, x0, x1, x2]
  case qpost => exact ⟨_, rfl, HR.out⟩

end Go.Proofs.Ytepbmfjimppgcaa
