/-
  A raft node that is alone: something is proposed.
-/
import Derived.Test.YteaopnhjndnpnaaNdTick
namespace Go.Proofs.Yteaopnhjndnpnaa
open Go.RowKit

section
variable {w : World} {B : Nat} {s : N.St} {own : Nat → Prop}

/-- The node behind a proposal. -/
def propS (s : N.St) (d : ByteArray) : N.St := N.commitMore (N.add s (s.term, d))

theorem add_one (h1 : One s) (x : Int × ByteArray) : One (N.add s x) := by
  unfold N.add
  split
  · exact ⟨h1.nodes, h1.id⟩
  · exact h1
theorem commitMore_one' (h1 : One s) : One (N.commitMore s) := by
  unfold N.commitMore
  split
  · exact ⟨h1.nodes, h1.id⟩
  · exact h1
theorem propS_term (d : ByteArray) : (propS s d).term = s.term := by
  unfold propS N.commitMore N.add
  split <;> split <;> rfl

theorem propS_last {d : ByteArray} (he : G.appE s.log (s.term, d) = 0) : G.last (propS s d).log = G.last s.log + 1 := by
  have e : (propS s d).log = G.app s.log (s.term, d) := by
    unfold propS N.commitMore N.add
    split <;> split <;> first | rfl | contradiction
  rw [e]
  unfold G.app G.last
  rw [if_pos he]
  simp
  omega

set_option maxHeartbeats 800000 in
set_option maxRecDepth 20000 in
theorem Propose_one (h : Nd w B s own) (h1 : One s) (d : ByteArray) (hr : s.role = 3) (hd : d.size ≤ 262144) (he : G.appE s.log (s.term, d) = 0) (hrec : s.recs.length ≤ 1000000000) :
    Calls Try.prog 16 #[.pointer (some ⟨B, 0, none⟩), .string d] w fun e w' => e = .returned (.tuple #[.int .i64 (G.last s.log + 1), .int .i64 s.term, .slice none 0 0, .int .i64 0]) ∧ ∃ own', AftN own w w' B (propS s d) own' := by
  have HM : Hid _ := made_c h
  obtain ⟨LB, MB, ol, rv, hv⟩ := id h
  have k8 := hv.at 8 _ rfl
  rw [hr] at k8
  have k6 := hv.at 6 _ rfl
  have d1 : decide ((262144 : Int) < (d.size : Int)) = false := decide_eq_false (by omega)
  have HA : Hid (Calls Try.prog 34 #[.pointer (some ⟨B, 0, none⟩), .agg #[.int .i64 s.term, .string d]] w fun e w' => e = .returned (.tuple #[]) ∧ ∃ own', AftN own w w' B (N.add s (s.term, d)) own') := add_c h (s.term, d) hrec
  have HC : Hid (∀ X own', AftN own w X B (N.add s (s.term, d)) own' → Calls Try.prog 35 #[.pointer (some ⟨B, 0, none⟩)] X fun e w' => e = .returned (.tuple #[]) ∧ AftN own w w' B (propS s d) own') := fun X own' ha => by
    refine (commitMore_one ha.1 (add_one h1 _)).mono ?_
    rintro e w' ⟨rfl, hb⟩
    exact ⟨rfl, ha.trans hb⟩
  have HF : Hid (∀ X own', AftN own w X B (propS s d) own' → X.cell? ⟨B, 6, none⟩ = some (.int .i64 s.term) ∧ (∃ LB', X.cell? ⟨B, 4, none⟩ = some (.pointer (some ⟨LB', 0, none⟩)) ∧ ∀ n, Calls Try.prog 32 #[.pointer (some ⟨LB', 0, none⟩)] (X.drewN n) fun e w' => e = .returned (.int .i64 (G.last s.log + 1)) ∧ ∃ k, w' = (X.drewN n).drewN k) ∧ ∀ n f, Calls Try.prog 36 #[.pointer (some ⟨B, 0, none⟩), f] (X.drewN n) fun e w' => e = .returned (.slice none 0 0) ∧ w' = X.drewN n) := fun X own' ha => by
    obtain ⟨LB', _, _, _, hn⟩ := id ha.1
    refine ⟨?_, ⟨LB', hn.at 4 _ rfl, fun n => ?_⟩, fun n f => toOthers_one (ha.1.below (below_drewN X n)) (commitMore_one' (add_one h1 _)).nodes f⟩
    · have := hn.at 6 _ rfl
      rw [propS_term] at this
      exact this
    · refine (Last_c (hn.below (below_drewN X n)).log).mono ?_
      rintro e w' ⟨rfl, rfl⟩
      exact ⟨by rw [propS_last he], 1, rfl⟩
  generalize propS s d = sp at *
  generalize G.last s.log + 1 = li at *
  clear h hv he hrec hr hd h1
  go_enter Try.func16, Try.ntmps16
  go_wp2_with fail
  refine Calls.mono HM.out ?_
  rintro e w1 ⟨rfl, hw⟩
  subst hw
  go_wp2_with fail
  refine Calls.mono HA.out ?_
  rintro e w2 ⟨rfl, own', ha⟩
  have HC2 : Hid _ := HC.out _ _ ha
  clear ha
  go_wp2_with fail
  refine Calls.mono HC2.out ?_
  rintro e w3 ⟨rfl, hb⟩
  have HB3 : Hid _ := hb
  obtain ⟨y6, ⟨LB', y4, hla⟩, hto⟩ := HF.out _ _ hb
  have HTo : Hid _ := hto
  have HLa : Hid _ := hla
  clear hb hto hla k6 k8
  go_wp2
  go_quiet (first | (go_at_call 32; exact Calls.quiet_of (HLa.out _)) | (go_at_call 36; exact Calls.quiet_of_same (HTo.out _ _)))
  go_wp2
  refine bodyPost_ret (v := .tuple #[.int .i64 li, .int .i64 s.term, .slice none 0 0, .int .i64 0]) ?qres rfl ?qpost
  case qres => simp [results, Try.results16, go_sem]
  case qpost => exact ⟨rfl, own', AftN.to HB3.out (below_drewN _ _)⟩

end
end Go.Proofs.Yteaopnhjndnpnaa
