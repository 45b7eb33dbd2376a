/-
  A raft node that is alone: it takes the lead, and stands.
-/
import Derived.Test.YteaopnhjndnpnaaNdOne
namespace Go.Proofs.Yteaopnhjndnpnaa
open Go.RowKit

section
variable {w : World} {B : Nat} {s : N.St} {own : Nat → Prop} {LB MB : Nat} {ol : Nat → Prop} {rv : Value}

theorem NdV.setNext0 (h : NdV w B s own LB MB ol rv) (x : Int) : NdV (w.setCell ⟨B, 20, none⟩ (.int .i64 x)) B { s with next := x :: s.next.drop 1 } own LB MB ol rv := by
  refine h.set 20 (.int .i64 x) (by decide) ?_ rfl rfl rfl ⟨h.sz.id, h.sz.nodes, h.sz.v, ?_, h.sz.m⟩
  · obtain ⟨a0, a1, a2, a3, a4, a5, a6, ea⟩ := seven s.voted h.sz.v
    obtain ⟨b0, b1, b2, b3, b4, b5, b6, eb⟩ := seven s.next h.sz.n
    unfold ndCells
    dsimp only
    rw [ea, eb]
    rfl
  · have := h.sz.n
    simp
    omega
theorem NdV.setMtch0 (h : NdV w B s own LB MB ol rv) (x : Int) : NdV (w.setCell ⟨B, 27, none⟩ (.int .i64 x)) B { s with mtch := x :: s.mtch.drop 1 } own LB MB ol rv := by
  refine h.set 27 (.int .i64 x) (by decide) ?_ rfl rfl rfl ⟨h.sz.id, h.sz.nodes, h.sz.v, h.sz.n, ?_⟩
  · obtain ⟨a0, a1, a2, a3, a4, a5, a6, ea⟩ := seven s.voted h.sz.v
    obtain ⟨b0, b1, b2, b3, b4, b5, b6, eb⟩ := seven s.next h.sz.n
    obtain ⟨c0, c1, c2, c3, c4, c5, c6, ec⟩ := seven s.mtch h.sz.m
    unfold ndCells
    dsimp only
    rw [ea, eb, ec]
    rfl
  · have := h.sz.m
    simp
    omega
theorem NdV.setRole (h : NdV w B s own LB MB ol rv) (x : Int) : NdV (w.setCell ⟨B, 8, none⟩ (.int .i64 x)) B { s with role := x } own LB MB ol rv :=
  h.set 8 (.int .i64 x) (by decide) rfl rfl rfl rfl ⟨h.sz.id, h.sz.nodes, h.sz.v, h.sz.n, h.sz.m⟩
theorem NdV.setLead (h : NdV w B s own LB MB ol rv) (x : Int) : NdV (w.setCell ⟨B, 9, none⟩ (.int .i64 x)) B { s with lead := x } own LB MB ol rv :=
  h.set 9 (.int .i64 x) (by decide) rfl rfl rfl rfl ⟨h.sz.id, h.sz.nodes, h.sz.v, h.sz.n, h.sz.m⟩

/-- The node, since a call began: it owns what it owned. -/
structure Nk (w : World) (own : Nat → Prop) (B : Nat) (st : N.St) (LB MB : Nat) (ol : Nat → Prop) (rv : Value) (X : World) : Prop where
  nd : NdV X B st own LB MB ol rv
  kept : KeptB B own w X

theorem Nk.below {st : N.St} {X Y : World} (h : Nk w own B st LB MB ol rv X) (hb : Below X.heap.size X Y) : Nk w own B st LB MB ol rv Y := ⟨h.nd.below hb, h.kept.trans (KeptB.ofBelow (own := own) hb) (fun _ _ e => e)⟩
theorem Nk.aft {st : N.St} {X : World} (h : Nk w own B st LB MB ol rv X) : AftN own w X B st own := ⟨h.nd.nd, h.kept, fun _ hk => .inl hk⟩

set_option maxHeartbeats 1600000 in
set_option maxRecDepth 20000 in
theorem takeLead_one (h : Nd w B s own) (h1 : One s) (he : G.appE s.log (s.term, ⟨#[]⟩) = 0) (hr : s.recs.length ≤ 999999999) :
    Calls Try.prog 65 #[.pointer (some ⟨B, 0, none⟩)] w fun e w' => e = .returned (.slice none 0 0) ∧ ∃ own', AftN own w w' B (N.takeLead s) own' := by
  obtain ⟨LB, MB, ol, rv, hv⟩ := h
  have k1 : w.cell? ⟨B, 1, none⟩ = some (.int .i64 0) := by have := hv.at 1 _ rfl; rw [h1.id] at this; exact this
  have kw2 : w.cell? ⟨B, 2, none⟩ = some (.int .i64 1) := by have := hv.at 2 _ rfl; rw [h1.nodes] at this; exact this
  have k8 := hv.at 8 _ rfl
  have k9 := hv.at 9 _ rfl
  have f8 := hv.fz 8 (by decide)
  have f9 := hv.fz 9 (by decide)
  obtain ⟨X, hX⟩ : ∃ X, X = (w.setCell ⟨B, 8, none⟩ (.int .i64 3)).setCell ⟨B, 9, none⟩ (.int .i64 0) := ⟨_, rfl⟩
  have hNX : Nk w own B { s with role := 3, lead := 0 } LB MB ol rv X := by
    rw [hX]
    exact ⟨(hv.setRole 3).setLead 0, (((KeptB.refl B own w).setCell ⟨B, 8, none⟩ (.inl rfl) _).setCell ⟨B, 9, none⟩ (.inl rfl) _)⟩
  have hll : 0 ≤ G.last s.log ∧ G.last s.log ≤ 1099511627776 := by
    have := hv.log.ok.base
    have := hv.log.ok.last
    unfold G.last at this ⊢
    omega
  have HNX : Hid _ := hNX
  have HTL : Hid (N.takeLead1 s = { s with role := 3, lead := 0, next := (G.last s.log + 1) :: s.next.drop 1, mtch := 0 :: s.mtch.drop 1 }) := by
    unfold N.takeLead1
    rw [h1.nodes, h1.id]
    rfl
  have H1 : Hid (One s) := h1
  have HE : Hid (G.appE s.log (s.term, ⟨#[]⟩) = 0) := he
  have HR : Hid (s.recs.length ≤ 999999999) := hr
  have hw1 : IntKind.i64.wrap (G.last s.log + 1) = G.last s.log + 1 := by rw [IntKind.wrap_i64]; omega
  clear h1 he hr hv hNX hll
  go_enter Try.func65, Try.ntmps65
  go_wp2
  rw [← hX]
  clear hX k1 k8 k9 f8 f9 kw2
  go_loopw [18] (fun x wr => ∃ k : Nat, x = .int .i64 (k : Int) ∧ k ≤ 1 ∧ Hid (if k = 0 then Nk w own B { s with role := 3, lead := 0 } LB MB ol rv wr else Nk w own B (N.takeLead1 s) LB MB ol rv wr)) (fun x _ => 1 - (intOf x).toNat)
  case atStart => exact ⟨0, rfl, by omega, HNX⟩
  case round =>
    clear HNX
    obtain ⟨k, rfl, hk, HK⟩ := hrel
    by_cases hlt : k < 1
    · obtain rfl : k = 0 := by omega
      have hK : Nk w own B { s with role := 3, lead := 0 } LB MB ol rv wr := HK.out
      have HK0 : Hid _ := hK
      have y4 : wr.cell? ⟨B, 4, none⟩ = some (.pointer (some ⟨LB, 0, none⟩)) := hK.nd.at 4 _ rfl
      obtain ⟨n0, hn0⟩ : ∃ n0, s.next[0]? = some n0 := ⟨_, List.getElem?_eq_getElem (by have := hK.nd.sz.n; show 0 < s.next.length; exact this ▸ by decide)⟩
      obtain ⟨m0, hm0⟩ : ∃ m0, s.mtch[0]? = some m0 := ⟨_, List.getElem?_eq_getElem (by have := hK.nd.sz.m; show 0 < s.mtch.length; exact this ▸ by decide)⟩
      have y20 : wr.cell? ⟨B, 20, none⟩ = some (.int .i64 n0) := hK.nd.nextAt 0 n0 hn0
      have y27 : wr.cell? ⟨B, 27, none⟩ = some (.int .i64 m0) := hK.nd.mtchAt 0 m0 hm0
      have f20 := hK.nd.fz 20 (by decide)
      have f27 := hK.nd.fz 27 (by decide)
      have HL : Hid (Calls Try.prog 32 #[.pointer (some ⟨LB, 0, none⟩)] wr.drew fun e w' => e = .returned (.int .i64 (G.last s.log)) ∧ w' = wr.drew.drew) := Last_c (hK.nd.below (Below.refl _ _).drew).log
      generalize G.last s.log = ll at HL hw1 HTL
      clear hK hn0 hm0
      have HKs : Hid ((((wr.setCell ⟨B, 20, none⟩ (.int .i64 (ll + 1))).drew.drew.cell? ⟨B, 4, none⟩ = some (.pointer (some ⟨LB, 0, none⟩))) ∧ ((wr.setCell ⟨B, 20, none⟩ (.int .i64 (ll + 1))).setCell ⟨B, 27, none⟩ (.int .i64 0)).drew.drew.cell? ⟨B, 4, none⟩ = some (.pointer (some ⟨LB, 0, none⟩)))) := by
        have e1 : (wr.setCell ⟨B, 20, none⟩ (.int .i64 (ll + 1))).cell? ⟨B, 4, none⟩ = some (.pointer (some ⟨LB, 0, none⟩)) := by rw [cell_set6 _ y20, if_neg (by decide)]; exact y4
        have e2 : (wr.setCell ⟨B, 20, none⟩ (.int .i64 (ll + 1))).cell? ⟨B, 27, none⟩ = some (.int .i64 m0) := by rw [cell_set6 _ y20, if_neg (by decide)]; exact y27
        exact ⟨e1, by show ((wr.setCell ⟨B, 20, none⟩ (.int .i64 (ll + 1))).setCell ⟨B, 27, none⟩ (.int .i64 0)).cell? _ = _; rw [cell_set6 _ e2, if_neg (by decide)]; exact e1⟩
      have HEnd : Hid (Nk w own B (N.takeLead1 s) LB MB ol rv ((wr.setCell ⟨B, 20, none⟩ (.int .i64 (ll + 1))).setCell ⟨B, 27, none⟩ (.int .i64 0)).drew.drew) := by
        have := (HK0.out.nd.setNext0 (ll + 1)).setMtch0 0
        refine Nk.below ⟨?_, ((HK0.out.kept.setCell ⟨B, 20, none⟩ (.inl rfl) _).setCell ⟨B, 27, none⟩ (.inl rfl) _)⟩ ((Below.refl _ _).drew.drew)
        rw [HTL.out]
        exact this
      go_wp2
      go_region_held (fun Y => Y.cell? ⟨B, 4, none⟩ = some (.pointer (some ⟨LB, 0, none⟩)))
        (first | exact HKs.out.1 | exact HKs.out.2 | go_keep)
        (first | (go_at_call 32; refine Calls.mono HL.out ?_; rintro e w2 ⟨rfl, hw⟩; subst hw))
      go_wp2
      go_roundw
      case rel => exact ⟨1, by go_num, by omega, HEnd⟩
      case measure => simp [intOf]
    · obtain rfl : k = 1 := by omega
      have hK : Nk w own B (N.takeLead1 s) LB MB ol rv wr := HK.out
      have y6 : wr.cell? ⟨B, 6, none⟩ = some (.int .i64 s.term) := hK.nd.at 6 _ rfl
      have h1' : One (N.takeLead1 s) := ⟨H1.out.nodes, H1.out.id⟩
      have HA : Hid (Calls Try.prog 34 #[.pointer (some ⟨B, 0, none⟩), .agg #[.int .i64 s.term, .string ⟨#[]⟩]] wr fun e w' => (∃ y, e = .returned y) ∧ ∃ own', AftN own w w' B (N.add (N.takeLead1 s) (s.term, ⟨#[]⟩)) own') := by
        refine (add_c hK.nd.nd (s.term, ⟨#[]⟩) (by have := HR.out; show s.recs.length ≤ _; omega)).mono ?_
        rintro e w' ⟨rfl, own', ha⟩
        exact ⟨⟨_, rfl⟩, own', hK.aft.trans ha⟩
      have HO : Hid (∀ X own', AftN own w X B (N.add (N.takeLead1 s) (s.term, ⟨#[]⟩)) own' → One (N.add (N.takeLead1 s) (s.term, ⟨#[]⟩)) ∧ Nd X B (N.add (N.takeLead1 s) (s.term, ⟨#[]⟩)) own') := fun X own' ha => by
        refine ⟨?_, ha.1⟩
        unfold N.add
        split
        · exact ⟨H1.out.nodes, H1.out.id⟩
        · exact h1'
      have HC2 : Hid (∀ X own', AftN own w X B (N.add (N.takeLead1 s) (s.term, ⟨#[]⟩)) own' → Calls Try.prog 35 #[.pointer (some ⟨B, 0, none⟩)] X fun e w' => e = .returned (.tuple #[]) ∧ AftN own w w' B (N.takeLead s) own') := fun X own' ha => by
        obtain ⟨o1, o2⟩ := HO.out X own' ha
        refine (commitMore_one o2 o1).mono ?_
        rintro e w' ⟨rfl, hb⟩
        exact ⟨rfl, ha.trans hb⟩
      have HTo : Hid (∀ X own' f, AftN own w X B (N.takeLead s) own' → Calls Try.prog 36 #[.pointer (some ⟨B, 0, none⟩), f] X fun e w' => e = .returned (.slice none 0 0) ∧ w' = X) := fun X own' f ha => by
        refine toOthers_one ha.1 ?_ f
        show (N.commitMore _).nodes = 1
        unfold N.commitMore N.add
        split <;> split <;> exact H1.out.nodes
      clear hK HK h1' HO
      go_wp2_with fail
      refine Calls.mono HA.out ?_
      rintro e w2 ⟨⟨y, rfl⟩, own', ha⟩
      have HA2 : Hid _ := HC2.out _ _ ha
      clear ha
      go_wp2_with fail
      refine Calls.mono HA2.out ?_
      rintro e w3 ⟨rfl, hb⟩
      have HB3 : Hid _ := hb
      have HT3 : Hid (∀ f, _) := fun f => HTo.out _ _ f hb
      clear hb
      go_wp2_with fail
      refine Calls.mono (HT3.out _) ?_
      rintro e w4 ⟨rfl, hw⟩
      subst hw
      go_wp2
      go_ret
      exact ⟨rfl, own', HB3.out⟩

end
end Go.Proofs.Yteaopnhjndnpnaa
