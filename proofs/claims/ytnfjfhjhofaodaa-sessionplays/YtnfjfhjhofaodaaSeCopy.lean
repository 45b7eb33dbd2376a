/-
  Copy of a table; a table beside another one that is written; ids that may be.
-/
import Derived.Test.YtnfjfhjhofaodaaSeIds
import Derived.Test.YtnfjfhjhofaodaaSeTs
import Derived.Test.YtnfjfhjhofaodaaSeSame
namespace Go.Proofs.Ytnfjfhjhofaodaa
open Go.RowKit

section
variable {w : World} {B mb : Nat} {s : Se.St}

set_option maxHeartbeats 1000000 in
set_option maxRecDepth 20000 in
theorem Copy_c (h : Tb w B mb s) : Calls Try.prog 17 #[.pointer (some ⟨B, 0, none⟩)] w fun e w' => ∃ B2, e = .returned (.pointer (some ⟨B2, 0, none⟩)) ∧ Tb w' B2 w.heap.size s ∧ w.heap.size ≤ B2 ∧ Below w.heap.size w w' := by
  have c0 := h.c0
  have HIs : Hid _ := isMadeT_c h
  obtain ⟨m, hown, hen⟩ := h.map
  have hlen := h.len
  have HC : Hid (Calls Try.prog 31 #[.map (some mb)] w fun e w' => e = .returned (.map (some w.heap.size)) ∧ Below w.heap.size w w' ∧ Tb (w'.alloc (.cells #[.map (some w.heap.size)] 67)) w'.heap.size w.heap.size s ∧ Below w.heap.size w (w'.alloc (.cells #[.map (some w.heap.size)] 67)) ∧ w.heap.size ≤ w'.heap.size) := by
    refine (AnyW.maps_Clone_owns Try.cloneA 3 valElem mb m.length (dat m) w hown).mono ?_
    rintro e w' ⟨rfl, h1, h2, h3⟩
    have h4 : Below w.heap.size w (w'.alloc (.cells #[.map (some w.heap.size)] 67)) := h3.trans ((below_alloc w' _).mono h3.size)
    have hM : Mi w' w.heap.size m := h1
    refine ⟨rfl, h3, ⟨World.cell?_alloc_mark w' _ _ _ 0, ⟨m, hM.carry ((below_alloc w' _).block _ hM.lt), ?_⟩, hlen⟩, h4, h3.size⟩
    exact hen.imp fun _ _ hl => hl.carry fun k ⟨_, _, _, hx⟩ => h4.block k (World.block_lt_of_cell? w _ hx)
  clear h hown hen hlen
  go_enter Try.func17, Try.ntmps17
  go_wp2_with fail
  refine Calls.mono HIs.out ?_
  rintro e w5 ⟨rfl, hw5⟩
  have hw5 := hw5.symm
  subst hw5
  go_wp2_with fail
  refine Calls.mono HC.out ?_
  rintro e w6 ⟨rfl, _, h1, h2, h3⟩
  have HE : Hid (Tb (w6.alloc (.cells #[.map (some w.heap.size)] 67)) w6.heap.size w.heap.size s ∧ Below w.heap.size w (w6.alloc (.cells #[.map (some w.heap.size)] 67)) ∧ w.heap.size ≤ w6.heap.size) := ⟨h1, h2, h3⟩
  clear h1 h2 h3
  go_wp2
  go_ret
  exact ⟨_, rfl, HE.out.1, HE.out.2.2, HE.out.2.1⟩

/-- A table beside another one that is put into. -/
theorem Tb.other {w' : World} {B2 mb2 : Nat} {s2 : Se.St} (h : Tb w B mb s) (h2 : Tb w B2 mb2 s2) (hne : mb2 ≠ mb) (hg : w.grownBy w' (some mb)) : Tb w' B2 mb2 s2 := by
  obtain ⟨m, h3, h4⟩ := h2.map
  exact ⟨h.cell hg h2.c0, ⟨m, h3.carry (hg.block mb2 h3.lt (fun e => hne (by injection e))), h4.imp fun _ _ hl => hl.carry fun k ⟨_, _, _, hx⟩ => hg.block k (World.block_lt_of_cell? w _ hx) (fun e => h.ne hx (by injection e))⟩, h2.len⟩
end

/-- All ids may be. -/
def MayAll (s : Se.St) : Prop := ∀ p ∈ s, Se.may p.1 p.2.seq = true
theorem MayAll.put {s : Se.St} (h : MayAll s) (a b : Int) (r : Mo.Re) : MayAll (Se.put s a b r) := by
  unfold Se.put
  split
  · rename_i e
    intro p hp
    rcases Se.ins_mem hp with q | q
    · rw [q]
      unfold Se.putE at e
      cases hm : Se.may a b with
      | true => rfl
      | false => rw [if_pos hm] at e; cases e
    · exact h p q
  · exact h
theorem find_of {s : Se.St} (hr : Se.Rise s) (hm : MayAll s) {k : Int} {l : Se.Ls} (hp : (k, l) ∈ s) : Se.find s k l.seq = (l.re, 0) := by
  have hg : Se.get s k = some l := by
    cases hq : Se.get s k with
    | some l' =>
      have := rise_inj hr (get_mem hq) hp rfl
      rw [(Prod.mk.inj this).2]
    | none =>
      exfalso
      clear hr hm
      induction s with
      | nil => cases hp
      | cons y s ih =>
        have hq' : (if y.1 = k then some y.2 else Se.get s k) = none := hq
        split at hq'
        · cases hq'
        · rename_i hne
          rcases List.mem_cons.1 hp with e | e
          · rw [← e] at hne; exact hne rfl
          · exact ih e hq'
  have hm' : Se.may k l.seq = true := hm (k, l) hp
  unfold Se.find
  rw [hg, hm']
  simp

end Go.Proofs.Ytnfjfhjhofaodaa
