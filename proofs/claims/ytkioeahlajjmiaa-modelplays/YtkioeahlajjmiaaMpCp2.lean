/-
  Copy of a model.
-/
import Derived.Test.YtkioeahlajjmiaaMpF
import Derived.Test.YtkioeahlajjmiaaMoChans
import Derived.Test.YtkioeahlajjmiaaMoPost
namespace Go.Proofs.Ytkioeahlajjmiaa
open Go.RowKit Go.Maps

/-- A model without channels, in blocks of its own. -/
theorem MdV.begun {Z : World} {B2 bc2 bo2 n : Nat} {g : ByteArray → Bool} (c0 : Z.cell? ⟨B2, 0, none⟩ = some (.map (some bc2))) (c1 : Z.cell? ⟨B2, 1, none⟩ = some (.map (some bo2))) (hc : Z.heap[bc2]? = some (.map #[] 0)) (ho : Ms Z bo2 n g) (h1 : bc2 ≠ B2) (h2 : bo2 ≠ B2) (h3 : bo2 ≠ bc2) :
    MdV Z B2 ⟨fun _ _ => none, g⟩ (fun k => if k = B2 then 1 else if k = bc2 then 2 else if k = bo2 then 3 else 0) n bc2 bo2 (fun _ _ => none) (fun _ => Mo.newC) := by
  refine ⟨c0, c1, (Mc.ofNew hc).mono (Nat.zero_le _), ho, fun _ _ => rfl, (fun _ _ _ h => by cases h), (fun _ _ _ _ _ h => by cases h), (fun _ _ _ h => by cases h), (by simp), (by simp [h1]), (by simp [h2, h3]), fun k hk => ?_⟩
  by_cases e1 : k = B2
  · rw [e1]; exact World.block_lt_of_cell? _ _ c0
  · by_cases e2 : k = bc2
    · rw [e2]; exact (Array.getElem?_eq_some_iff.1 hc).1
    · by_cases e3 : k = bo2
      · rw [e3]; exact ho.lt
      · simp [e1, e2, e3] at hk
/-- What is so while the channels are copied. -/
def Cpg (w : World) (n bc : Nat) (s : Mo.St) (B2 bc2 bo2 r : Nat) (D : DataW Unit) (X : World) : Prop :=
  ∃ (left : Lit → Bool) (cnt : Nat) (who2 : Nat → Nat) (nn : Nat) (f2 : ByteArray → ByteArray → Option Nat) (cs2 : Nat → Mo.Ch), X.ranges Try.prog 78 ptrElem bc r n D left cnt ∧ MdV X B2 ⟨fun x y => if left (nl x y) = true then none else s.ch x y, s.off⟩ who2 nn bc2 bo2 f2 cs2 ∧ nn + cnt ≤ n + n ∧ n ≤ nn ∧ (∀ k, who2 k ≠ 0 → w.heap.size ≤ k) ∧ Below w.heap.size w X ∧ who2 r = 0
/-- One channel more. -/
theorem Cpg.step {w V W : World} {n nn cnt1 bc B2 bc2 bo2 r bm bb : Nat} {s : Mo.St} {D : DataW Unit} {left : Lit → Bool} {who2 : Nat → Nat} {f f2 : ByteArray → ByteArray → Option Nat} {cs cs2 : Nat → Mo.Ch} {xa xb : ByteArray} {c : Mo.Ch} {v : Value}
    (hr : V.ranges Try.prog 78 ptrElem bc r n D (fun z => left z && !z.sameKey (nl xa xb)) cnt1) (h : MdV V B2 ⟨fun x y => if left (nl x y) = true then none else s.ch x y, s.off⟩ who2 nn bc2 bo2 f2 cs2) (hc : nn + 1 + cnt1 ≤ n + n) (hnn : n ≤ nn) (hn : n < 1099511627776) (hw : ∀ k, who2 k ≠ 0 → w.heap.size ≤ k) (hV : Below w.heap.size w V) (h0 : who2 r = 0) (hbc : bc < w.heap.size)
    (hdom : ∀ x y k, f x y = some k → Ok x ∧ Ok y) (hch : ∀ x y, s.ch x y = (f x y).map cs) (hx : Ok xa) (hy : Ok xb) (hs : s.ch xa xb = some c)
    (hW : Below V.heap.size V W) (h1 : V.heap.size ≤ bm) (h2 : V.heap.size ≤ bb) (h4 : ∀ g, cBlk v = some g → V.heap.size ≤ g ∧ g ≠ bb ∧ g ≠ bm) (hne : bm ≠ bb) (hC : ChV W bb c n bm v) :
    ∃ w3, (Instr.mapUpdate 60 (.map (some bc2)) (.agg #[.string xa, .string xb]) (.pointer (some ⟨bb, 0, none⟩))).run Try.prog W = .ok () w3 ∧ W.grownBy w3 (some bc2) ∧ Cpg w n bc s B2 bc2 bo2 r D w3 ∧ w3.rangeLeft bc r = cnt1 := by
  obtain ⟨w3, who', hrun, hg, hM, hw'⟩ := h.putCh hW (by unfold maxLen; omega) hx hy h1 h2 h4 hne (hC.mono (by omega))
  have hrl := hr.lt
  have hrs := (hr.kept (grown_below hW none) (by simp) (by simp))
  have e1 : some bc ≠ some bc2 := fun e => by
    injection e with e
    have := hw bc2 (by rw [h.wc]; decide)
    omega
  have e2 : some r ≠ some bc2 := fun e => by
    injection e with e
    have := h.wc
    rw [← e, h0] at this
    cases this
  have hr3 := hrs.kept hg e1 e2
  refine ⟨w3, hrun, hg, ⟨_, _, who', nn + 1, setNm f2 xa xb (some bb), (fun k => if k = bb then c else cs2 k), hr3, ?_, hc, by omega, fun k hk => ?_, ?_, ?_⟩, hr3.left_eq⟩
  · have e : (fun x y => if (left (nl x y) && !(nl x y).sameKey (nl xa xb)) = true then none else s.ch x y) = fun a b => if a = xa ∧ b = xb then some c else if left (nl a b) = true then none else s.ch a b := by
      funext a b
      by_cases e : a = xa ∧ b = xb
      · rw [if_pos e, e.1, e.2]
        have := WideAt.sameKey_self (nl_key xa xb)
        rw [this]
        simp [hs]
      · rw [if_neg e]
        cases hq : s.ch a b with
        | none => simp
        | some c' =>
          have hq2 := hq
          rw [hch] at hq2
          cases hf : f a b with
          | none => rw [hf] at hq2; cases hq2
          | some k' =>
            obtain ⟨o1, o2⟩ := hdom a b k' hf
            rw [nl_same o1 o2 hx hy e]
            simp
    rw [e]
    exact hM
  · rcases hw' k hk with q | q
    · exact hw k q
    · exact Nat.le_trans hV.size q
  · have hWw := hV.trans (hW.mono hV.size)
    exact hWw.grown hg hWw.size (fun k hk => by injection hk with hk; rw [← hk]; exact hw bc2 (by rw [h.wc]; decide))
  · by_cases q : who' r = 0
    · exact q
    · rcases hw' r q with e | e
      · exact absurd h0 e
      · omega

section
variable {w W : World} {B : Nat} {s : Mo.St} {who : Nat → Nat} {n bc bo : Nat} {f : ByteArray → ByteArray → Option Nat} {cs : Nat → Mo.Ch}
set_option maxHeartbeats 12800000 in
set_option maxRecDepth 20000 in
theorem Copy_c (h : MdV w B s who n bc bo f cs) (hn : n < 1099511627776) :
    Calls Try.prog 22 #[.pointer (some ⟨B, 0, none⟩)] w fun e w' => ∃ B2 who2, e = .returned (.pointer (some ⟨B2, 0, none⟩)) ∧ Below w.heap.size w w' ∧ Md w' B2 s who2 (n + n) ∧ ∀ k, who2 k ≠ 0 → w.heap.size ≤ k := by
  have HIs : Hid _ := isMade_c h
  have HD : Hid (∀ x y k, f x y = some k → Ok x ∧ Ok y) := h.dom
  have HCh : Hid (∀ x y, s.ch x y = (f x y).map cs) := h.ch
  have HNn : Hid (n < 1099511627776) := hn
  have HM : Hid (MdV w B s who n bc bo f cs) := h
  have hbcl := h.chs.lt
  have HBc : Hid (bc < w.heap.size) := hbcl
  have HS : Hid (∀ X, Below w.heap.size w X → (X.cell? ⟨B, 0, none⟩ = some (.map (some bc)) ∧ X.cell? ⟨B, 1, none⟩ = some (.map (some bo)) ∧ X.heap[bc]? = w.heap[bc]?)) := fun X hX => ⟨(hX.cell (p := ⟨B, 0, none⟩) (World.block_lt_of_cell? _ _ HM.out.c0)).trans HM.out.c0, (hX.cell (p := ⟨B, 1, none⟩) (World.block_lt_of_cell? _ _ HM.out.c1)).trans HM.out.c1, hX.block bc HBc.out⟩
  obtain ⟨D, hown, hat0⟩ := h.chs
  obtain ⟨ml, hml⟩ : ∃ ml : Nat, ml = Maps.size D := ⟨_, rfl⟩
  have HLen : Hid (∀ X : World, X.heap[bc]? = w.heap[bc]? → (Builtin.len_ #[60] 3 #[.map (some bc)]).run Try.prog X = .ok (.int .i64 (ml : Int)) X) := fun X hX => by
    obtain ⟨es, clock, hb, F, hs, hD⟩ := hown
    rw [hml]
    exact World.ownsMap.len ⟨es, clock, hX.trans hb, F, hs, hD⟩ Try.underlying60 _
  have HAt : Hid (∀ x y, Ok x → Ok y → ∀ z, D.atKey (nl x y) z = match f x y with | none => z | some k => .lit (.int .i64 (k : Int))) := hat0
  have HOw : Hid (w.ownsMap Try.prog 78 ptrElem bc n D) := hown
  have HCl : Hid (∀ X, Below w.heap.size w X → Calls Try.prog 45 #[.map (some bo)] X fun e w' => e = .returned (.map (some X.heap.size)) ∧ Ms w' X.heap.size n s.off ∧ Below X.heap.size X w' ∧ w'.heap.size = X.heap.size + 1) := fun X hX => MClone_c (HM.out.off.carry (hX.block bo HM.out.off.lt))
  have HMk := run_makeMapN
  clear h hn hbcl hown hat0 hml
  go_enter Try.func22, Try.ntmps22
  go_wp2_with fail
  refine Calls.mono HIs.out ?_
  rintro e w5 ⟨rfl, hw5⟩
  have hw5 := hw5.symm
  subst hw5
  go_upto_region 3 with fail
  obtain ⟨V, hV⟩ : ∃ V, V = w.drew := ⟨_, rfl⟩
  have HV : Hid (Below w.heap.size w V) := by rw [hV]; exact below_drewN w 1
  refine wp_region_held_drew (S := fun X => X.cell? ⟨B, 0, none⟩ = some (.map (some bc)) ∧ X.cell? ⟨B, 1, none⟩ = some (.map (some bo)) ∧ X.heap[bc]? = w.heap[bc]?) (by kernel_rfl) (by rw [← hV]; exact HS.out V HV.out) (fun hHeld => ?_)
  rw [← hV] at hHeld ⊢
  clear hV
  refine take7 (i := 0) (d := 9) (v := .pointer (some ⟨B, 0, none⟩)) rfl rfl (by kernel_rfl) (by kernel_rfl) (by kernel_rfl) (fun _ _ _ h => h) (Or.inl ⟨by rfl, ?_⟩) (by assumption) ?_
  · intro X hSw
    go_simp
  simp only [Act.put, List.setIfInBounds_toArray, List.set_cons_zero, List.set_cons_succ]
  refine take7 (i := 1) (d := 10) (v := .pointer (some ⟨B, 0, none⟩)) rfl rfl (by kernel_rfl) (by kernel_rfl) (by kernel_rfl) (fun _ _ _ h => h) (Or.inl ⟨by rfl, ?_⟩) (by assumption) ?_
  · intro X hSw
    go_simp
  simp only [Act.put, List.setIfInBounds_toArray, List.set_cons_zero, List.set_cons_succ]
  refine take7 (i := 2) (d := 11) (v := .pointer (some ⟨B, 0, none⟩)) rfl rfl (by kernel_rfl) (by kernel_rfl) (by kernel_rfl) (fun _ _ _ h => h) (Or.inl ⟨by rfl, ?_⟩) (by assumption) ?_
  · intro X hSw
    go_simp
  simp only [Act.put, List.setIfInBounds_toArray, List.set_cons_zero, List.set_cons_succ]
  refine take7 (i := 3) (d := 12) (v := .map (some bc)) rfl rfl (by kernel_rfl) (by kernel_rfl) (by kernel_rfl) (fun _ _ _ h => h) (Or.inl ⟨by rfl, ?_⟩) (by assumption) ?_
  · intro X hSw
    go_simp
  simp only [Act.put, List.setIfInBounds_toArray, List.set_cons_zero, List.set_cons_succ]
  refine take7 (i := 4) (d := 13) (v := .int .i64 (ml : Int)) rfl rfl (by kernel_rfl) (by kernel_rfl) (by kernel_rfl) (fun _ _ _ h => h) (Or.inl ⟨by rfl, ?_⟩) (by assumption) ?_
  · intro X hSw
    have hl := HLen.out X hSw.2.2
    go_simp
  simp only [Act.put, List.setIfInBounds_toArray, List.set_cons_zero, List.set_cons_succ]
  refine take7 (i := 6) (d := 15) (v := .pointer (some ⟨B, 0, none⟩)) rfl rfl (by kernel_rfl) (by kernel_rfl) (by kernel_rfl) (fun _ _ _ h => h) (Or.inl ⟨by rfl, ?_⟩) (by assumption) ?_
  · intro X hSw
    go_simp
  simp only [Act.put, List.setIfInBounds_toArray, List.set_cons_zero, List.set_cons_succ]
  refine take7 (i := 7) (d := 16) (v := .pointer (some ⟨B, 0, none⟩)) rfl rfl (by kernel_rfl) (by kernel_rfl) (by kernel_rfl) (fun _ _ _ h => h) (Or.inl ⟨by rfl, ?_⟩) (by assumption) ?_
  · intro X hSw
    go_simp
  simp only [Act.put, List.setIfInBounds_toArray, List.set_cons_zero, List.set_cons_succ]
  refine take7 (i := 8) (d := 17) (v := .pointer (some ⟨B, 1, none⟩)) rfl rfl (by kernel_rfl) (by kernel_rfl) (by kernel_rfl) (fun _ _ _ h => h) (Or.inl ⟨by rfl, ?_⟩) (by assumption) ?_
  · intro X hSw
    go_simp
  simp only [Act.put, List.setIfInBounds_toArray, List.set_cons_zero, List.set_cons_succ]
  refine take7 (i := 9) (d := 18) (v := .map (some bo)) rfl rfl (by kernel_rfl) (by kernel_rfl) (by kernel_rfl) (fun _ _ _ h => h) (Or.inl ⟨by rfl, ?_⟩) (by assumption) ?_
  · intro X hSw
    go_simp
  simp only [Act.put, List.setIfInBounds_toArray, List.set_cons_zero, List.set_cons_succ]

  refine wpAnyH_ready (rs := [5, 10]) (by kernel_rfl) (by simp) ?_
  refine AllReadyH.cons rfl (fun K hK => ?_) (AllReadyH.cons rfl (fun K hK => ?_) AllReadyH.nil)
  · have hmk := HMk ml V
    go_simp
    obtain ⟨X1, hX1⟩ : ∃ X1, X1 = V.alloc (.map #[] 0) := ⟨_, rfl⟩
    rw [← hX1]
    have HX1 : Hid (Below V.heap.size V X1 ∧ X1.heap.size = V.heap.size + 1 ∧ X1.heap[V.heap.size]? = some (.map #[] 0)) := by rw [hX1]; exact ⟨below_alloc _ _, by simp, (MapKept.heap_alloc _ _).1⟩
    have HX1w : Hid (Below w.heap.size w X1) := HV.out.trans (HX1.out.1.mono HV.out.size)
    refine hK.out _ _ (HS.out X1 HX1w.out) (fun hHeld => ?_)
    clear hK K hmk hX1
    try simp only [Act.put, List.setIfInBounds_toArray, List.set_cons_zero, List.set_cons_succ]
    refine wpAnyH_ready (rs := [10]) (by kernel_rfl) (by simp) ?_
    refine AllReadyH.cons rfl (fun K hK => ?_) AllReadyH.nil
    refine stepCall 19 rfl rfl 45 #[.map (some bo)] (by kernel_rfl) (HCl.out X1 HX1w.out) ?_
    rintro e W1 ⟨rfl, hms, hbW, hsW⟩
    refine ⟨_, rfl, ?_⟩
    have HW1 : Hid (Below X1.heap.size X1 W1 ∧ W1.heap.size = X1.heap.size + 1 ∧ Ms W1 X1.heap.size n s.off) := ⟨hbW, hsW, hms⟩
    have HW1w : Hid (Below w.heap.size w W1) := HX1w.out.trans (hbW.mono HX1w.out.size)
    refine hK.out _ _ (HS.out W1 HW1w.out) (fun hHeld => ?_)
    clear hK K hms hbW hsW
    try simp only [Act.put, List.setIfInBounds_toArray, List.set_cons_zero, List.set_cons_succ]
    refine take7 (i := 11) (d := 20) (v := .agg #[.map (some V.heap.size), .map (some X1.heap.size)]) rfl rfl (by kernel_rfl) (by kernel_rfl) (by kernel_rfl) (fun _ _ _ h => h) (Or.inl ⟨by rfl, ?_⟩) (by assumption) ?_
    · intro X hSw
      go_simp
    simp only [Act.put, List.setIfInBounds_toArray, List.set_cons_zero, List.set_cons_succ]
    refine wpAnyH_ready (rs := [12]) (by kernel_rfl) (by simp) ?_
    refine AllReadyH.cons rfl (fun K hK => ?_) AllReadyH.nil
    go_simp
    obtain ⟨Z, hZ⟩ : ∃ Z, Z = W1.alloc (.cells #[.map (some V.heap.size), .map (some X1.heap.size)] 63) := ⟨_, rfl⟩
    rw [← hZ]
    have hbZ : Below W1.heap.size W1 Z := by rw [hZ]; exact below_alloc _ _
    obtain ⟨bc2, hb1⟩ : ∃ bc2, bc2 = V.heap.size := ⟨_, rfl⟩
    obtain ⟨bo2, hb2⟩ : ∃ bo2, bo2 = X1.heap.size := ⟨_, rfl⟩
    obtain ⟨B2, hb3⟩ : ∃ B2, B2 = W1.heap.size := ⟨_, rfl⟩
    have HZf : Hid (Below w.heap.size w Z ∧ Z.cell? ⟨B2, 0, none⟩ = some (.map (some bc2)) ∧ Z.cell? ⟨B2, 1, none⟩ = some (.map (some bo2)) ∧ Z.heap[bc2]? = some (.map #[] 0) ∧ Ms Z bo2 n s.off ∧ bc2 ≠ B2 ∧ bo2 ≠ B2 ∧ bo2 ≠ bc2 ∧ w.heap.size ≤ bc2 ∧ w.heap.size ≤ bo2 ∧ w.heap.size ≤ B2) := by
      have s1 := HX1.out.2.1
      have s2 := HW1.out.2.1
      have s3 := HV.out.size
      refine ⟨HW1w.out.trans (hbZ.mono HW1w.out.size), by rw [hZ, hb3, hb1]; exact World.cell?_alloc_mark _ _ _ _ 0, by rw [hZ, hb3, hb2]; exact World.cell?_alloc_mark _ _ _ _ 1, ?_, ?_, by omega, by omega, by omega, by omega, by omega, by omega⟩
      · rw [hb1, hbZ.block _ (by omega)]
        rw [HW1.out.1.block _ (by omega)]; exact HX1.out.2.2
      · rw [hb2]
        refine HW1.out.2.2.carry ?_
        rw [hbZ.block _ (by omega)]
    refine hK.out _ _ (HS.out Z HZf.out.1) (fun hHeld => ?_)
    clear hK K hbZ
    try simp only [Act.put, List.setIfInBounds_toArray, List.set_cons_zero, List.set_cons_succ]
    refine take7 (i := 13) (d := 3) (v := .pointer (some ⟨W1.heap.size, 0, none⟩)) rfl rfl (by kernel_rfl) (by kernel_rfl) (by kernel_rfl) (fun _ _ _ h => h) (Or.inl ⟨by rfl, ?_⟩) (by assumption) ?_
    · intro X hSw
      go_simp
    simp only [Act.put, List.setIfInBounds_toArray, List.set_cons_zero, List.set_cons_succ]

    refine wpAnyH_done (by kernel_rfl) ?_ _
    rw [← hb1, ← hb2, ← hb3]
    clear hb1 hb2 hb3 hZ hHeld
    go_upto_region 4 with fail
    have HZw : Hid (Below w.heap.size w Z) := HZf.out.1
    obtain ⟨c0, _, _⟩ := HS.out Z HZw.out
    have HOwZ : Hid (Z.ownsMap Try.prog 78 ptrElem bc n D) := by
      obtain ⟨es, clock, hb, F, hs, hD⟩ := HOw.out
      exact ⟨es, clock, (HZw.out.block bc HBc.out).trans hb, F, hs, hD⟩
    have hownZ := HOwZ.out
    go_wp2_with (first
      | (at_range; refine wpList_range_own _ rfl _ 60 rfl 78 67 nmKeyed Try.underlying60 _ bc n _ rfl hownZ ?_; intro w6 hrg0 hg0 hs0)
      | go_in)
    go_frame
    obtain ⟨r, hr⟩ : ∃ r, r = Z.heap.size := ⟨_, rfl⟩
    rw [← hr] at hrg0 ⊢
    have HRl : Hid (w.heap.size ≤ r) := by rw [hr]; exact HZw.out.size
    have HRz : Hid (r = Z.heap.size) := hr
    have HR0 : Hid (Cpg w n bc s B2 bc2 bo2 r D w6) := by
      have b6 : Below Z.heap.size Z w6 := ⟨hg0.os, hg0.tape, hg0.output, hg0.size, fun k hk => hg0.block k hk (by simp)⟩
      have hB := MdV.begun HZf.out.2.1 HZf.out.2.2.1 HZf.out.2.2.2.1 HZf.out.2.2.2.2.1 HZf.out.2.2.2.2.2.1 HZf.out.2.2.2.2.2.2.1 HZf.out.2.2.2.2.2.2.2.1
      have hB6 := hB.below b6
      have hlo := HZf.out.2.2.2.2.2.2.2.2
      refine ⟨_, _, (fun k => if k = B2 then 1 else if k = bc2 then 2 else if k = bo2 then 3 else 0), n, (fun _ _ => none), (fun _ => Mo.newC), hrg0, ?_, by have := HOw.out.size_le; omega, Nat.le_refl _, fun k hk => ?_, HZw.out.trans (b6.mono HZw.out.size), ?_⟩
      · have e : ∀ left : Lit → Bool, (∀ x y k, f x y = some k → left (nl x y) = true) → (⟨fun x y => if left (nl x y) = true then none else s.ch x y, s.off⟩ : Mo.St) = ⟨fun _ _ => none, s.off⟩ := fun left hl => by
          congr 1
          funext x y
          try dsimp only
          cases hf : f x y with
          | none => rw [HCh.out, hf]; simp
          | some k => rw [hl x y k hf]; simp
        rw [e _ (fun x y k hk => by
          have hd := HD.out x y k hk
          have := has_of (HAt.out x y hd.1 hd.2)
          rw [hk] at this
          exact this)]
        exact hB6
      · by_cases e1 : k = B2
        · omega
        · by_cases e2 : k = bc2
          · omega
          · by_cases e3 : k = bo2
            · omega
            · simp [e1, e2, e3] at hk
      · have h1 : B2 < Z.heap.size := World.block_lt_of_cell? _ _ HZf.out.2.1
        have hrz := HRz.out
        have h2 := (Array.getElem?_eq_some_iff.1 HZf.out.2.2.2.1).1
        have h3 := HZf.out.2.2.2.2.1.lt
        have n1 : r ≠ B2 := by omega
        have n2 : r ≠ bc2 := by omega
        have n3 : r ≠ bo2 := by omega
        simp only [if_neg n1, if_neg n2, if_neg n3]
    clear hrg0 hg0 hs0 hownZ hr c0
    go_loopw [] (fun wr => Hid (Cpg w n bc s B2 bc2 bo2 r D wr)) (fun wr => wr.rangeLeft bc r)
    case atStart => exact HR0
    case round =>
      clear HR0 HZf
      obtain ⟨left, cnt, who2, nn, f2, cs2, hrg, hMd, hcn, hnn, hwh, hbw, hr0⟩ := hrel.out
      have HRg : Hid (wr.ranges Try.prog 78 ptrElem bc r n D left cnt) := hrg
      have HRow : Hid (MdV wr B2 ⟨fun x y => if left (nl x y) = true then none else s.ch x y, s.off⟩ who2 nn bc2 bo2 f2 cs2 ∧ nn + cnt ≤ n + n ∧ n ≤ nn ∧ (∀ k, who2 k ≠ 0 → w.heap.size ≤ k) ∧ Below w.heap.size w wr ∧ who2 r = 0) := ⟨hMd, hcn, hnn, hwh, hbw, hr0⟩
      clear hrel hMd hcn hnn hwh hbw hr0
      go_wp2_with (first
        | (at_next; refine wpList_next_ranges _ rfl _ rfl 78 nmKeyed ptrElem mkN mkP (fun key kl hkey => by obtain ⟨x, hx, _⟩ := nk_inv hkey; exact ⟨x, hx⟩) (fun v y hv => by obtain ⟨c, hc, _⟩ := ptrElem_inv hv; exact ⟨c, hc⟩) bc r n _ _ _ rfl hrg ?_ ?_)
        | go_in)
      · intro _ hl0
        have HE : Hid (Below w.heap.size w wr ∧ Md wr B2 s who2 (n + n) ∧ ∀ k, who2 k ≠ 0 → w.heap.size ≤ k) := by
          have e : (⟨fun x y => if left (nl x y) = true then none else s.ch x y, s.off⟩ : Mo.St) = s := by
            simp [hl0]
          have hM9 := HRow.out.1
          rw [e] at hM9
          exact ⟨HRow.out.2.2.2.2.1, Md.mono (show Md wr B2 s who2 nn from ⟨bc2, bo2, f2, cs2, hM9⟩) (by have := HRow.out.2.1; omega), HRow.out.2.2.2.1⟩
        clear hrg hl0
        go_wp2
        go_ret
        exact ⟨B2, who2, rfl, HE.out⟩
      · intro xa xb c kl' y1 y2 w1 cnt1 hkey hlk hRv hat hrg1 hlt hg1 hs1 hen
        have hatF := HAt.out
        have hxx : Ok xa ∧ Ok xb := by
          obtain ⟨x', hx', h1, h2⟩ := nk_inv hkey
          obtain ⟨e1, e2⟩ := nk_inj (x := xa) (y := xb) (x' := x'.1) (y' := x'.2) hx'
          rw [e1, e2]
          exact ⟨h1, h2⟩
        obtain rfl : kl' = nl xa xb := by
          have := keyOf_nk hxx.1 hxx.2
          unfold nk at this
          unfold mkN at hkey
          rw [this] at hkey
          injection hkey with hkey
          exact hkey.symm
        obtain ⟨k, hk, hck⟩ : ∃ k, f xa xb = some k ∧ c = some k := by
          obtain ⟨c', hc', hy⟩ := ptrElem_inv hRv
          have h1 := hatF xa xb hxx.1 hxx.2
          cases hf : f xa xb with
          | none =>
            exfalso
            rw [hf] at h1
            have e1 := (h1 (.lit (.int .i64 0))).symm.trans (hat _)
            have e2 := (h1 (.lit (.int .i64 1))).symm.trans (hat _)
            have e3 := e1.trans e2.symm
            injection e3 with e3
            injection e3 with _ e3
            cases e3
          | some k =>
            rw [hf] at h1
            have e1 := (h1 (.lit (.int .i64 0))).symm.trans (hat (.lit (.int .i64 0)))
            injection hy with hy _
            rw [hy] at e1
            injection e1 with e1
            injection e1 with _ e1
            refine ⟨k, rfl, ?_⟩
            cases c with
            | none =>
              cases c' with
              | none => exfalso; have e1 : (k : Int) = -1 := e1; omega
              | some d => cases hc'
            | some d =>
              cases c' with
              | none => cases hc'
              | some d' =>
                have e1 : (k : Int) = (d' : Int) := e1
                unfold mkP at hc'
                injection hc' with hc'
                injection hc' with hc'
                injection hc' with hc'
                rw [hc']
                congr 1
                omega
        subst hck
        clear hatF
        have HX : Hid (Ok xa ∧ Ok xb ∧ f xa xb = some k) := ⟨hxx.1, hxx.2, hk⟩
        have HR1 : Hid (w1.ranges Try.prog 78 ptrElem bc r n D (fun z => left z && !z.sameKey (nl xa xb)) cnt1 ∧ cnt1 < cnt ∧ wr.grownBy w1 (some r)) := ⟨hrg1, hlt, hg1⟩
        have hen' : (Instr.entry (.pointer (some ⟨r, 0, none⟩))).run Try.prog w1 = .ok (.tuple #[.agg #[.string xa, .string xb], .pointer (some ⟨k, 0, none⟩)]) w1 := hen
        obtain ⟨nb, hnb⟩ : ∃ nb, nb = w1.heap.size := ⟨_, rfl⟩
        obtain ⟨w2, hw2⟩ : ∃ w2, w2 = w1.alloc (.cells #[.string xa, .string xb] 78) := ⟨_, rfl⟩
        have HM1 : Hid (MdV w1 B2 ⟨fun x y => if left (nl x y) = true then none else s.ch x y, s.off⟩ who2 nn bc2 bo2 f2 cs2) := HRow.out.1.carry hg1.size (fun i hi => hg1.block i (HRow.out.1.here i hi) (fun e => hi (by injection e with e; rw [e]; exact HRow.out.2.2.2.2.2)))
        have HB1 : Hid (Below w.heap.size w w1) := by
          have hb := HRow.out.2.2.2.2.1
          refine ⟨hg1.os.trans hb.os, hg1.tape.trans hb.tape, hg1.output.trans hb.output, Nat.le_trans hb.size hg1.size, fun j hj => (hg1.block j (Nat.lt_of_lt_of_le hj hb.size) (fun e => ?_)).trans (hb.block j hj)⟩
          injection e with e
          have h1 := HRg.out.lt
          have h2 := HRg.out.owns.lt
          have h1 := HRl.out
          omega
        have HB2 : Hid (Below w1.heap.size w1 w2) := by rw [hw2]; exact below_alloc _ _
        have HN2 : Hid (w2.cell? ⟨nb, 0, none⟩ = some (.string xa) ∧ w2.cell? ⟨nb, 1, none⟩ = some (.string xb)) := by rw [hw2, hnb]; exact ⟨World.cell?_alloc_mark w1 _ _ _ 0, World.cell?_alloc_mark w1 _ _ _ 1⟩
        obtain ⟨bm, v0, hcv, wk4, wkm, wkr⟩ := HM.out.one xa xb k hk
        obtain ⟨p, cap, hv0, hc1, hc2⟩ := RowC.form hcv.row
        subst hv0
        obtain ⟨m, hm⟩ : ∃ m, m = (cs k).posts.length := ⟨_, rfl⟩
        have HCv : Hid (ChV w k (cs k) n bm (.slice p m cap)) := by rw [hm]; exact hcv
        have HMm : Hid (m = (cs k).posts.length ∧ m ≤ 1024) := ⟨hm, by rw [hm]; exact hcv.few⟩
        have HS7 : Hid (∀ X, Below w2.heap.size w2 X → (X.cell? ⟨B2, 0, none⟩ = some (.map (some bc2)) ∧ (X.cell? ⟨nb, 0, none⟩ = some (.string xa) ∧ X.cell? ⟨nb, 1, none⟩ = some (.string xb)) ∧ X.cell? ⟨k, 0, none⟩ = some (.map (some bm)) ∧ X.cell? ⟨k, 1, none⟩ = some (.slice p m cap))) := fun X hX => by
          have h1X : Below w1.heap.size w1 X := HB2.out.trans (hX.mono HB2.out.size)
          have hwX := HB1.out.trans (h1X.mono HB1.out.size)
          exact ⟨(h1X.cell (p := ⟨B2, 0, none⟩) (World.block_lt_of_cell? _ _ HM1.out.c0)).trans HM1.out.c0, ⟨(hX.cell (p := ⟨nb, 0, none⟩) (World.block_lt_of_cell? _ _ HN2.out.1)).trans HN2.out.1, (hX.cell (p := ⟨nb, 1, none⟩) (World.block_lt_of_cell? _ _ HN2.out.2)).trans HN2.out.2⟩, (hwX.cell (p := ⟨k, 0, none⟩) (World.block_lt_of_cell? _ _ HCv.out.c0)).trans HCv.out.c0, (hwX.cell (p := ⟨k, 1, none⟩) (World.block_lt_of_cell? _ _ HCv.out.c1)).trans HCv.out.c1⟩
        have HC9 : Hid (∀ X, Below w2.heap.size w2 X → Calls Try.prog 45 #[.map (some bm)] X fun e w' => e = .returned (.map (some X.heap.size)) ∧ Ms w' X.heap.size n (cs k).mem ∧ Below X.heap.size X w' ∧ w'.heap.size = X.heap.size + 1) := fun X hX => by
          have h1X : Below w1.heap.size w1 X := HB2.out.trans (hX.mono HB2.out.size)
          have hwX := HB1.out.trans (h1X.mono HB1.out.size)
          exact MClone_c (HCv.out.mem.carry (hwX.block bm HCv.out.mem.lt))
        have HC14 : Hid (∀ X, Below w2.heap.size w2 X → Calls Try.prog 46 #[.slice p m cap] X fun e w' => ∃ p' cap', e = .returned (.slice p' m cap') ∧ RowC w' 2 (.slice p' m cap') m (poCells (cs k).posts) ∧ Below X.heap.size X w' ∧ ∀ g, cBlk (.slice p' m cap') = some g → X.heap.size ≤ g) := fun X hX => by
          have h1X : Below w1.heap.size w1 X := HB2.out.trans (hX.mono HB2.out.size)
          have hwX := HB1.out.trans (h1X.mono HB1.out.size)
          have hrow : RowC X 2 (.slice p m cap) m (poCells (cs k).posts) := by
            have h9 := RowC.carry HCv.out.row (fun g hg => hwX.block g (RowC.lt HCv.out.row (by decide) hg))
            rw [← HMm.out.1] at h9
            exact h9
          refine (PClone_c hrow (poCells_one _) (by have := HMm.out; omega)).mono ?_
          rintro e w' ⟨v', rfl, h1, h2, h3⟩
          obtain ⟨p', cap', hv', _⟩ := RowC.form h1
          subst hv'
          exact ⟨p', cap', rfl, h1, h2, h3⟩
        try unfold mkN
        try unfold mkP
        clear hen hkey hlk hRv hat hrg1 hlt hg1 hs1 hxx hrg hk hcv wk4 wkm wkr hc1 hc2 hm
        go_upto_region 7 with go_in
        rw [← hw2, ← hnb]
        have HW2 : Hid (w2 = w1.alloc (.cells #[.string xa, .string xb] 78)) := hw2
        clear hw2 hnb hen'
        obtain ⟨V7, hV7⟩ : ∃ V7, V7 = w2.drew := ⟨_, rfl⟩
        have HV7 : Hid (Below w2.heap.size w2 V7) := by rw [hV7]; exact below_drewN w2 1
        refine wp_region_held_drew (S := fun X => X.cell? ⟨B2, 0, none⟩ = some (.map (some bc2)) ∧ (X.cell? ⟨nb, 0, none⟩ = some (.string xa) ∧ X.cell? ⟨nb, 1, none⟩ = some (.string xb)) ∧ X.cell? ⟨k, 0, none⟩ = some (.map (some bm)) ∧ X.cell? ⟨k, 1, none⟩ = some (.slice p m cap)) (by kernel_rfl) (by rw [← hV7]; exact HS7.out V7 HV7.out) (fun hHeld => ?_)
        rw [← hV7] at hHeld ⊢
        clear hV7
        refine take7 (i := 0) (d := 32) (v := .pointer (some ⟨B2, 0, none⟩)) rfl rfl (by kernel_rfl) (by kernel_rfl) (by kernel_rfl) (fun _ _ _ h => h) (Or.inl ⟨by rfl, ?_⟩) (by assumption) ?_
        · intro X hSw
          go_simp
        simp only [Act.put, List.setIfInBounds_toArray, List.set_cons_zero, List.set_cons_succ]
        refine take7 (i := 1) (d := 33) (v := .pointer (some ⟨B2, 0, none⟩)) rfl rfl (by kernel_rfl) (by kernel_rfl) (by kernel_rfl) (fun _ _ _ h => h) (Or.inl ⟨by rfl, ?_⟩) (by assumption) ?_
        · intro X hSw
          go_simp
        simp only [Act.put, List.setIfInBounds_toArray, List.set_cons_zero, List.set_cons_succ]
        refine take7 (i := 2) (d := 34) (v := .pointer (some ⟨B2, 0, none⟩)) rfl rfl (by kernel_rfl) (by kernel_rfl) (by kernel_rfl) (fun _ _ _ h => h) (Or.inl ⟨by rfl, ?_⟩) (by assumption) ?_
        · intro X hSw
          go_simp
        simp only [Act.put, List.setIfInBounds_toArray, List.set_cons_zero, List.set_cons_succ]
        refine take7 (i := 3) (d := 35) (v := .map (some bc2)) rfl rfl (by kernel_rfl) (by kernel_rfl) (by kernel_rfl) (fun _ _ _ h => h) (Or.inl ⟨by rfl, ?_⟩) (by assumption) ?_
        · intro X hSw
          go_simp
        simp only [Act.put, List.setIfInBounds_toArray, List.set_cons_zero, List.set_cons_succ]
        refine take7 (i := 4) (d := 36) (v := .agg #[.string xa, .string xb]) rfl rfl (by kernel_rfl) (by kernel_rfl) (by kernel_rfl) (fun _ _ _ h => h) (Or.inl ⟨by rfl, ?_⟩) (by assumption) ?_
        · intro X hSw
          go_simp
        simp only [Act.put, List.setIfInBounds_toArray, List.set_cons_zero, List.set_cons_succ]
        refine take7 (i := 5) (d := 37) (v := .pointer (some ⟨k, 0, none⟩)) rfl rfl (by kernel_rfl) (by kernel_rfl) (by kernel_rfl) (fun _ _ _ h => h) (Or.inl ⟨by rfl, ?_⟩) (by assumption) ?_
        · intro X hSw
          go_simp
        simp only [Act.put, List.setIfInBounds_toArray, List.set_cons_zero, List.set_cons_succ]
        refine take7 (i := 6) (d := 38) (v := .pointer (some ⟨k, 0, none⟩)) rfl rfl (by kernel_rfl) (by kernel_rfl) (by kernel_rfl) (fun _ _ _ h => h) (Or.inl ⟨by rfl, ?_⟩) (by assumption) ?_
        · intro X hSw
          go_simp
        simp only [Act.put, List.setIfInBounds_toArray, List.set_cons_zero, List.set_cons_succ]
        refine take7 (i := 7) (d := 39) (v := .pointer (some ⟨k, 0, none⟩)) rfl rfl (by kernel_rfl) (by kernel_rfl) (by kernel_rfl) (fun _ _ _ h => h) (Or.inl ⟨by rfl, ?_⟩) (by assumption) ?_
        · intro X hSw
          go_simp
        simp only [Act.put, List.setIfInBounds_toArray, List.set_cons_zero, List.set_cons_succ]
        refine take7 (i := 8) (d := 40) (v := .map (some bm)) rfl rfl (by kernel_rfl) (by kernel_rfl) (by kernel_rfl) (fun _ _ _ h => h) (Or.inl ⟨by rfl, ?_⟩) (by assumption) ?_
        · intro X hSw
          go_simp
        simp only [Act.put, List.setIfInBounds_toArray, List.set_cons_zero, List.set_cons_succ]
        refine take7 (i := 10) (d := 42) (v := .pointer (some ⟨k, 0, none⟩)) rfl rfl (by kernel_rfl) (by kernel_rfl) (by kernel_rfl) (fun _ _ _ h => h) (Or.inl ⟨by rfl, ?_⟩) (by assumption) ?_
        · intro X hSw
          go_simp
        simp only [Act.put, List.setIfInBounds_toArray, List.set_cons_zero, List.set_cons_succ]
        refine take7 (i := 11) (d := 43) (v := .pointer (some ⟨k, 0, none⟩)) rfl rfl (by kernel_rfl) (by kernel_rfl) (by kernel_rfl) (fun _ _ _ h => h) (Or.inl ⟨by rfl, ?_⟩) (by assumption) ?_
        · intro X hSw
          go_simp
        simp only [Act.put, List.setIfInBounds_toArray, List.set_cons_zero, List.set_cons_succ]
        refine take7 (i := 12) (d := 44) (v := .pointer (some ⟨k, 1, none⟩)) rfl rfl (by kernel_rfl) (by kernel_rfl) (by kernel_rfl) (fun _ _ _ h => h) (Or.inl ⟨by rfl, ?_⟩) (by assumption) ?_
        · intro X hSw
          go_simp
        simp only [Act.put, List.setIfInBounds_toArray, List.set_cons_zero, List.set_cons_succ]
        refine take7 (i := 13) (d := 45) (v := .slice p m cap) rfl rfl (by kernel_rfl) (by kernel_rfl) (by kernel_rfl) (fun _ _ _ h => h) (Or.inl ⟨by rfl, ?_⟩) (by assumption) ?_
        · intro X hSw
          go_simp
        simp only [Act.put, List.setIfInBounds_toArray, List.set_cons_zero, List.set_cons_succ]

        refine wpAnyH_ready (rs := [9]) (by kernel_rfl) (by simp) ?_
        refine AllReadyH.cons rfl (fun K hK => ?_) AllReadyH.nil
        refine stepCall 41 rfl rfl 45 #[.map (some bm)] (by kernel_rfl) (HC9.out V7 HV7.out) ?_
        rintro e Y1 ⟨rfl, hms, hbY1, hsY1⟩
        refine ⟨_, rfl, ?_⟩
        have HY1 : Hid (Below w2.heap.size w2 Y1 ∧ Below V7.heap.size V7 Y1 ∧ Ms Y1 V7.heap.size n (cs k).mem ∧ Y1.heap.size = V7.heap.size + 1) := ⟨HV7.out.trans (hbY1.mono HV7.out.size), hbY1, hms, hsY1⟩
        refine hK.out _ _ (HS7.out Y1 HY1.out.1) (fun hHeld => ?_)
        clear hK K hms hbY1 hsY1
        try simp only [Act.put, List.setIfInBounds_toArray, List.set_cons_zero, List.set_cons_succ]
        refine wpAnyH_ready (rs := [14]) (by kernel_rfl) (by simp) ?_
        refine AllReadyH.cons rfl (fun K hK => ?_) AllReadyH.nil
        refine stepCall 46 rfl rfl 46 #[.slice p m cap] (by kernel_rfl) (HC14.out Y1 HY1.out.1) ?_
        rintro e Y2 ⟨p', cap', rfl, hrw, hbY2, hgY2⟩
        refine ⟨_, rfl, ?_⟩
        have HY2 : Hid (Below w2.heap.size w2 Y2 ∧ Below Y1.heap.size Y1 Y2 ∧ RowC Y2 2 (.slice p' m cap') m (poCells (cs k).posts) ∧ ∀ g, cBlk (.slice p' m cap') = some g → Y1.heap.size ≤ g) := ⟨HY1.out.1.trans (hbY2.mono HY1.out.1.size), hbY2, hrw, hgY2⟩
        refine hK.out _ _ (HS7.out Y2 HY2.out.1) (fun hHeld => ?_)
        clear hK K hrw hbY2 hgY2
        try simp only [Act.put, List.setIfInBounds_toArray, List.set_cons_zero, List.set_cons_succ]
        refine take7 (i := 15) (d := 47) (v := .agg #[.map (some V7.heap.size), .slice p' m cap']) rfl rfl (by kernel_rfl) (by kernel_rfl) (by kernel_rfl) (fun _ _ _ h => h) (Or.inl ⟨by rfl, ?_⟩) (by assumption) ?_
        · intro X hSw
          go_simp
        simp only [Act.put, List.setIfInBounds_toArray, List.set_cons_zero, List.set_cons_succ]

        refine wpAnyH_ready (rs := [16]) (by kernel_rfl) (by simp) ?_
        refine AllReadyH.cons rfl (fun K hK => ?_) AllReadyH.nil
        go_simp
        obtain ⟨Y3, hY3⟩ : ∃ Y3, Y3 = Y2.alloc (.cells #[.map (some V7.heap.size), .slice p' m cap'] 76) := ⟨_, rfl⟩
        obtain ⟨bb, hbb⟩ : ∃ bb, bb = Y2.heap.size := ⟨_, rfl⟩
        rw [← hY3, ← hbb]
        have hb3 : Below Y2.heap.size Y2 Y3 := by rw [hY3]; exact below_alloc _ _
        have HY3 : Hid (Below w2.heap.size w2 Y3) := HY2.out.1.trans (hb3.mono HY2.out.1.size)
        have HChv : Hid (ChV Y3 bb (cs k) n V7.heap.size (.slice p' m cap')) := by
          have hb13 : Below Y1.heap.size Y1 Y3 := HY2.out.2.1.trans (hb3.mono HY2.out.2.1.size)
          refine ⟨by rw [hY3, hbb]; exact World.cell?_alloc_mark Y2 _ _ _ 0, by rw [hY3, hbb]; exact World.cell?_alloc_mark Y2 _ _ _ 1, fun j => by rw [hY3, hbb, World.frozen?_alloc_mark]; simp, HY1.out.2.2.1.carry (hb13.block _ HY1.out.2.2.1.lt), ?_, by have := HMm.out; omega⟩
          have h9 := RowC.carry HY2.out.2.2.1 (fun g hg => hb3.block g (RowC.lt HY2.out.2.2.1 (by decide) hg))
          rw [HMm.out.1] at h9 ⊢
          exact h9
        have hst : ∃ w3, (Instr.mapUpdate 60 (.map (some bc2)) (.agg #[.string xa, .string xb]) (.pointer (some ⟨bb, 0, none⟩))).run Try.prog Y3 = .ok () w3 ∧ Y3.grownBy w3 (some bc2) ∧ Cpg w n bc s B2 bc2 bo2 r D w3 ∧ w3.rangeLeft bc r = cnt1 := by
          have h12 : Below w1.heap.size w1 V7 := HB2.out.trans (HV7.out.mono HB2.out.size)
          have hr7 := HR1.out.1.kept (grown_below h12 none) (by simp) (by simp)
          have hs7 := HY1.out.2.2.2
          have hsz := HY2.out.2.1.size
          refine Cpg.step hr7 (HM1.out.below h12) (by have := HRow.out.2.1; have := HR1.out.2.1; omega) HRow.out.2.2.1 HNn.out HRow.out.2.2.2.1 (HB1.out.trans (h12.mono HB1.out.size)) HRow.out.2.2.2.2.2 HBc.out HD.out HCh.out HX.out.1 HX.out.2.1 (by rw [HCh.out, HX.out.2.2]; rfl) (HY1.out.2.1.trans ((HY2.out.2.1.trans (hb3.mono HY2.out.2.1.size)).mono HY1.out.2.1.size)) (Nat.le_refl _) (by omega) (fun g hg => ?_) (by omega) HChv.out
          have h1 := HY2.out.2.2.2 g hg
          have h2 := RowC.lt HY2.out.2.2.1 (by decide) hg
          exact ⟨by omega, by omega, by omega⟩
        clear hY3 hbb hb3
        obtain ⟨w3, hrun, hg3, hcp, hrl⟩ := hst
        have HCp : Hid (Cpg w n bc s B2 bc2 bo2 r D w3 ∧ w3.rangeLeft bc r = cnt1) := ⟨hcp, hrl⟩
        have HS9 : Hid ((fun X : World => X.cell? ⟨B2, 0, none⟩ = some (.map (some bc2)) ∧ (X.cell? ⟨nb, 0, none⟩ = some (.string xa) ∧ X.cell? ⟨nb, 1, none⟩ = some (.string xb)) ∧ X.cell? ⟨k, 0, none⟩ = some (.map (some bm)) ∧ X.cell? ⟨k, 1, none⟩ = some (.slice p m cap)) w3) := by
          have hh := HS7.out Y3 HY3.out
          obtain ⟨q1, ⟨q2, q3⟩, q4, q5⟩ := hh
          have no : ∀ (b o : Nat) (v : Value), Y3.cell? ⟨b, o, none⟩ = some v → w3.cell? ⟨b, o, none⟩ = some v := fun b o v hv => by
            have hl := World.block_lt_of_cell? _ _ hv
            refine (World.cell?_of_block (a := ⟨b, o, none⟩) (hg3.block b hl (fun e => ?_))).trans hv
            injection e with e
            have h12 : Below w1.heap.size w1 Y3 := HB2.out.trans (HY3.out.mono HB2.out.size)
            have hm9 := (HM1.out.below h12).chs.noCell o
            rw [e] at hv
            rw [hm9] at hv
            cases hv
          exact ⟨no _ _ _ q1, ⟨no _ _ _ q2, no _ _ _ q3⟩, no _ _ _ q4, no _ _ _ q5⟩
        clear hcp hrl hg3
        refine hK.out _ _ (HS7.out Y3 HY3.out) (fun hHeld => ?_)
        clear hK K
        try simp only [Act.put, List.setIfInBounds_toArray, List.set_cons_zero, List.set_cons_succ]
        refine wpAnyH_ready (rs := [17]) (by kernel_rfl) (by simp) ?_
        refine AllReadyH.cons rfl (fun K hK => ?_) AllReadyH.nil
        refine stepUpdate rfl rfl 60 (.tmp 35) (.tmp 36) (.tmp 48) rfl (by simp [Act.eval]) (by simp [Act.eval]) (by simp [Act.eval]) hrun ?_
        refine hK.out _ _ HS9.out (fun hHeld => ?_)
        clear hK K hrun hHeld
        refine wpAnyH_done (by kernel_rfl) ?_ _
        go_wp2
        go_roundw
        case rel => exact HCp.out.1
        case measure => rw [HCp.out.2, HRg.out.left_eq]; exact HR1.out.2.1
  · refine stepCall 19 rfl rfl 45 #[.map (some bo)] (by kernel_rfl) (HCl.out V HV.out) ?_
    rintro e W1 ⟨rfl, hms, hbW, hsW⟩
    refine ⟨_, rfl, ?_⟩
    have HW1 : Hid (Below V.heap.size V W1 ∧ W1.heap.size = V.heap.size + 1 ∧ Ms W1 V.heap.size n s.off) := ⟨hbW, hsW, hms⟩
    have HW1w : Hid (Below w.heap.size w W1) := HV.out.trans (hbW.mono HV.out.size)
    refine hK.out _ _ (HS.out W1 HW1w.out) (fun hHeld => ?_)
    clear hK K hms hbW hsW
    try simp only [Act.put, List.setIfInBounds_toArray, List.set_cons_zero, List.set_cons_succ]
    refine wpAnyH_ready (rs := [5]) (by kernel_rfl) (by simp) ?_
    refine AllReadyH.cons rfl (fun K hK => ?_) AllReadyH.nil
    have hmk := HMk ml W1
    go_simp
    obtain ⟨X1, hX1⟩ : ∃ X1, X1 = W1.alloc (.map #[] 0) := ⟨_, rfl⟩
    rw [← hX1]
    have HX1 : Hid (Below W1.heap.size W1 X1 ∧ X1.heap.size = W1.heap.size + 1 ∧ X1.heap[W1.heap.size]? = some (.map #[] 0)) := by rw [hX1]; exact ⟨below_alloc _ _, by simp, (MapKept.heap_alloc _ _).1⟩
    have HX1w : Hid (Below w.heap.size w X1) := HW1w.out.trans (HX1.out.1.mono HW1w.out.size)
    refine hK.out _ _ (HS.out X1 HX1w.out) (fun hHeld => ?_)
    clear hK K hmk hX1
    try simp only [Act.put, List.setIfInBounds_toArray, List.set_cons_zero, List.set_cons_succ]
    refine take7 (i := 11) (d := 20) (v := .agg #[.map (some W1.heap.size), .map (some V.heap.size)]) rfl rfl (by kernel_rfl) (by kernel_rfl) (by kernel_rfl) (fun _ _ _ h => h) (Or.inl ⟨by rfl, ?_⟩) (by assumption) ?_
    · intro X hSw
      go_simp
    simp only [Act.put, List.setIfInBounds_toArray, List.set_cons_zero, List.set_cons_succ]
    refine wpAnyH_ready (rs := [12]) (by kernel_rfl) (by simp) ?_
    refine AllReadyH.cons rfl (fun K hK => ?_) AllReadyH.nil
    go_simp
    obtain ⟨Z, hZ⟩ : ∃ Z, Z = X1.alloc (.cells #[.map (some W1.heap.size), .map (some V.heap.size)] 63) := ⟨_, rfl⟩
    rw [← hZ]
    have hbZ : Below X1.heap.size X1 Z := by rw [hZ]; exact below_alloc _ _
    obtain ⟨bc2, hb1⟩ : ∃ bc2, bc2 = W1.heap.size := ⟨_, rfl⟩
    obtain ⟨bo2, hb2⟩ : ∃ bo2, bo2 = V.heap.size := ⟨_, rfl⟩
    obtain ⟨B2, hb3⟩ : ∃ B2, B2 = X1.heap.size := ⟨_, rfl⟩
    have HZf : Hid (Below w.heap.size w Z ∧ Z.cell? ⟨B2, 0, none⟩ = some (.map (some bc2)) ∧ Z.cell? ⟨B2, 1, none⟩ = some (.map (some bo2)) ∧ Z.heap[bc2]? = some (.map #[] 0) ∧ Ms Z bo2 n s.off ∧ bc2 ≠ B2 ∧ bo2 ≠ B2 ∧ bo2 ≠ bc2 ∧ w.heap.size ≤ bc2 ∧ w.heap.size ≤ bo2 ∧ w.heap.size ≤ B2) := by
      have s1 := HX1.out.2.1
      have s2 := HW1.out.2.1
      have s3 := HV.out.size
      refine ⟨HX1w.out.trans (hbZ.mono HX1w.out.size), by rw [hZ, hb3, hb1]; exact World.cell?_alloc_mark _ _ _ _ 0, by rw [hZ, hb3, hb2]; exact World.cell?_alloc_mark _ _ _ _ 1, ?_, ?_, by omega, by omega, by omega, by omega, by omega, by omega⟩
      · rw [hb1, hbZ.block _ (by omega)]
        exact HX1.out.2.2
      · rw [hb2]
        refine HW1.out.2.2.carry ?_
        rw [hbZ.block _ (by omega)]
        exact HX1.out.1.block _ (by omega)
    refine hK.out _ _ (HS.out Z HZf.out.1) (fun hHeld => ?_)
    clear hK K hbZ
    try simp only [Act.put, List.setIfInBounds_toArray, List.set_cons_zero, List.set_cons_succ]
    refine take7 (i := 13) (d := 3) (v := .pointer (some ⟨X1.heap.size, 0, none⟩)) rfl rfl (by kernel_rfl) (by kernel_rfl) (by kernel_rfl) (fun _ _ _ h => h) (Or.inl ⟨by rfl, ?_⟩) (by assumption) ?_
    · intro X hSw
      go_simp
    simp only [Act.put, List.setIfInBounds_toArray, List.set_cons_zero, List.set_cons_succ]

    refine wpAnyH_done (by kernel_rfl) ?_ _
    rw [← hb1, ← hb2, ← hb3]
    clear hb1 hb2 hb3 hZ hHeld
    go_upto_region 4 with fail
    have HZw : Hid (Below w.heap.size w Z) := HZf.out.1
    obtain ⟨c0, _, _⟩ := HS.out Z HZw.out
    have HOwZ : Hid (Z.ownsMap Try.prog 78 ptrElem bc n D) := by
      obtain ⟨es, clock, hb, F, hs, hD⟩ := HOw.out
      exact ⟨es, clock, (HZw.out.block bc HBc.out).trans hb, F, hs, hD⟩
    have hownZ := HOwZ.out
    go_wp2_with (first
      | (at_range; refine wpList_range_own _ rfl _ 60 rfl 78 67 nmKeyed Try.underlying60 _ bc n _ rfl hownZ ?_; intro w6 hrg0 hg0 hs0)
      | go_in)
    go_frame
    obtain ⟨r, hr⟩ : ∃ r, r = Z.heap.size := ⟨_, rfl⟩
    rw [← hr] at hrg0 ⊢
    have HRl : Hid (w.heap.size ≤ r) := by rw [hr]; exact HZw.out.size
    have HRz : Hid (r = Z.heap.size) := hr
    have HR0 : Hid (Cpg w n bc s B2 bc2 bo2 r D w6) := by
      have b6 : Below Z.heap.size Z w6 := ⟨hg0.os, hg0.tape, hg0.output, hg0.size, fun k hk => hg0.block k hk (by simp)⟩
      have hB := MdV.begun HZf.out.2.1 HZf.out.2.2.1 HZf.out.2.2.2.1 HZf.out.2.2.2.2.1 HZf.out.2.2.2.2.2.1 HZf.out.2.2.2.2.2.2.1 HZf.out.2.2.2.2.2.2.2.1
      have hB6 := hB.below b6
      have hlo := HZf.out.2.2.2.2.2.2.2.2
      refine ⟨_, _, (fun k => if k = B2 then 1 else if k = bc2 then 2 else if k = bo2 then 3 else 0), n, (fun _ _ => none), (fun _ => Mo.newC), hrg0, ?_, by have := HOw.out.size_le; omega, Nat.le_refl _, fun k hk => ?_, HZw.out.trans (b6.mono HZw.out.size), ?_⟩
      · have e : ∀ left : Lit → Bool, (∀ x y k, f x y = some k → left (nl x y) = true) → (⟨fun x y => if left (nl x y) = true then none else s.ch x y, s.off⟩ : Mo.St) = ⟨fun _ _ => none, s.off⟩ := fun left hl => by
          congr 1
          funext x y
          try dsimp only
          cases hf : f x y with
          | none => rw [HCh.out, hf]; simp
          | some k => rw [hl x y k hf]; simp
        rw [e _ (fun x y k hk => by
          have hd := HD.out x y k hk
          have := has_of (HAt.out x y hd.1 hd.2)
          rw [hk] at this
          exact this)]
        exact hB6
      · by_cases e1 : k = B2
        · omega
        · by_cases e2 : k = bc2
          · omega
          · by_cases e3 : k = bo2
            · omega
            · simp [e1, e2, e3] at hk
      · have h1 : B2 < Z.heap.size := World.block_lt_of_cell? _ _ HZf.out.2.1
        have hrz := HRz.out
        have h2 := (Array.getElem?_eq_some_iff.1 HZf.out.2.2.2.1).1
        have h3 := HZf.out.2.2.2.2.1.lt
        have n1 : r ≠ B2 := by omega
        have n2 : r ≠ bc2 := by omega
        have n3 : r ≠ bo2 := by omega
        simp only [if_neg n1, if_neg n2, if_neg n3]
    clear hrg0 hg0 hs0 hownZ hr c0
    go_loopw [] (fun wr => Hid (Cpg w n bc s B2 bc2 bo2 r D wr)) (fun wr => wr.rangeLeft bc r)
    case atStart => exact HR0
    case round =>
      clear HR0 HZf
      obtain ⟨left, cnt, who2, nn, f2, cs2, hrg, hMd, hcn, hnn, hwh, hbw, hr0⟩ := hrel.out
      have HRg : Hid (wr.ranges Try.prog 78 ptrElem bc r n D left cnt) := hrg
      have HRow : Hid (MdV wr B2 ⟨fun x y => if left (nl x y) = true then none else s.ch x y, s.off⟩ who2 nn bc2 bo2 f2 cs2 ∧ nn + cnt ≤ n + n ∧ n ≤ nn ∧ (∀ k, who2 k ≠ 0 → w.heap.size ≤ k) ∧ Below w.heap.size w wr ∧ who2 r = 0) := ⟨hMd, hcn, hnn, hwh, hbw, hr0⟩
      clear hrel hMd hcn hnn hwh hbw hr0
      go_wp2_with (first
        | (at_next; refine wpList_next_ranges _ rfl _ rfl 78 nmKeyed ptrElem mkN mkP (fun key kl hkey => by obtain ⟨x, hx, _⟩ := nk_inv hkey; exact ⟨x, hx⟩) (fun v y hv => by obtain ⟨c, hc, _⟩ := ptrElem_inv hv; exact ⟨c, hc⟩) bc r n _ _ _ rfl hrg ?_ ?_)
        | go_in)
      · intro _ hl0
        have HE : Hid (Below w.heap.size w wr ∧ Md wr B2 s who2 (n + n) ∧ ∀ k, who2 k ≠ 0 → w.heap.size ≤ k) := by
          have e : (⟨fun x y => if left (nl x y) = true then none else s.ch x y, s.off⟩ : Mo.St) = s := by
            simp [hl0]
          have hM9 := HRow.out.1
          rw [e] at hM9
          exact ⟨HRow.out.2.2.2.2.1, Md.mono (show Md wr B2 s who2 nn from ⟨bc2, bo2, f2, cs2, hM9⟩) (by have := HRow.out.2.1; omega), HRow.out.2.2.2.1⟩
        clear hrg hl0
        go_wp2
        go_ret
        exact ⟨B2, who2, rfl, HE.out⟩
      · intro xa xb c kl' y1 y2 w1 cnt1 hkey hlk hRv hat hrg1 hlt hg1 hs1 hen
        have hatF := HAt.out
        have hxx : Ok xa ∧ Ok xb := by
          obtain ⟨x', hx', h1, h2⟩ := nk_inv hkey
          obtain ⟨e1, e2⟩ := nk_inj (x := xa) (y := xb) (x' := x'.1) (y' := x'.2) hx'
          rw [e1, e2]
          exact ⟨h1, h2⟩
        obtain rfl : kl' = nl xa xb := by
          have := keyOf_nk hxx.1 hxx.2
          unfold nk at this
          unfold mkN at hkey
          rw [this] at hkey
          injection hkey with hkey
          exact hkey.symm
        obtain ⟨k, hk, hck⟩ : ∃ k, f xa xb = some k ∧ c = some k := by
          obtain ⟨c', hc', hy⟩ := ptrElem_inv hRv
          have h1 := hatF xa xb hxx.1 hxx.2
          cases hf : f xa xb with
          | none =>
            exfalso
            rw [hf] at h1
            have e1 := (h1 (.lit (.int .i64 0))).symm.trans (hat _)
            have e2 := (h1 (.lit (.int .i64 1))).symm.trans (hat _)
            have e3 := e1.trans e2.symm
            injection e3 with e3
            injection e3 with _ e3
            cases e3
          | some k =>
            rw [hf] at h1
            have e1 := (h1 (.lit (.int .i64 0))).symm.trans (hat (.lit (.int .i64 0)))
            injection hy with hy _
            rw [hy] at e1
            injection e1 with e1
            injection e1 with _ e1
            refine ⟨k, rfl, ?_⟩
            cases c with
            | none =>
              cases c' with
              | none => exfalso; have e1 : (k : Int) = -1 := e1; omega
              | some d => cases hc'
            | some d =>
              cases c' with
              | none => cases hc'
              | some d' =>
                have e1 : (k : Int) = (d' : Int) := e1
                unfold mkP at hc'
                injection hc' with hc'
                injection hc' with hc'
                injection hc' with hc'
                rw [hc']
                congr 1
                omega
        subst hck
        clear hatF
        have HX : Hid (Ok xa ∧ Ok xb ∧ f xa xb = some k) := ⟨hxx.1, hxx.2, hk⟩
        have HR1 : Hid (w1.ranges Try.prog 78 ptrElem bc r n D (fun z => left z && !z.sameKey (nl xa xb)) cnt1 ∧ cnt1 < cnt ∧ wr.grownBy w1 (some r)) := ⟨hrg1, hlt, hg1⟩
        have hen' : (Instr.entry (.pointer (some ⟨r, 0, none⟩))).run Try.prog w1 = .ok (.tuple #[.agg #[.string xa, .string xb], .pointer (some ⟨k, 0, none⟩)]) w1 := hen
        obtain ⟨nb, hnb⟩ : ∃ nb, nb = w1.heap.size := ⟨_, rfl⟩
        obtain ⟨w2, hw2⟩ : ∃ w2, w2 = w1.alloc (.cells #[.string xa, .string xb] 78) := ⟨_, rfl⟩
        have HM1 : Hid (MdV w1 B2 ⟨fun x y => if left (nl x y) = true then none else s.ch x y, s.off⟩ who2 nn bc2 bo2 f2 cs2) := HRow.out.1.carry hg1.size (fun i hi => hg1.block i (HRow.out.1.here i hi) (fun e => hi (by injection e with e; rw [e]; exact HRow.out.2.2.2.2.2)))
        have HB1 : Hid (Below w.heap.size w w1) := by
          have hb := HRow.out.2.2.2.2.1
          refine ⟨hg1.os.trans hb.os, hg1.tape.trans hb.tape, hg1.output.trans hb.output, Nat.le_trans hb.size hg1.size, fun j hj => (hg1.block j (Nat.lt_of_lt_of_le hj hb.size) (fun e => ?_)).trans (hb.block j hj)⟩
          injection e with e
          have h1 := HRg.out.lt
          have h2 := HRg.out.owns.lt
          have h1 := HRl.out
          omega
        have HB2 : Hid (Below w1.heap.size w1 w2) := by rw [hw2]; exact below_alloc _ _
        have HN2 : Hid (w2.cell? ⟨nb, 0, none⟩ = some (.string xa) ∧ w2.cell? ⟨nb, 1, none⟩ = some (.string xb)) := by rw [hw2, hnb]; exact ⟨World.cell?_alloc_mark w1 _ _ _ 0, World.cell?_alloc_mark w1 _ _ _ 1⟩
        obtain ⟨bm, v0, hcv, wk4, wkm, wkr⟩ := HM.out.one xa xb k hk
        obtain ⟨p, cap, hv0, hc1, hc2⟩ := RowC.form hcv.row
        subst hv0
        obtain ⟨m, hm⟩ : ∃ m, m = (cs k).posts.length := ⟨_, rfl⟩
        have HCv : Hid (ChV w k (cs k) n bm (.slice p m cap)) := by rw [hm]; exact hcv
        have HMm : Hid (m = (cs k).posts.length ∧ m ≤ 1024) := ⟨hm, by rw [hm]; exact hcv.few⟩
        have HS7 : Hid (∀ X, Below w2.heap.size w2 X → (X.cell? ⟨B2, 0, none⟩ = some (.map (some bc2)) ∧ (X.cell? ⟨nb, 0, none⟩ = some (.string xa) ∧ X.cell? ⟨nb, 1, none⟩ = some (.string xb)) ∧ X.cell? ⟨k, 0, none⟩ = some (.map (some bm)) ∧ X.cell? ⟨k, 1, none⟩ = some (.slice p m cap))) := fun X hX => by
          have h1X : Below w1.heap.size w1 X := HB2.out.trans (hX.mono HB2.out.size)
          have hwX := HB1.out.trans (h1X.mono HB1.out.size)
          exact ⟨(h1X.cell (p := ⟨B2, 0, none⟩) (World.block_lt_of_cell? _ _ HM1.out.c0)).trans HM1.out.c0, ⟨(hX.cell (p := ⟨nb, 0, none⟩) (World.block_lt_of_cell? _ _ HN2.out.1)).trans HN2.out.1, (hX.cell (p := ⟨nb, 1, none⟩) (World.block_lt_of_cell? _ _ HN2.out.2)).trans HN2.out.2⟩, (hwX.cell (p := ⟨k, 0, none⟩) (World.block_lt_of_cell? _ _ HCv.out.c0)).trans HCv.out.c0, (hwX.cell (p := ⟨k, 1, none⟩) (World.block_lt_of_cell? _ _ HCv.out.c1)).trans HCv.out.c1⟩
        have HC9 : Hid (∀ X, Below w2.heap.size w2 X → Calls Try.prog 45 #[.map (some bm)] X fun e w' => e = .returned (.map (some X.heap.size)) ∧ Ms w' X.heap.size n (cs k).mem ∧ Below X.heap.size X w' ∧ w'.heap.size = X.heap.size + 1) := fun X hX => by
          have h1X : Below w1.heap.size w1 X := HB2.out.trans (hX.mono HB2.out.size)
          have hwX := HB1.out.trans (h1X.mono HB1.out.size)
          exact MClone_c (HCv.out.mem.carry (hwX.block bm HCv.out.mem.lt))
        have HC14 : Hid (∀ X, Below w2.heap.size w2 X → Calls Try.prog 46 #[.slice p m cap] X fun e w' => ∃ p' cap', e = .returned (.slice p' m cap') ∧ RowC w' 2 (.slice p' m cap') m (poCells (cs k).posts) ∧ Below X.heap.size X w' ∧ ∀ g, cBlk (.slice p' m cap') = some g → X.heap.size ≤ g) := fun X hX => by
          have h1X : Below w1.heap.size w1 X := HB2.out.trans (hX.mono HB2.out.size)
          have hwX := HB1.out.trans (h1X.mono HB1.out.size)
          have hrow : RowC X 2 (.slice p m cap) m (poCells (cs k).posts) := by
            have h9 := RowC.carry HCv.out.row (fun g hg => hwX.block g (RowC.lt HCv.out.row (by decide) hg))
            rw [← HMm.out.1] at h9
            exact h9
          refine (PClone_c hrow (poCells_one _) (by have := HMm.out; omega)).mono ?_
          rintro e w' ⟨v', rfl, h1, h2, h3⟩
          obtain ⟨p', cap', hv', _⟩ := RowC.form h1
          subst hv'
          exact ⟨p', cap', rfl, h1, h2, h3⟩
        try unfold mkN
        try unfold mkP
        clear hen hkey hlk hRv hat hrg1 hlt hg1 hs1 hxx hrg hk hcv wk4 wkm wkr hc1 hc2 hm
        go_upto_region 7 with go_in
        rw [← hw2, ← hnb]
        have HW2 : Hid (w2 = w1.alloc (.cells #[.string xa, .string xb] 78)) := hw2
        clear hw2 hnb hen'
        obtain ⟨V7, hV7⟩ : ∃ V7, V7 = w2.drew := ⟨_, rfl⟩
        have HV7 : Hid (Below w2.heap.size w2 V7) := by rw [hV7]; exact below_drewN w2 1
        refine wp_region_held_drew (S := fun X => X.cell? ⟨B2, 0, none⟩ = some (.map (some bc2)) ∧ (X.cell? ⟨nb, 0, none⟩ = some (.string xa) ∧ X.cell? ⟨nb, 1, none⟩ = some (.string xb)) ∧ X.cell? ⟨k, 0, none⟩ = some (.map (some bm)) ∧ X.cell? ⟨k, 1, none⟩ = some (.slice p m cap)) (by kernel_rfl) (by rw [← hV7]; exact HS7.out V7 HV7.out) (fun hHeld => ?_)
        rw [← hV7] at hHeld ⊢
        clear hV7
        refine take7 (i := 0) (d := 32) (v := .pointer (some ⟨B2, 0, none⟩)) rfl rfl (by kernel_rfl) (by kernel_rfl) (by kernel_rfl) (fun _ _ _ h => h) (Or.inl ⟨by rfl, ?_⟩) (by assumption) ?_
        · intro X hSw
          go_simp
        simp only [Act.put, List.setIfInBounds_toArray, List.set_cons_zero, List.set_cons_succ]
        refine take7 (i := 1) (d := 33) (v := .pointer (some ⟨B2, 0, none⟩)) rfl rfl (by kernel_rfl) (by kernel_rfl) (by kernel_rfl) (fun _ _ _ h => h) (Or.inl ⟨by rfl, ?_⟩) (by assumption) ?_
        · intro X hSw
          go_simp
        simp only [Act.put, List.setIfInBounds_toArray, List.set_cons_zero, List.set_cons_succ]
        refine take7 (i := 2) (d := 34) (v := .pointer (some ⟨B2, 0, none⟩)) rfl rfl (by kernel_rfl) (by kernel_rfl) (by kernel_rfl) (fun _ _ _ h => h) (Or.inl ⟨by rfl, ?_⟩) (by assumption) ?_
        · intro X hSw
          go_simp
        simp only [Act.put, List.setIfInBounds_toArray, List.set_cons_zero, List.set_cons_succ]
        refine take7 (i := 3) (d := 35) (v := .map (some bc2)) rfl rfl (by kernel_rfl) (by kernel_rfl) (by kernel_rfl) (fun _ _ _ h => h) (Or.inl ⟨by rfl, ?_⟩) (by assumption) ?_
        · intro X hSw
          go_simp
        simp only [Act.put, List.setIfInBounds_toArray, List.set_cons_zero, List.set_cons_succ]
        refine take7 (i := 4) (d := 36) (v := .agg #[.string xa, .string xb]) rfl rfl (by kernel_rfl) (by kernel_rfl) (by kernel_rfl) (fun _ _ _ h => h) (Or.inl ⟨by rfl, ?_⟩) (by assumption) ?_
        · intro X hSw
          go_simp
        simp only [Act.put, List.setIfInBounds_toArray, List.set_cons_zero, List.set_cons_succ]
        refine take7 (i := 5) (d := 37) (v := .pointer (some ⟨k, 0, none⟩)) rfl rfl (by kernel_rfl) (by kernel_rfl) (by kernel_rfl) (fun _ _ _ h => h) (Or.inl ⟨by rfl, ?_⟩) (by assumption) ?_
        · intro X hSw
          go_simp
        simp only [Act.put, List.setIfInBounds_toArray, List.set_cons_zero, List.set_cons_succ]
        refine take7 (i := 6) (d := 38) (v := .pointer (some ⟨k, 0, none⟩)) rfl rfl (by kernel_rfl) (by kernel_rfl) (by kernel_rfl) (fun _ _ _ h => h) (Or.inl ⟨by rfl, ?_⟩) (by assumption) ?_
        · intro X hSw
          go_simp
        simp only [Act.put, List.setIfInBounds_toArray, List.set_cons_zero, List.set_cons_succ]
        refine take7 (i := 7) (d := 39) (v := .pointer (some ⟨k, 0, none⟩)) rfl rfl (by kernel_rfl) (by kernel_rfl) (by kernel_rfl) (fun _ _ _ h => h) (Or.inl ⟨by rfl, ?_⟩) (by assumption) ?_
        · intro X hSw
          go_simp
        simp only [Act.put, List.setIfInBounds_toArray, List.set_cons_zero, List.set_cons_succ]
        refine take7 (i := 8) (d := 40) (v := .map (some bm)) rfl rfl (by kernel_rfl) (by kernel_rfl) (by kernel_rfl) (fun _ _ _ h => h) (Or.inl ⟨by rfl, ?_⟩) (by assumption) ?_
        · intro X hSw
          go_simp
        simp only [Act.put, List.setIfInBounds_toArray, List.set_cons_zero, List.set_cons_succ]
        refine take7 (i := 10) (d := 42) (v := .pointer (some ⟨k, 0, none⟩)) rfl rfl (by kernel_rfl) (by kernel_rfl) (by kernel_rfl) (fun _ _ _ h => h) (Or.inl ⟨by rfl, ?_⟩) (by assumption) ?_
        · intro X hSw
          go_simp
        simp only [Act.put, List.setIfInBounds_toArray, List.set_cons_zero, List.set_cons_succ]
        refine take7 (i := 11) (d := 43) (v := .pointer (some ⟨k, 0, none⟩)) rfl rfl (by kernel_rfl) (by kernel_rfl) (by kernel_rfl) (fun _ _ _ h => h) (Or.inl ⟨by rfl, ?_⟩) (by assumption) ?_
        · intro X hSw
          go_simp
        simp only [Act.put, List.setIfInBounds_toArray, List.set_cons_zero, List.set_cons_succ]
        refine take7 (i := 12) (d := 44) (v := .pointer (some ⟨k, 1, none⟩)) rfl rfl (by kernel_rfl) (by kernel_rfl) (by kernel_rfl) (fun _ _ _ h => h) (Or.inl ⟨by rfl, ?_⟩) (by assumption) ?_
        · intro X hSw
          go_simp
        simp only [Act.put, List.setIfInBounds_toArray, List.set_cons_zero, List.set_cons_succ]
        refine take7 (i := 13) (d := 45) (v := .slice p m cap) rfl rfl (by kernel_rfl) (by kernel_rfl) (by kernel_rfl) (fun _ _ _ h => h) (Or.inl ⟨by rfl, ?_⟩) (by assumption) ?_
        · intro X hSw
          go_simp
        simp only [Act.put, List.setIfInBounds_toArray, List.set_cons_zero, List.set_cons_succ]

        refine wpAnyH_ready (rs := [9]) (by kernel_rfl) (by simp) ?_
        refine AllReadyH.cons rfl (fun K hK => ?_) AllReadyH.nil
        refine stepCall 41 rfl rfl 45 #[.map (some bm)] (by kernel_rfl) (HC9.out V7 HV7.out) ?_
        rintro e Y1 ⟨rfl, hms, hbY1, hsY1⟩
        refine ⟨_, rfl, ?_⟩
        have HY1 : Hid (Below w2.heap.size w2 Y1 ∧ Below V7.heap.size V7 Y1 ∧ Ms Y1 V7.heap.size n (cs k).mem ∧ Y1.heap.size = V7.heap.size + 1) := ⟨HV7.out.trans (hbY1.mono HV7.out.size), hbY1, hms, hsY1⟩
        refine hK.out _ _ (HS7.out Y1 HY1.out.1) (fun hHeld => ?_)
        clear hK K hms hbY1 hsY1
        try simp only [Act.put, List.setIfInBounds_toArray, List.set_cons_zero, List.set_cons_succ]
        refine wpAnyH_ready (rs := [14]) (by kernel_rfl) (by simp) ?_
        refine AllReadyH.cons rfl (fun K hK => ?_) AllReadyH.nil
        refine stepCall 46 rfl rfl 46 #[.slice p m cap] (by kernel_rfl) (HC14.out Y1 HY1.out.1) ?_
        rintro e Y2 ⟨p', cap', rfl, hrw, hbY2, hgY2⟩
        refine ⟨_, rfl, ?_⟩
        have HY2 : Hid (Below w2.heap.size w2 Y2 ∧ Below Y1.heap.size Y1 Y2 ∧ RowC Y2 2 (.slice p' m cap') m (poCells (cs k).posts) ∧ ∀ g, cBlk (.slice p' m cap') = some g → Y1.heap.size ≤ g) := ⟨HY1.out.1.trans (hbY2.mono HY1.out.1.size), hbY2, hrw, hgY2⟩
        refine hK.out _ _ (HS7.out Y2 HY2.out.1) (fun hHeld => ?_)
        clear hK K hrw hbY2 hgY2
        try simp only [Act.put, List.setIfInBounds_toArray, List.set_cons_zero, List.set_cons_succ]
        refine take7 (i := 15) (d := 47) (v := .agg #[.map (some V7.heap.size), .slice p' m cap']) rfl rfl (by kernel_rfl) (by kernel_rfl) (by kernel_rfl) (fun _ _ _ h => h) (Or.inl ⟨by rfl, ?_⟩) (by assumption) ?_
        · intro X hSw
          go_simp
        simp only [Act.put, List.setIfInBounds_toArray, List.set_cons_zero, List.set_cons_succ]

        refine wpAnyH_ready (rs := [16]) (by kernel_rfl) (by simp) ?_
        refine AllReadyH.cons rfl (fun K hK => ?_) AllReadyH.nil
        go_simp
        obtain ⟨Y3, hY3⟩ : ∃ Y3, Y3 = Y2.alloc (.cells #[.map (some V7.heap.size), .slice p' m cap'] 76) := ⟨_, rfl⟩
        obtain ⟨bb, hbb⟩ : ∃ bb, bb = Y2.heap.size := ⟨_, rfl⟩
        rw [← hY3, ← hbb]
        have hb3 : Below Y2.heap.size Y2 Y3 := by rw [hY3]; exact below_alloc _ _
        have HY3 : Hid (Below w2.heap.size w2 Y3) := HY2.out.1.trans (hb3.mono HY2.out.1.size)
        have HChv : Hid (ChV Y3 bb (cs k) n V7.heap.size (.slice p' m cap')) := by
          have hb13 : Below Y1.heap.size Y1 Y3 := HY2.out.2.1.trans (hb3.mono HY2.out.2.1.size)
          refine ⟨by rw [hY3, hbb]; exact World.cell?_alloc_mark Y2 _ _ _ 0, by rw [hY3, hbb]; exact World.cell?_alloc_mark Y2 _ _ _ 1, fun j => by rw [hY3, hbb, World.frozen?_alloc_mark]; simp, HY1.out.2.2.1.carry (hb13.block _ HY1.out.2.2.1.lt), ?_, by have := HMm.out; omega⟩
          have h9 := RowC.carry HY2.out.2.2.1 (fun g hg => hb3.block g (RowC.lt HY2.out.2.2.1 (by decide) hg))
          rw [HMm.out.1] at h9 ⊢
          exact h9
        have hst : ∃ w3, (Instr.mapUpdate 60 (.map (some bc2)) (.agg #[.string xa, .string xb]) (.pointer (some ⟨bb, 0, none⟩))).run Try.prog Y3 = .ok () w3 ∧ Y3.grownBy w3 (some bc2) ∧ Cpg w n bc s B2 bc2 bo2 r D w3 ∧ w3.rangeLeft bc r = cnt1 := by
          have h12 : Below w1.heap.size w1 V7 := HB2.out.trans (HV7.out.mono HB2.out.size)
          have hr7 := HR1.out.1.kept (grown_below h12 none) (by simp) (by simp)
          have hs7 := HY1.out.2.2.2
          have hsz := HY2.out.2.1.size
          refine Cpg.step hr7 (HM1.out.below h12) (by have := HRow.out.2.1; have := HR1.out.2.1; omega) HRow.out.2.2.1 HNn.out HRow.out.2.2.2.1 (HB1.out.trans (h12.mono HB1.out.size)) HRow.out.2.2.2.2.2 HBc.out HD.out HCh.out HX.out.1 HX.out.2.1 (by rw [HCh.out, HX.out.2.2]; rfl) (HY1.out.2.1.trans ((HY2.out.2.1.trans (hb3.mono HY2.out.2.1.size)).mono HY1.out.2.1.size)) (Nat.le_refl _) (by omega) (fun g hg => ?_) (by omega) HChv.out
          have h1 := HY2.out.2.2.2 g hg
          have h2 := RowC.lt HY2.out.2.2.1 (by decide) hg
          exact ⟨by omega, by omega, by omega⟩
        clear hY3 hbb hb3
        obtain ⟨w3, hrun, hg3, hcp, hrl⟩ := hst
        have HCp : Hid (Cpg w n bc s B2 bc2 bo2 r D w3 ∧ w3.rangeLeft bc r = cnt1) := ⟨hcp, hrl⟩
        have HS9 : Hid ((fun X : World => X.cell? ⟨B2, 0, none⟩ = some (.map (some bc2)) ∧ (X.cell? ⟨nb, 0, none⟩ = some (.string xa) ∧ X.cell? ⟨nb, 1, none⟩ = some (.string xb)) ∧ X.cell? ⟨k, 0, none⟩ = some (.map (some bm)) ∧ X.cell? ⟨k, 1, none⟩ = some (.slice p m cap)) w3) := by
          have hh := HS7.out Y3 HY3.out
          obtain ⟨q1, ⟨q2, q3⟩, q4, q5⟩ := hh
          have no : ∀ (b o : Nat) (v : Value), Y3.cell? ⟨b, o, none⟩ = some v → w3.cell? ⟨b, o, none⟩ = some v := fun b o v hv => by
            have hl := World.block_lt_of_cell? _ _ hv
            refine (World.cell?_of_block (a := ⟨b, o, none⟩) (hg3.block b hl (fun e => ?_))).trans hv
            injection e with e
            have h12 : Below w1.heap.size w1 Y3 := HB2.out.trans (HY3.out.mono HB2.out.size)
            have hm9 := (HM1.out.below h12).chs.noCell o
            rw [e] at hv
            rw [hm9] at hv
            cases hv
          exact ⟨no _ _ _ q1, ⟨no _ _ _ q2, no _ _ _ q3⟩, no _ _ _ q4, no _ _ _ q5⟩
        clear hcp hrl hg3
        refine hK.out _ _ (HS7.out Y3 HY3.out) (fun hHeld => ?_)
        clear hK K
        try simp only [Act.put, List.setIfInBounds_toArray, List.set_cons_zero, List.set_cons_succ]
        refine wpAnyH_ready (rs := [17]) (by kernel_rfl) (by simp) ?_
        refine AllReadyH.cons rfl (fun K hK => ?_) AllReadyH.nil
        refine stepUpdate rfl rfl 60 (.tmp 35) (.tmp 36) (.tmp 48) rfl (by simp [Act.eval]) (by simp [Act.eval]) (by simp [Act.eval]) hrun ?_
        refine hK.out _ _ HS9.out (fun hHeld => ?_)
        clear hK K hrun hHeld
        refine wpAnyH_done (by kernel_rfl) ?_ _
        go_wp2
        go_roundw
        case rel => exact HCp.out.1
        case measure => rw [HCp.out.2, HRg.out.left_eq]; exact HR1.out.2.1
end
end Go.Proofs.Ytkioeahlajjmiaa
