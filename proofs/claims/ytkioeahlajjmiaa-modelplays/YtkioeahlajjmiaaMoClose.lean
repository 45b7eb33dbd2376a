/-
  A workspace is closed.
-/
import Derived.Test.YtkioeahlajjmiaaMoMove
namespace Go.Proofs.Ytkioeahlajjmiaa
open Go.RowKit

section
variable {w W : World} {B : Nat} {s : Mo.St} {who : Nat → Nat} {n bc bo : Nat} {f : ByteArray → ByteArray → Option Nat} {cs : Nat → Mo.Ch}

/-- What is so while the channels are gone through. -/
def Closing (w : World) (B : Nat) (s : Mo.St) (who : Nat → Nat) (n bc bo : Nat) (f : ByteArray → ByteArray → Option Nat) (cs : Nat → Mo.Ch) (sp : ByteArray) (r : Nat) (X : World) : Prop :=
  ∃ (D : DataW Unit) (left : Lit → Bool) (cnt : Nat) (f' : ByteArray → ByteArray → Option Nat), X.ranges Try.prog 78 ptrElem bc r n D left cnt ∧ (∀ x y, Ok x → Ok y → ∀ z, D.atKey (nl x y) z = match f' x y with | none => z | some k => .lit (.int .i64 (k : Int))) ∧ MdV X B ⟨fun p q => (f' p q).map cs, s.off⟩ who n bc bo f' cs ∧ (∀ x y k, f' x y = some k → f x y = some k) ∧ (∀ x y k, f x y = some k → x ≠ sp → f' x y = some k) ∧ (∀ x y k, f' x y = some k → x = sp → left (nl x y) = true) ∧ KeptW who w X

set_option maxHeartbeats 1600000 in
set_option maxRecDepth 20000 in
theorem close_c (h : MdV w B s who n bc bo f cs) (sp : ByteArray) :
    Calls Try.prog 31 #[.pointer (some ⟨B, 0, none⟩), .string sp] w fun e w' => e = .returned (.tuple #[]) ∧ AftM who w w' B ⟨fun p q => if p = sp then none else s.ch p q, s.off⟩ n who := by
  have c0 := h.c0
  have hBl : B < w.heap.size := h.here B (by rw [h.wB]; decide)
  have HM : Hid (MdV w B s who n bc bo f cs) := h
  obtain ⟨D0, hown, hat0⟩ := h.chs
  have HAt : Hid (∀ x y, Ok x → Ok y → ∀ z, D0.atKey (nl x y) z = match f x y with | none => z | some k => .lit (.int .i64 (k : Int))) := hat0
  clear hat0 h hBl
  go_enter Try.func31, Try.ntmps31
  go_wp2_with (first
    | (at_range; refine wpList_range_own _ rfl _ 60 rfl 78 67 nmKeyed Try.underlying60 _ bc n _ rfl hown ?_; intro w6 hrg0 hg0 hs0)
    | go_in)
  go_frame
  obtain ⟨r, hr⟩ : ∃ r, r = w.heap.size := ⟨_, rfl⟩
  rw [← hr] at hrg0 ⊢
  have HR : Hid (who r = 0 ∧ r ≠ bc ∧ w.heap.size ≤ r) := by
    refine ⟨?_, fun e => ?_, by rw [hr]; exact Nat.le_refl _⟩
    · by_cases e : who r = 0
      · exact e
      · have := HM.out.here r e
        omega
    · have := hown.lt
      omega
  have HR0 : Hid (Closing w B s who n bc bo f cs sp r w6) := by
    refine ⟨_, _, _, f, hrg0, HAt.out, (HM.out.norm).carry hg0.size (fun i hi => hg0.block i (HM.out.here i hi) (by simp)), fun _ _ _ e => e, fun _ _ _ e _ => e, fun x y k hk _ => ?_, (KeptW.refl who w).grown hg0 (fun k hk => by cases hk)⟩
    have hd := HM.out.dom x y k hk
    have := has_of (HAt.out x y hd.1 hd.2)
    rw [hk] at this
    rw [this]; rfl
  have HCh : Hid (∀ x y, s.ch x y = (f x y).map cs) := HM.out.ch
  clear hrg0 hg0 hs0 hown hr c0 HM HAt
  go_loopw [4] (fun _ wr => Hid (Closing w B s who n bc bo f cs sp r wr)) (fun _ wr => wr.rangeLeft bc r)
  case atStart => exact HR0
  case round =>
    clear HR0
    obtain ⟨D, left, cnt, f', hrg, hatF, hMd, hA, hB, hC, hkw⟩ := hrel.out
    have HRg : Hid (wr.ranges Try.prog 78 ptrElem bc r n D left cnt) := hrg
    have HMd : Hid (MdV wr B ⟨fun p q => (f' p q).map cs, s.off⟩ who n bc bo f' cs) := hMd
    have HF' : Hid ((∀ x y k, f' x y = some k → f x y = some k) ∧ (∀ x y k, f x y = some k → x ≠ sp → f' x y = some k) ∧ (∀ x y k, f' x y = some k → x = sp → left (nl x y) = true)) := ⟨hA, hB, hC⟩
    have HAt : Hid (∀ x y, Ok x → Ok y → ∀ z, D.atKey (nl x y) z = match f' x y with | none => z | some k => .lit (.int .i64 (k : Int))) := hatF
    have HKw : Hid (KeptW who w wr) := hkw
    clear hrel hMd hA hB hC hkw hatF
    go_wp2_with (first
      | (at_next; refine wpList_next_ranges _ rfl _ rfl 78 nmKeyed ptrElem mkN mkP (fun key kl hkey => by obtain ⟨x, hx, _⟩ := nk_inv hkey; exact ⟨x, hx⟩) (fun v y hv => by obtain ⟨c, hc, _⟩ := ptrElem_inv hv; exact ⟨c, hc⟩) bc r n _ _ _ rfl hrg ?_ ?_)
      | go_in)
    · intro _ hl0
      have HF : Hid (AftM who w wr B ⟨fun p q => if p = sp then none else s.ch p q, s.off⟩ n who) := by
        refine ⟨⟨bc, bo, f', cs, HMd.out.as rfl (fun x y => ?_)⟩, fun _ _ e => e, HKw.out⟩
        show (if x = sp then none else s.ch x y) = (f' x y).map cs
        rw [HCh.out]
        obtain ⟨hA, hB, hC⟩ := HF'.out
        by_cases e : x = sp
        · rw [if_pos e]
          cases hf : f' x y with
          | none => rfl
          | some k => have := hC x y k hf e; rw [hl0] at this; cases this
        · rw [if_neg e]
          cases hf : f x y with
          | some k => rw [hB x y k hf e]
          | none =>
            cases hf' : f' x y with
            | none => rfl
            | some k => have := hA x y k hf'; rw [hf] at this; cases this
      clear hrg hl0
      go_wp2
      exact bodyPost_end (v := .tuple #[]) (by simp [results, Try.results31]) rfl ⟨rfl, HF.out⟩
    · intro xa xb c kl' y1 y2 w1 cnt1 hkey hlk hRv hat hrg1 hlt hg1 hs1 hen
      have hatF := HAt.out
      have hxx : Ok xa ∧ Ok xb := by
        obtain ⟨x', hx', h1, h2⟩ := nk_inv hkey
        obtain ⟨e1, e2⟩ := nk_inj (x := xa) (y := xb) (x' := x'.1) (y' := x'.2) hx'
        rw [e1, e2]
        exact ⟨h1, h2⟩
      obtain rfl : kl' = nl xa xb := by
        have := keyOf_nk hxx.1 hxx.2
        unfold nk at this
        unfold mkN at hkey
        rw [this] at hkey
        injection hkey with hkey
        exact hkey.symm
      obtain ⟨k, hk, hck⟩ : ∃ k, f' xa xb = some k ∧ c = some k := by
        obtain ⟨c', hc', hy⟩ := ptrElem_inv hRv
        have h1 := hatF xa xb hxx.1 hxx.2
        cases hf : f' xa xb with
        | none =>
          exfalso
          rw [hf] at h1
          have e1 := (h1 (.lit (.int .i64 0))).symm.trans (hat _)
          have e2 := (h1 (.lit (.int .i64 1))).symm.trans (hat _)
          have e3 := e1.trans e2.symm
          injection e3 with e3
          injection e3 with _ e3
          cases e3
        | some k =>
          rw [hf] at h1
          have e1 := (h1 (.lit (.int .i64 0))).symm.trans (hat (.lit (.int .i64 0)))
          injection hy with hy _
          rw [hy] at e1
          injection e1 with e1
          injection e1 with _ e1
          refine ⟨k, rfl, ?_⟩
          cases c with
          | none =>
            cases c' with
            | none => exfalso; have e1 : (k : Int) = -1 := e1; omega
            | some d => cases hc'
          | some d =>
            cases c' with
            | none => cases hc'
            | some d' =>
              have e1 : (k : Int) = (d' : Int) := e1
              unfold mkP at hc'
              injection hc' with hc'
              injection hc' with hc'
              injection hc' with hc'
              rw [hc']
              congr 1
              omega
      subst hck
      clear hatF
      have hM1 : MdV w1 B ⟨fun p q => (f' p q).map cs, s.off⟩ who n bc bo f' cs := HMd.out.carry (by rw [hs1]; exact Nat.le_refl _) (fun i hi => hg1.block i (HMd.out.here i hi) (fun e => by injection e with e; exact hi (by rw [e]; exact HR.out.1)))
      have HKw1 : Hid (KeptW who w w1) := HKw.out.grown hg1 (fun j hj hjl => by
        injection hj with hj
        have := HR.out.2.2
        omega)
      have HX : Hid (Ok xa ∧ Ok xb ∧ f' xa xb = some k) := ⟨hxx.1, hxx.2, hk⟩
      have HR1 : Hid (w1.ranges Try.prog 78 ptrElem bc r n D (fun z => left z && !z.sameKey (nl xa xb)) cnt1 ∧ MdV w1 B ⟨fun p q => (f' p q).map cs, s.off⟩ who n bc bo f' cs ∧ cnt1 < cnt) := ⟨hrg1, hM1, hlt⟩
      have HD : Hid (∀ X, Below w1.heap.size w1 X → xa = sp → ∃ w3, (Builtin.delete_ #[60, 78] 0 #[.map (some bc), .agg #[.string xa, .string xb]]).run Try.prog X = .ok (.tuple #[]) w3 ∧ X.grownBy w3 (some bc) ∧ Hid (Closing w B s who n bc bo f cs sp r w3 ∧ w3.rangeLeft bc r < wr.rangeLeft bc r)) := fun X hX e => by
        obtain ⟨ox, oy, hfk⟩ := HX.out
        obtain ⟨hrg1, hM1, hlt⟩ := HR1.out
        obtain ⟨w3, cnt3, q1, q2, q3, q4⟩ := (hrg1.kept (grown_below hX none) (by simp) (by simp)).drop nmKeyed Try.underlying60 (keyOf_nk ox oy) 0
        obtain ⟨w3', p1, p2, p3⟩ := (hM1.below hX).unname ox oy 0
        have q1' : (Builtin.delete_ #[60, 78] 0 #[.map (some bc), .agg #[.string xa, .string xb]]).run Try.prog X = .ok (.tuple #[]) w3 := q1
        rw [q1'] at p1
        injection p1 with _ p1
        subst p1
        obtain ⟨hA, hB, hC⟩ := HF'.out
        have old : ∀ x y i, setNm f' xa xb none x y = some i → ¬ (x = xa ∧ y = xb) ∧ f' x y = some i := fun x y i e => by
          unfold setNm at e
          split at e
          · cases e
          · rename_i q
            exact ⟨q, e⟩
        refine ⟨w3, q1', p2, ⟨_, _, _, setNm f' xa xb none, q2, fun x y hx hy z => ?_, p3, fun x y i hi => hA x y i (old x y i hi).2, fun x y i hi hne => ?_, fun x y i hi hxs => ?_, (HKw1.out.grown (grown_below hX none) (fun j hj => by cases hj)).grown p2 (fun j hj _ => by injection hj with hj; rw [← hj, HMd.out.wc]; decide)⟩, ?_⟩
        · unfold setNm
          by_cases e : x = xa ∧ y = xb
          · rw [if_pos e, e.1, e.2]
            exact Maps.atKey_del_same _
          · rw [if_neg e, Maps.atKey_del_other (fun e1 => e (nl_inj hx hy ox oy e1))]
            exact HAt.out x y hx hy z
        · unfold setNm
          rw [if_neg (fun q => hne (q.1.trans e))]
          exact hB x y i hi hne
        · obtain ⟨h1, h2⟩ := old x y i hi
          have hd := HMd.out.dom x y i h2
          simp only [hC x y i h2 hxs, nl_same hd.1 hd.2 ox oy h1]
          rfl
        · rw [q2.left_eq, HRg.out.left_eq]
          omega
      have HN : Hid (xa ≠ sp → Closing w B s who n bc bo f cs sp r (w1.alloc (.cells #[.string xa, .string xb] 78)) ∧ (w1.alloc (.cells #[.string xa, .string xb] 78)).rangeLeft bc r < wr.rangeLeft bc r) := fun hne => by
        obtain ⟨ox, oy, hfk⟩ := HX.out
        obtain ⟨hrg1, hM1, hlt⟩ := HR1.out
        obtain ⟨hA, hB, hC⟩ := HF'.out
        have hrA := hrg1.alloc (.cells #[.string xa, .string xb] 78)
        refine ⟨⟨_, _, _, f', hrA, HAt.out, hM1.below (below_alloc w1 _), hA, hB, fun x y i hi hxs => ?_, HKw1.out.grown (grown_below (below_alloc w1 _) none) (fun j hj => by cases hj)⟩, ?_⟩
        · have hd := HMd.out.dom x y i hi
          simp only [hC x y i hi hxs, nl_same hd.1 hd.2 ox oy (fun q => hne (q.1.symm.trans hxs))]
          rfl
        · rw [hrA.left_eq, HRg.out.left_eq]
          exact hlt
      have hBl : B < w1.heap.size := HR1.out.2.1.here B (by rw [HR1.out.2.1.wB]; decide)
      have hBc : B ≠ bc := fun e => by have := HR1.out.2.1.wc; rw [← e, HR1.out.2.1.wB] at this; cases this
      have hcl : bc < w1.heap.size := HR1.out.2.1.here bc (by rw [HR1.out.2.1.wc]; decide)
      have HS : Hid (∀ X, Below (w1.heap.size + 1) (w1.alloc (.cells #[.string xa, .string xb] 78)) X → X.cell? ⟨B, 0, none⟩ = some (.map (some bc)) ∧ X.cell? ⟨w1.heap.size, 0, none⟩ = some (.string xa) ∧ X.cell? ⟨w1.heap.size, 1, none⟩ = some (.string xb)) := fun X hX => by
        exact ⟨(hX.cell (p := ⟨B, 0, none⟩) (show B < w1.heap.size + 1 by omega)).trans (((below_alloc w1 _).cell (p := ⟨B, 0, none⟩) hBl).trans HR1.out.2.1.c0), (hX.cell (p := ⟨w1.heap.size, 0, none⟩) (Nat.lt_succ_self _)).trans (World.cell?_alloc_mark w1 _ _ _ 0), (hX.cell (p := ⟨w1.heap.size, 1, none⟩) (Nat.lt_succ_self _)).trans (World.cell?_alloc_mark w1 _ _ _ 1)⟩
      have HS3 : Hid (∀ X Y : World, w1.heap.size < X.heap.size → X.cell? ⟨B, 0, none⟩ = some (.map (some bc)) ∧ X.cell? ⟨w1.heap.size, 0, none⟩ = some (.string xa) ∧ X.cell? ⟨w1.heap.size, 1, none⟩ = some (.string xb) → X.grownBy Y (some bc) → Y.cell? ⟨B, 0, none⟩ = some (.map (some bc)) ∧ Y.cell? ⟨w1.heap.size, 0, none⟩ = some (.string xa) ∧ Y.cell? ⟨w1.heap.size, 1, none⟩ = some (.string xb)) := fun X Y hX a hY => by
        have ex : ∀ j, Y.cell? ⟨w1.heap.size, j, none⟩ = X.cell? ⟨w1.heap.size, j, none⟩ := fun j => World.cell?_of_block (a := ⟨w1.heap.size, j, none⟩) (hY.block w1.heap.size (by omega) (fun e => by injection e with e; omega))
        exact ⟨(World.cell?_of_block (a := ⟨B, 0, none⟩) (hY.block B (by omega) (fun e => hBc (by injection e)))).trans a.1, (ex 0).trans a.2.1, (ex 1).trans a.2.2⟩
      have HU : Hid (Below (w1.heap.size + 1) (w1.alloc (.cells #[.string xa, .string xb] 78)) (w1.alloc (.cells #[.string xa, .string xb] 78)).drew ∧ Below w1.heap.size w1 (w1.alloc (.cells #[.string xa, .string xb] 78)).drew ∧ w1.heap.size < (w1.alloc (.cells #[.string xa, .string xb] 78)).drew.heap.size) := by
        refine ⟨(Below.refl _ _).drew, (below_alloc w1 _).drew, ?_⟩
        show w1.heap.size < (w1.alloc (.cells #[.string xa, .string xb] 78)).heap.size
        simp
      clear hBl hBc hcl
      have hen' : (Instr.entry (.pointer (some ⟨r, 0, none⟩))).run Try.prog w1 = .ok (.tuple #[.agg #[.string xa, .string xb], .pointer (some ⟨k, 0, none⟩)]) w1 := hen
      try unfold mkN
      try unfold mkP
      clear hen hkey hlk hRv hat hrg1 hlt hg1 hs1 hxx hM1 hrg hk
      go_wp2_with go_in
      · rename_i heq
        have heq : xa = sp := by rw [beqB] at heq; exact of_decide_eq_true heq
        refine wp_region_held_drew (S := fun X => X.cell? ⟨B, 0, none⟩ = some (.map (some bc)) ∧ X.cell? ⟨w1.heap.size, 0, none⟩ = some (.string xa) ∧ X.cell? ⟨w1.heap.size, 1, none⟩ = some (.string xb)) (by kernel_rfl) (HS.out _ HU.out.1) (fun hHeld => ?_)
        refine take7 (i := 0) (d := 18) (v := .pointer (some ⟨B, 0, none⟩)) rfl rfl (by kernel_rfl) (by kernel_rfl) (by kernel_rfl) (fun _ _ _ h => h) (Or.inl ⟨by rfl, ?_⟩) (by assumption) ?_
        · intro X hSw
          go_simp
        simp only [Act.put, List.setIfInBounds_toArray, List.set_cons_zero, List.set_cons_succ]
        refine take7 (i := 1) (d := 19) (v := .pointer (some ⟨B, 0, none⟩)) rfl rfl (by kernel_rfl) (by kernel_rfl) (by kernel_rfl) (fun _ _ _ h => h) (Or.inl ⟨by rfl, ?_⟩) (by assumption) ?_
        · intro X hSw
          go_simp
        simp only [Act.put, List.setIfInBounds_toArray, List.set_cons_zero, List.set_cons_succ]
        refine take7 (i := 2) (d := 20) (v := .pointer (some ⟨B, 0, none⟩)) rfl rfl (by kernel_rfl) (by kernel_rfl) (by kernel_rfl) (fun _ _ _ h => h) (Or.inl ⟨by rfl, ?_⟩) (by assumption) ?_
        · intro X hSw
          go_simp
        simp only [Act.put, List.setIfInBounds_toArray, List.set_cons_zero, List.set_cons_succ]
        refine take7 (i := 3) (d := 21) (v := .map (some bc)) rfl rfl (by kernel_rfl) (by kernel_rfl) (by kernel_rfl) (fun _ _ _ h => h) (Or.inl ⟨by rfl, ?_⟩) (by assumption) ?_
        · intro X hSw
          go_simp
        simp only [Act.put, List.setIfInBounds_toArray, List.set_cons_zero, List.set_cons_succ]
        refine take7 (i := 4) (d := 22) (v := .agg #[.string xa, .string xb]) rfl rfl (by kernel_rfl) (by kernel_rfl) (by kernel_rfl) (fun _ _ _ h => h) (Or.inl ⟨by rfl, ?_⟩) (by assumption) ?_
        · intro X hSw
          go_simp
        simp only [Act.put, List.setIfInBounds_toArray, List.set_cons_zero, List.set_cons_succ]
        refine wpAnyH_ready (rs := [5]) (by kernel_rfl) (by simp) ?_
        refine AllReadyH.cons rfl (fun K hK => ?_) AllReadyH.nil
        obtain ⟨w3, r3, g3, HE⟩ := HD.out _ HU.out.2.1 heq
        refine stepDelete rfl rfl 60 78 (.tmp 21) (.tmp 22) rfl (by simp [Act.eval]) (by simp [Act.eval]) r3 ?_
        refine hK.out _ _ (HS3.out _ _ HU.out.2.2 (HS.out _ HU.out.1) g3) (fun hHeld => ?_)
        clear hK K hHeld r3 g3
        refine wpAnyH_done (by kernel_rfl) ?_ _
        clear hHeld
        go_wp2
        go_roundw
        case rel => exact HE.out.1
        case measure => exact HE.out.2
      · rename_i hne
        have hne : xa ≠ sp := by rw [beqB] at hne; exact of_decide_eq_false hne
        go_roundw
        case rel => exact (HN.out hne).1
        case measure => exact (HN.out hne).2
end
end Go.Proofs.Ytkioeahlajjmiaa
