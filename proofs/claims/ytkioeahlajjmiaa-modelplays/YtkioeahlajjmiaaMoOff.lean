/-
  A user is turned off.
-/
import Derived.Test.YtkioeahlajjmiaaMoPost
namespace Go.Proofs.Ytkioeahlajjmiaa
open Go.RowKit

def mkN (x : ByteArray × ByteArray) : Value := .agg #[.string x.1, .string x.2]

section
variable {w W : World} {B : Nat} {s : Mo.St} {who : Nat → Nat} {n bc bo : Nat} {f : ByteArray → ByteArray → Option Nat} {cs : Nat → Mo.Ch}

theorem MdV.norm (h : MdV w B s who n bc bo f cs) : MdV w B ⟨fun a b => (f a b).map cs, s.off⟩ who n bc bo f cs := ⟨h.c0, h.c1, h.chs, h.off, fun _ _ => rfl, h.one, h.inj, h.dom, h.wB, h.wc, h.wo, h.here⟩
theorem MdV.as {s' : Mo.St} (h : MdV w B s who n bc bo f cs) (e1 : s'.off = s.off) (e2 : ∀ x y, s'.ch x y = s.ch x y) : MdV w B s' who n bc bo f cs := ⟨h.c0, h.c1, h.chs, by rw [e1]; exact h.off, fun x y => (e2 x y).trans (h.ch x y), h.one, h.inj, h.dom, h.wB, h.wc, h.wo, h.here⟩

/-- One is off. -/
theorem MdV.offed (h : MdV W B s who n bc bo f cs) (hn : n < maxLen) {a : ByteArray} (ha : Ok a) :
    ∃ w3, (Instr.mapUpdate 61 (.map (some bo)) (.string a) (.agg #[])).run Try.prog W = .ok () w3 ∧ W.grownBy w3 (some bo) ∧ MdV w3 B ⟨s.ch, setOn s.off a true⟩ who (n + 1) bc bo f cs := by
  obtain ⟨w3, hr, ht, hM⟩ := h.off.put hn ha
  have hg := ht.grown
  have hs3 := turned_size ht
  have hbl : ∀ i, who i ≠ 0 → who i ≠ 3 → w3.heap[i]? = W.heap[i]? := fun i h0 h3 => hg.block i (h.here i h0) (fun e => by injection e with e; exact h3 (by rw [e]; exact h.wo))
  have hB := hbl B (by rw [h.wB]; decide) (by rw [h.wB]; decide)
  exact ⟨w3, hr, hg, ⟨(World.cell?_of_block (a := ⟨B, 0, none⟩) hB).trans h.c0, (World.cell?_of_block (a := ⟨B, 1, none⟩) hB).trans h.c1, (h.chs.mono (Nat.le_succ _)).carry (hbl bc (by rw [h.wc]; decide) (by rw [h.wc]; decide)), hM, h.ch, fun x y k hk => by
    obtain ⟨bm, v, q1, q2, q3, q4⟩ := h.one x y k hk
    exact ⟨bm, v, (q1.mono (Nat.le_succ _)).carry (hbl k (by rw [q2]; decide) (by rw [q2]; decide)) (hbl bm (by rw [q3]; omega) (by rw [q3]; omega)) (fun g hg => hbl g (by rw [q4 g hg]; omega) (by rw [q4 g hg]; omega)), q2, q3, q4⟩, h.inj, h.dom, h.wB, h.wc, h.wo, fun k hk => by rw [hs3]; exact h.here k hk⟩⟩

/-- One member less. -/
theorem MdV.left (h : MdV W B s who n bc bo f cs) {x y : ByteArray} {k bm : Nat} {v : Value} (hf : f x y = some k) (hc : ChV W k (cs k) n bm v) (w4 : who k = 4) (wm : who bm = 10 + 2 * k) (wr : ∀ g, cBlk v = some g → who g = 11 + 2 * k) {a : ByteArray} (ha : Ok a) (ty : TypeId) :
    ∃ w3, (Builtin.delete_ #[61, 9] ty #[.map (some bm), .string a]).run Try.prog W = .ok (.tuple #[]) w3 ∧ W.grownBy w3 (some bm) ∧ MdV w3 B ⟨fun p q => (f p q).map (fun i => if i = k then Mo.lessM (cs k) a else cs i), s.off⟩ who n bc bo f (fun i => if i = k then Mo.lessM (cs k) a else cs i) := by
  obtain ⟨w3, hr, ht, hM⟩ := hc.mem.del ha ty
  have hg := ht.grown
  have hs3 := turned_size ht
  have hbl : ∀ i, i ≠ bm → i < W.heap.size → w3.heap[i]? = W.heap[i]? := fun i hi hl => hg.block i hl (fun e => hi (by injection e))
  have hkl := h.here k (by rw [w4]; decide)
  have hkm : k ≠ bm := fun e => by rw [← e, w4] at wm; omega
  have ek := hbl k hkm hkl
  refine ⟨w3, hr, hg, (h.upd (c' := Mo.lessM (cs k) a) (Nat.le_refl _) hf (fun i hi h1 h2 h3 => hbl i (fun e => h2 (by rw [e]; exact wm)) (h.here i hi)) ⟨bm, v, ⟨(World.cell?_of_block (a := ⟨k, 0, none⟩) ek).trans hc.c0, (World.cell?_of_block (a := ⟨k, 1, none⟩) ek).trans hc.c1, fun j => (World.frozen?_of_block (a := ⟨k, j, none⟩) ek).trans (hc.fz j), hM, hc.row.carry (fun g hg' => hbl g (fun e => by have q := wr g hg'; rw [e, wm] at q; omega) (h.here g (by rw [wr g hg']; omega))), hc.few⟩, w4, wm, wr⟩ (fun _ _ => rfl) (fun i hi => by rw [hs3]; exact h.here i hi)).norm⟩

/-- delete(m, k), by its run. -/
theorem wpList_delete_run {P : Program} {w w1 : World} {ops : Array Oper} {rest : List Oper} {o : Oper} {a : Act} {Q : Exit → Act → World → Prop} (hgd : o.guard = none) (m x : Operand) (t k : TypeId)
    (ho : o.op = .call { callee := .builtin .delete, args := #[m, x], argTypes := #[t, k] }) {mv xv : Value} (hm : a.eval m = mv) (hx : a.eval x = xv) (hr : (Builtin.delete_ #[t, k] o.type #[mv, xv]).run P w = .ok (.tuple #[]) w1) (h : wpList P ops Q rest (a.put o.dst (.tuple #[])) w1) :
    wpList P ops Q (o :: rest) a w := by
  refine wpList_plain hgd fun K' hK' => ?_
  unfold Oper.wp
  simp [execOp, ho, resolve, invoke, builtin, hm, hx, hr, Result.andThen]
  exact hK' _ _ h

/-- What is so while the channels are gone through. -/
def Offing (w : World) (B : Nat) (s : Mo.St) (who : Nat → Nat) (n bc bo : Nat) (f : ByteArray → ByteArray → Option Nat) (cs : Nat → Mo.Ch) (a : ByteArray) (r : Nat) (D : DataW Unit) (X : World) : Prop :=
  ∃ (left : Lit → Bool) (cnt : Nat) (cs' : Nat → Mo.Ch), X.ranges Try.prog 78 ptrElem bc r n D left cnt ∧ MdV X B ⟨fun p q => (f p q).map cs', setOn s.off a true⟩ who n bc bo f cs' ∧ (∀ x y k, f x y = some k → cs' k = if left (nl x y) = true then cs k else Mo.lessM (cs k) a) ∧ KeptW who w X

theorem off_there (h : MdV w B s who n bc bo f cs) {a : ByteArray} (ha : Ok a) (hof : s.off a = true) :
    Calls Try.prog 32 #[.pointer (some ⟨B, 0, none⟩), .string a] w fun e w' => e = .returned (.int .i64 92) ∧ Below w.heap.size w w' := by
  have HO : Hid _ := isOff_c h ha
  rw [hof] at HO
  clear h ha hof
  go_enter Try.func32, Try.ntmps32
  go_wp2_with fail
  refine Calls.mono HO.out ?_
  rintro e w1 ⟨rfl, hb1⟩
  have HB : Hid _ := hb1
  clear hb1
  go_wp2
  go_ret
  exact ⟨rfl, HB.out⟩

set_option maxHeartbeats 1600000 in
set_option maxRecDepth 20000 in
theorem off_yes (h : MdV w B s who n bc bo f cs) (hn : n < 1099511627776) {a : ByteArray} (hsz : a.size ≤ 16) (hof : s.off a = false) :
    Calls Try.prog 32 #[.pointer (some ⟨B, 0, none⟩), .string a] w fun e w' => e = .returned (.int .i64 0) ∧ AftM who w w' B ⟨fun p q => (s.ch p q).map (Mo.lessM · a), fun x => if x = a then true else s.off x⟩ (n + 1) who := by
  have ha : Ok a := by unfold Ok maxLen; omega
  have HO : Hid _ := isOff_c h ha
  rw [hof] at HO
  have hBl : B < w.heap.size := h.here B (by rw [h.wB]; decide)
  have hBo : B ≠ bo := fun e => by have := h.wo; rw [← e, h.wB] at this; cases this
  have HS : Hid (∀ X, Below w.heap.size w X → X.cell? ⟨B, 1, none⟩ = some (.map (some bo))) := fun X hX => (hX.cell (p := ⟨B, 1, none⟩) hBl).trans h.c1
  have HS3 : Hid (∀ X Y, Below w.heap.size w X → X.grownBy Y (some bo) → Y.cell? ⟨B, 1, none⟩ = some (.map (some bo))) := fun X Y hX hY => by
    have := hX.size
    exact (World.cell?_of_block (a := ⟨B, 1, none⟩) (hY.block B (by omega) (fun e => hBo (by injection e)))).trans (HS.out X hX)
  have HJ : Hid (∀ X, Below w.heap.size w X → ∃ w3, (Instr.mapUpdate 61 (.map (some bo)) (.string a) (.agg #[])).run Try.prog X = .ok () w3 ∧ X.grownBy w3 (some bo) ∧ Hid (MdV w3 B ⟨s.ch, setOn s.off a true⟩ who (n + 1) bc bo f cs ∧ KeptW who w w3)) := fun X hX => by
    obtain ⟨w3, q1, q2, q3⟩ := (h.below hX).offed (by unfold maxLen; omega) ha
    exact ⟨w3, q1, q2, q3, (KeptW.ofBelow hX).grown q2 (fun k hk _ => by injection hk with hk; rw [← hk, h.wo]; decide)⟩
  have HCl : Hid (∀ X, Calls Try.prog 54 #[.string a] X fun e w' => e = .returned (.string a) ∧ Below X.heap.size X w') := fun X => Clone_any _ X (by omega)
  have HA : Hid (Ok a) := ha
  have HCh : Hid (∀ x y, s.ch x y = (f x y).map cs) := h.ch
  clear h hn hsz hof hBl hBo ha
  go_enter Try.func32, Try.ntmps32
  go_wp2_with fail
  refine Calls.mono HO.out ?_
  rintro e w1 ⟨rfl, hb1⟩
  have HB1 : Hid (Below w.heap.size w w1.drew) := hb1.drew
  clear hb1
  go_wp2
  refine wp_region_held_drew (S := fun X => X.cell? ⟨B, 1, none⟩ = some (.map (some bo))) (by kernel_rfl) (HS.out _ HB1.out) (fun hHeld => ?_)
  refine take7 (i := 0) (d := 10) (v := .pointer (some ⟨B, 0, none⟩)) rfl rfl (by kernel_rfl) (by kernel_rfl) (by kernel_rfl) (fun _ _ _ h => h) (Or.inl ⟨by rfl, ?_⟩) (by assumption) ?_
  · intro X hSw
    go_simp
  simp only [Act.put, List.setIfInBounds_toArray, List.set_cons_zero, List.set_cons_succ]
  refine take7 (i := 1) (d := 11) (v := .pointer (some ⟨B, 0, none⟩)) rfl rfl (by kernel_rfl) (by kernel_rfl) (by kernel_rfl) (fun _ _ _ h => h) (Or.inl ⟨by rfl, ?_⟩) (by assumption) ?_
  · intro X hSw
    go_simp
  simp only [Act.put, List.setIfInBounds_toArray, List.set_cons_zero, List.set_cons_succ]
  refine take7 (i := 2) (d := 12) (v := .pointer (some ⟨B, 1, none⟩)) rfl rfl (by kernel_rfl) (by kernel_rfl) (by kernel_rfl) (fun _ _ _ h => h) (Or.inl ⟨by rfl, ?_⟩) (by assumption) ?_
  · intro X hSw
    go_simp
  simp only [Act.put, List.setIfInBounds_toArray, List.set_cons_zero, List.set_cons_succ]
  refine take7 (i := 3) (d := 13) (v := .map (some bo)) rfl rfl (by kernel_rfl) (by kernel_rfl) (by kernel_rfl) (fun _ _ _ h => h) (Or.inl ⟨by rfl, ?_⟩) (by assumption) ?_
  · intro X hSw
    go_simp
  simp only [Act.put, List.setIfInBounds_toArray, List.set_cons_zero, List.set_cons_succ]
  refine take7 (i := 4) (d := 14) (v := .string a) rfl rfl (by kernel_rfl) (by kernel_rfl) (by kernel_rfl) (fun _ _ _ h => h) (Or.inl ⟨by rfl, ?_⟩) (by assumption) ?_
  · intro X hSw
    go_simp
  simp only [Act.put, List.setIfInBounds_toArray, List.set_cons_zero, List.set_cons_succ]
  refine take7 (i := 6) (d := 16) (v := .agg #[]) rfl rfl (by kernel_rfl) (by kernel_rfl) (by kernel_rfl) (fun _ _ _ h => h) (Or.inl ⟨by rfl, ?_⟩) (by assumption) ?_
  · intro X hSw
    go_simp
  simp only [Act.put, List.setIfInBounds_toArray, List.set_cons_zero, List.set_cons_succ]
  refine wpAnyH_ready (rs := [5]) (by kernel_rfl) (by simp) ?_
  refine AllReadyH.cons rfl (fun K hK => ?_) AllReadyH.nil
  refine stepCall 15 rfl rfl 54 #[.string a] (by kernel_rfl) (HCl.out _) ?_
  rintro e Y ⟨rfl, hbY⟩
  refine ⟨_, rfl, ?_⟩
  have hY : Below w.heap.size w Y := HB1.out.trans (hbY.mono HB1.out.size)
  refine hK.out _ _ (HS.out _ hY) (fun hHeld => ?_)
  clear hK K
  try simp only [Act.put, List.setIfInBounds_toArray, List.set_cons_zero, List.set_cons_succ]
  refine wpAnyH_ready (rs := [7]) (by kernel_rfl) (by simp) ?_
  refine AllReadyH.cons rfl (fun K hK => ?_) AllReadyH.nil
  obtain ⟨w5, r5, g5, HM⟩ := HJ.out Y hY
  refine stepUpdate rfl rfl 61 (.tmp 13) (.tmp 15) (.tmp 16) rfl (by simp [Act.eval]) (by simp [Act.eval]) (by simp [Act.eval]) r5 ?_
  refine hK.out _ _ (HS3.out _ _ hY g5) (fun hHeld => ?_)
  clear hK K hHeld r5 g5
  refine wpAnyH_done (by kernel_rfl) ?_ _
  clear hHeld hY hbY
  have c0 := HM.out.1.c0
  obtain ⟨D, hown, hat⟩ := HM.out.1.chs
  have HAt : Hid (∀ x y, Ok x → Ok y → ∀ z, D.atKey (nl x y) z = match f x y with | none => z | some k => .lit (.int .i64 (k : Int))) := hat
  clear hat
  go_wp2_with (first
    | (at_range; refine wpList_range_own _ rfl _ 60 rfl 78 67 nmKeyed Try.underlying60 _ bc (n + 1) _ rfl hown ?_; intro w6 hrg0 hg0 hs0)
    | go_in)
  go_frame
  obtain ⟨r, hr⟩ : ∃ r, r = w5.heap.size := ⟨_, rfl⟩
  rw [← hr] at hrg0 ⊢
  have HR : Hid (who r = 0 ∧ r ≠ bc ∧ w.heap.size ≤ r) := by
    refine ⟨?_, fun e => ?_, by rw [hr]; exact HM.out.2.size⟩
    · by_cases e : who r = 0
      · exact e
      · have := HM.out.1.here r e
        omega
    · have := hown.lt
      omega
  have HR0 : Hid (Offing w B s who (n + 1) bc bo f cs a r D w6) := by
    refine ⟨_, _, cs, hrg0, (HM.out.1.norm).carry hg0.size (fun i hi => hg0.block i (HM.out.1.here i hi) (by simp)), fun x y k hk => ?_, HM.out.2.grown hg0 (fun k hk => by cases hk)⟩
    have hd := HM.out.1.dom x y k hk
    have := has_of (HAt.out x y hd.1 hd.2)
    rw [hk] at this
    rw [if_pos (by rw [this]; rfl)]
  clear hrg0 hg0 hs0 hown hr c0
  go_loopw [6] (fun _ wr => Hid (Offing w B s who (n + 1) bc bo f cs a r D wr)) (fun _ wr => wr.rangeLeft bc r)
  case atStart => exact HR0
  case round =>
    clear HR0
    obtain ⟨left, cnt, cs', hrg, hMd, hcs, hkw⟩ := hrel.out
    have HRg : Hid (wr.ranges Try.prog 78 ptrElem bc r (n + 1) D left cnt) := hrg
    have HMd : Hid (MdV wr B ⟨fun p q => (f p q).map cs', setOn s.off a true⟩ who (n + 1) bc bo f cs') := hMd
    have HCs : Hid (∀ x y k, f x y = some k → cs' k = if left (nl x y) = true then cs k else Mo.lessM (cs k) a) := hcs
    have HKw : Hid (KeptW who w wr) := hkw
    clear hrel hMd hcs hkw
    go_wp2_with (first
      | (at_next; refine wpList_next_ranges _ rfl _ rfl 78 nmKeyed ptrElem mkN mkP (fun key kl hkey => by obtain ⟨x, hx, _⟩ := nk_inv hkey; exact ⟨x, hx⟩) (fun v y hv => by obtain ⟨c, hc, _⟩ := ptrElem_inv hv; exact ⟨c, hc⟩) bc r (n + 1) _ _ _ rfl hrg ?_ ?_)
      | go_in)
    · intro _ hl0
      have HF : Hid (AftM who w wr B ⟨fun p q => (s.ch p q).map (Mo.lessM · a), fun x => if x = a then true else s.off x⟩ (n + 1) who) := by
        refine ⟨⟨bc, bo, f, cs', HMd.out.as rfl (fun x y => ?_)⟩, fun _ _ e => e, HKw.out⟩
        show (s.ch x y).map (Mo.lessM · a) = (f x y).map cs'
        rw [HCh.out]
        cases hf : f x y with
        | none => rfl
        | some k =>
          have := HCs.out x y k hf
          rw [hl0] at this
          simp at this
          simp [this]
      clear hrg hl0
      go_wp2
      go_ret
      exact ⟨rfl, HF.out⟩
    · intro xa xb c kl' y1 y2 w1 cnt1 hkey hlk hRv hat hrg1 hlt hg1 hs1 hen
      have hxx : Ok xa ∧ Ok xb := by
        obtain ⟨x', hx', h1, h2⟩ := nk_inv hkey
        obtain ⟨e1, e2⟩ := nk_inj (x := xa) (y := xb) (x' := x'.1) (y' := x'.2) hx'
        rw [e1, e2]
        exact ⟨h1, h2⟩
      obtain rfl : kl' = nl xa xb := by
        have := keyOf_nk hxx.1 hxx.2
        unfold nk at this
        unfold mkN at hkey
        rw [this] at hkey
        injection hkey with hkey
        exact hkey.symm
      obtain ⟨k, hk, hck⟩ : ∃ k, f xa xb = some k ∧ c = some k := by
        obtain ⟨c', hc', hy⟩ := ptrElem_inv hRv
        have h1 := HAt.out xa xb hxx.1 hxx.2
        cases hf : f xa xb with
        | none =>
          exfalso
          rw [hf] at h1
          have e1 := (h1 (.lit (.int .i64 0))).symm.trans (hat _)
          have e2 := (h1 (.lit (.int .i64 1))).symm.trans (hat _)
          have e3 := e1.trans e2.symm
          injection e3 with e3
          injection e3 with _ e3
          cases e3
        | some k =>
          rw [hf] at h1
          have e1 := (h1 (.lit (.int .i64 0))).symm.trans (hat (.lit (.int .i64 0)))
          injection hy with hy _
          rw [hy] at e1
          injection e1 with e1
          injection e1 with _ e1
          refine ⟨k, rfl, ?_⟩
          cases c with
          | none =>
            cases c' with
            | none => exfalso; have e1 : (k : Int) = -1 := e1; omega
            | some d => cases hc'
          | some d =>
            cases c' with
            | none => cases hc'
            | some d' =>
              have e1 : (k : Int) = (d' : Int) := e1
              unfold mkP at hc'
              injection hc' with hc'
              injection hc' with hc'
              injection hc' with hc'
              rw [hc']
              congr 1
              omega
      subst hck
      have hM1 : MdV w1 B ⟨fun p q => (f p q).map cs', setOn s.off a true⟩ who (n + 1) bc bo f cs' := HMd.out.carry (by rw [hs1]; exact Nat.le_refl _) (fun i hi => hg1.block i (HMd.out.here i hi) (fun e => by injection e with e; exact hi (by rw [e]; exact HR.out.1)))
      obtain ⟨bm, v, hc, w4, wm, wrr⟩ := hM1.one _ _ k hk
      have ck0 := hc.c0
      have HKw1 : Hid (KeptW who w w1) := HKw.out.grown hg1 (fun j hj hjl => by
        injection hj with hj
        have := HR.out.2.2
        omega)
      obtain ⟨w2, r2, g2, hM2⟩ := hM1.left hk hc w4 wm wrr HA.out 0
      have hbm : bm < w1.heap.size := hM1.here bm (by rw [wm]; omega)
      have hrg2 : w2.ranges Try.prog 78 ptrElem bc r (n + 1) D (fun z => left z && !z.sameKey (nl xa xb)) cnt1 := hrg1.kept g2 (fun e => by injection e with e; have := hM1.wc; rw [e, wm] at this; omega) (fun e => by injection e with e; have := HR.out.1; rw [e, wm] at this; omega)
      have HN : Hid (Offing w B s who (n + 1) bc bo f cs a r D w2) := by
        refine ⟨_, _, _, hrg2, hM2, fun x y i hi => ?_, HKw1.out.grown g2 (fun j hj _ => by injection hj with hj; rw [← hj, wm]; omega)⟩
        have hd := HMd.out.dom x y i hi
        by_cases e : x = xa ∧ y = xb
        · obtain ⟨rfl, rfl⟩ := e
          rw [hk] at hi
          injection hi with hi
          subst hi
          rw [if_pos rfl, if_neg (by rw [WideAt.sameKey_self (nl_key _ _)]; simp), HCs.out _ _ k hk, if_pos hlk]
        · have hik : i ≠ k := fun q => e (HMd.out.inj x y xa xb k (by rw [← q]; exact hi) hk)
          rw [if_neg hik, HCs.out x y i hi, nl_same hd.1 hd.2 hxx.1 hxx.2 e]
          simp
      have HMs : Hid (w2.rangeLeft bc r < wr.rangeLeft bc r) := by rw [hrg2.left_eq, HRg.out.left_eq]; exact hlt
      have hen' : (Instr.entry (.pointer (some ⟨r, 0, none⟩))).run Try.prog w1 = .ok (.tuple #[.agg #[.string xa, .string xb], .pointer (some ⟨k, 0, none⟩)]) w1 := hen
      try unfold mkN
      try unfold mkP
      clear hen hkey hlk hRv hat hrg1 hlt hg1 hs1 hxx hM1 hc w4 wm wrr hM2 hbm hrg2 hrg g2 hk
      go_wp2_with (first
        | (at_delete; refine wpList_delete_run rfl _ _ 61 9 rfl rfl rfl r2 ?_; go_frame)
        | go_in)
      go_roundw
      case rel => exact HN
      case measure => exact HMs.out

end
end Go.Proofs.Ytkioeahlajjmiaa
