/-
  Ids of a table.
-/
import Derived.Test.YtnfjfhjhofaodaaSeIdm
namespace Go.Proofs.Ytnfjfhjhofaodaa
open Go.RowKit Go.Sort

def mkA (v : Value) : Value := v

section
variable {w : World} {B mb : Nat} {s : Se.St}

/-- What is so while the sessions are gone through. -/
def Idz (w : World) (mb : Nat) (s : Se.St) (m : List (Int × Value)) (r : Nat) (v : Value) (X : World) : Prop :=
  ∃ (left : Lit → Bool) (cnt : Nat) (T : List (Int × Int)), X.ranges Try.prog 3 valElem mb r m.length (dat m) left cnt ∧ RowC X 2 v T.length (T.flatMap idc) ∧ (∀ q, cBlk v = some q → w.heap.size ≤ q ∧ q ≠ r) ∧ T.Nodup ∧ (∀ p, p ∈ T ↔ p ∈ idsOf s ∧ left (.int .i64 p.1) = false) ∧ T.length + cnt ≤ 64 ∧ Below w.heap.size w X

theorem vget_of {m : List (Int × Value)} {x : Int} {c : Value} (h : ∀ zd, (dat m).atKey (.int .i64 x) zd = .held c) : vget m x = some c := by
  have h1 := h (.held (.bool true))
  have h2 := h (.held (.bool false))
  rw [dat_at] at h1 h2
  cases hv : vget m x with
  | some v =>
    rw [hv] at h1
    injection h1 with h1
    have h1 : v = c := h1
    rw [h1]
  | none =>
    rw [hv] at h1 h2
    injection h1 with h1
    injection h2 with h2
    have e := h1.trans h2.symm
    cases e

set_option maxHeartbeats 1600000 in
set_option maxRecDepth 20000 in
theorem Ids_c (h : Tb w B mb s) : Calls Try.prog 32 #[.pointer (some ⟨B, 0, none⟩)] w fun e w' => ∃ v, e = .returned v ∧ Rd w' v s.length ((idsOf s).flatMap idc) ∧ Below w.heap.size w w' := by
  have c0 := h.c0
  have HIs : Hid _ := isMadeT_c h
  have HRi : Hid (Se.Rise s) := h.rise
  obtain ⟨m, hown, hen⟩ := h.map
  have hlen := h.len
  have HEn : Hid (Ents w s m) := hen
  have HLe : Hid (s.length ≤ 64 ∧ s.length = m.length) := ⟨hlen, hen.length⟩
  have HSo : Hid (∀ (g off cap : Nat) (T : List (Int × Int)) (X : World), RowC X 2 (.slice (some ⟨g, off, none⟩) T.length (cap + 1)) T.length (T.flatMap idc) → T.Nodup → (∀ p, p ∈ T ↔ p ∈ idsOf s) → T.length ≤ 64 → Calls Try.prog 38 #[.slice (some ⟨g, off, none⟩) T.length (cap + 1), .func (.func 39) #[] #[]] X fun e w' => e = .returned (.tuple #[]) ∧ X.grownBy w' (some g) ∧ Rd w' (.slice (some ⟨g, off, none⟩) T.length (cap + 1)) s.length ((idsOf s).flatMap idc)) := fun g off cap T X hT hnd hmem h64 => by
    have hH := holdsK_of_row hT
    have hg : g < X.heap.size := hT.lt (by decide) rfl
    have h3 := hT.at.2.2
    obtain ⟨_, _, _, _, hmx⟩ := hT.form
    have q := sort_c g off (cap + 1) T.toArray X hH hg (by simp; omega)
    have e0 : T.toArray.size = T.length := by simp
    rw [e0] at q
    refine q.mono ?_
    rintro e w' ⟨rfl, d', n', os, hp, hs, rfl⟩
    rw [← e0] at hp hs
    have hL := sorted_ids (idsOf_rise HRi.out) hnd hmem hp hs
    have hsz : d'.size = T.toArray.size := hp.1
    have hls : T.length = s.length := by
      rw [← idsOf_len s, ← hL, ← e0, ← hsz]
      simp
    refine ⟨rfl, grown_sortK d', ⟨some ⟨g, off, none⟩, cap + 1, by rw [hls], by omega, by have := hT.form; obtain ⟨p, c, hv, _, hc⟩ := this; injection hv with _ _ hv; rw [hv]; exact hc, fun e => (by cases e), fun a ha j x hx => ?_⟩⟩
    injection ha with ha
    rw [← ha, Addr.add_lit]
    rw [← hL] at hx
    exact holdsK_cells (holdsK_sorted hH hg hsz) j x hx
  have HSn : Hid (∀ (p : Option Addr) (cap : Nat) (fv : Value) (X : World), Calls Try.prog 38 #[.slice p 0 cap, fv] X fun e w' => e = .returned (.tuple #[]) ∧ w' = X) := sortNone_c
  clear h hen hlen
  go_enter Try.func32, Try.ntmps32
  go_wp2_with fail
  refine Calls.mono HIs.out ?_
  rintro e w5 ⟨rfl, hw5⟩
  have hw5 := hw5.symm
  subst hw5
  go_wp2_with (first
    | (at_range; refine wpList_range_own _ rfl _ 65 rfl 3 70 intKeyed Try.underlying65 _ mb m.length _ rfl hown ?_; intro w6 hrg0 hg0 hs0)
    | go_in)
  go_frame
  obtain ⟨r, hr⟩ : ∃ r, r = w.heap.size := ⟨_, rfl⟩
  rw [← hr] at hrg0 ⊢
  have HR : Hid (w.heap.size ≤ r ∧ mb < w.heap.size) := ⟨by rw [hr]; exact Nat.le_refl _, hown.lt⟩
  have HR0 : Hid (Idz w mb s m r (.slice none 0 0) w6) := by
    refine ⟨_, _, [], hrg0, RowC.nil _ _ _, fun q hq => by simp [cBlk] at hq, List.nodup_nil, fun p => ⟨fun e => (by cases e), fun e => ?_⟩, ?_, ⟨hg0.os, hg0.tape, hg0.output, hg0.size, fun k hk => hg0.block k hk (by simp)⟩⟩
    · obtain ⟨hp, hl⟩ := e
      obtain ⟨q, hq, rfl⟩ := List.mem_map.1 hp
      rw [dat_has] at hl
      rcases HEn.out.get q.1 with ⟨h1, _⟩ | ⟨l, v, _, h2, _⟩
      · exact absurd hq (by
          intro hq
          have : ∀ {s : Se.St}, q ∈ s → Se.get s q.1 ≠ none := fun {s} => by
            induction s with
            | nil => intro hq; cases hq
            | cons y s ih =>
              intro hq
              show (if y.1 = q.1 then some y.2 else Se.get s q.1) ≠ none
              split
              · simp
              · rename_i hne
                rcases List.mem_cons.1 hq with e | e
                · exact absurd (by rw [e]) hne
                · exact ih e
          exact this hq h1)
      · dsimp only at hl
        rw [h2] at hl
        cases hl
    · have := HLe.out
      simp [Maps.size, dat]
      omega
  clear hrg0 hg0 hs0 hown hr c0 HIs
  go_loopw [3] (fun lv wr => Hid (Idz w mb s m r lv wr)) (fun _ wr => wr.rangeLeft mb r)
  case atStart => exact HR0
  case round =>
    clear HR0
    obtain ⟨left, cnt, T, hrg, hrow, hfr, hnd, hT, hcn, hbw⟩ := hrel.out
    have HRg : Hid (wr.ranges Try.prog 3 valElem mb r m.length (dat m) left cnt) := hrg
    have HRow : Hid (RowC wr 2 u3 T.length (T.flatMap idc) ∧ (∀ q, cBlk u3 = some q → w.heap.size ≤ q ∧ q ≠ r) ∧ T.Nodup ∧ (∀ p, p ∈ T ↔ p ∈ idsOf s ∧ left (.int .i64 p.1) = false) ∧ T.length + cnt ≤ 64 ∧ Below w.heap.size w wr) := ⟨hrow, hfr, hnd, hT, hcn, hbw⟩
    clear hrel hrow hnd hT hcn hbw hfr
    go_wp2_with (first
      | (at_next; refine wpList_next_ranges _ rfl _ rfl 3 intKeyed valElem (Value.int .i64) mkA (fun key kl hkey => by obtain ⟨x, rfl, _⟩ := Maps.keyOf_int_inv Try.underlying3 hkey; exact ⟨x, rfl⟩) (fun v y hv => ⟨v, rfl⟩) mb r m.length _ _ _ rfl hrg ?_ ?_)
      | go_in)
    · intro _ hl0
      have HT : Hid (∀ p, p ∈ T ↔ p ∈ idsOf s) := fun p => by rw [HRow.out.2.2.2.1 p, hl0]; simp
      have HL : Hid (T.length ≤ 64) := by have := HRow.out.2.2.2.2.1; show _ ≤ _; omega
      clear hrg hl0
      obtain ⟨pp, cc, hv, hc1, hc2⟩ := HRow.out.1.form
      subst hv
      cases hT0 : T with
      | nil =>
        have HE : Hid (Rd wr (.slice pp 0 cc) s.length ((idsOf s).flatMap idc)) := by
          have e : idsOf s = [] := by
            cases hq : idsOf s with
            | nil => rfl
            | cons y L => have := (HT.out y).2 (by rw [hq]; exact List.mem_cons_self); rw [hT0] at this; cases this
          have e2 : s.length = 0 := by rw [← idsOf_len, e]; rfl
          have q := Rd.ofRow HRow.out.1
          rw [hT0] at q
          rw [e, e2]
          exact q
        have HB : Hid (Below w.heap.size w wr) := HRow.out.2.2.2.2.2
        rw [List.length_nil]
        clear hT0 hc1 hc2
        go_wp2_with fail
        refine (HSn.out _ _ _ _).mono ?_
        rintro e w2 ⟨rfl, hw2⟩
        have hw2 := hw2.symm
        subst hw2
        go_wp2
        go_ret
        exact ⟨_, rfl, HE.out, HB.out⟩
      | cons y L =>
        have hpos : 0 < T.length := by rw [hT0]; simp
        obtain ⟨g, off, c', hv, _⟩ := HRow.out.1.cells hpos
        injection hv with e1 e2 e3
        subst e1 e3
        rw [← hT0]
        have HC : Hid _ := HSo.out g off c' T wr HRow.out.1 HRow.out.2.2.1 HT.out HL.out
        have HFr : Hid (w.heap.size ≤ g) := (HRow.out.2.1 g rfl).1
        have HB : Hid (Below w.heap.size w wr) := HRow.out.2.2.2.2.2
        clear hT0 hpos hc1 hc2
        go_wp2_with fail
        refine Calls.mono HC.out ?_
        rintro e w2 ⟨rfl, hg, hrd⟩
        have HE : Hid (Rd w2 (.slice (some ⟨g, off, none⟩) T.length (c' + 1)) s.length ((idsOf s).flatMap idc) ∧ Below w.heap.size w w2) := by
          have b := HB.out
          exact ⟨hrd, hg.os.trans b.os, hg.tape.trans b.tape, hg.output.trans b.output, Nat.le_trans b.size hg.size, fun k hk => (hg.block k (Nat.lt_of_lt_of_le hk b.size) (fun e => by injection e with e; have := HFr.out; omega)).trans (b.block k hk)⟩
        clear hg hrd
        go_wp2
        go_ret
        exact ⟨_, rfl, HE.out.1, HE.out.2⟩
    · intro x c kl' y1 y2 w1 cnt1 hkey hlk hRv hat hrg1 hlt hg1 hs1 hen
      obtain ⟨x', hx', rfl, hwf⟩ := Maps.keyOf_int_inv Try.underlying3 hkey
      injection hx' with _ hx'
      subst hx'
      have hc : vget m x = some c := vget_of (fun zd => by
        rw [hat zd]
        have : (DataW.held c, ([] : List MemPlace)) = (y1, y2) := by unfold valElem mkA at hRv; injection hRv
        exact (congrArg Prod.fst this).symm)
      obtain ⟨l, hget, pp, np, cp, hcv⟩ : ∃ l, Se.get s x = some l ∧ ∃ pp np cp, c = .agg #[.int .i64 l.seq, .int .i64 l.re.err, .int .i64 l.re.at_, .slice pp np cp] := by
        rcases HEn.out.get x with ⟨_, h2⟩ | ⟨l, v, h1, h2, pv, h3, h4, _⟩
        · rw [h2] at hc; cases hc
        · rw [h2] at hc
          injection hc with hc
          obtain ⟨pp, cp, hpv, _⟩ := h4.form
          exact ⟨l, h1, pp, _, cp, by rw [← hc, h3, hpv]⟩
      subst hcv
      have HX : Hid (Se.get s x = some l ∧ left (.int .i64 x) = true) := ⟨hget, hlk⟩
      have HR1 : Hid (w1.ranges Try.prog 3 valElem mb r m.length (dat m) (fun z => left z && !z.sameKey (.int .i64 x)) cnt1 ∧ cnt1 < cnt ∧ wr.grownBy w1 (some r) ∧ w1.heap.size = wr.heap.size) := ⟨hrg1, hlt, hg1, hs1⟩
      have hen' : (Instr.entry (.pointer (some ⟨r, 0, none⟩))).run Try.prog w1 = .ok (.tuple #[.int .i64 x, .agg #[.int .i64 l.seq, .int .i64 l.re.err, .int .i64 l.re.at_, .slice pp np cp]]) w1 := hen
      obtain ⟨W1, hW1⟩ : ∃ W1, W1 = w1.alloc (.cells #[.int .i64 l.seq, .int .i64 l.re.err, .int .i64 l.re.at_, .slice pp np cp] 70) := ⟨_, rfl⟩
      obtain ⟨Z, hZ⟩ : ∃ Z, Z = W1.alloc (.cells #[.int .i64 x, .int .i64 l.seq] 27) := ⟨_, rfl⟩
      have hrow1 : RowC w1 2 u3 T.length (T.flatMap idc) := HRow.out.1.carry fun k hk => HR1.out.2.2.1.block k (HRow.out.1.lt (by decide) hk) (fun e => (HRow.out.2.1 k hk).2 (by injection e))
      have hrowW : RowC W1 2 u3 T.length (T.flatMap idc) := by
        rw [hW1]
        exact hrow1.carry fun k hk => (below_alloc w1 _).block k (hrow1.lt (by decide) hk)
      have hrowZ : RowC Z 2 u3 T.length (T.flatMap idc) := by
        rw [hZ]
        exact hrowW.carry fun k hk => (below_alloc W1 _).block k (hrowW.lt (by decide) hk)
      have HRz : Hid (RowC Z 2 u3 T.length (T.flatMap idc)) := hrowZ
      have HSrc : Hid (Src Try.prog 2 22 (.slice (some ⟨w1.heap.size + 1, 0, none⟩) 1 1) 1 [.int .i64 x, .int .i64 l.seq] Z) := by
        have q := src_id W1 (x, (l, .slice pp np cp))
        rw [← hZ] at q
        have e1 : W1.heap.size = w1.heap.size + 1 := by rw [hW1]; simp
        rw [e1] at q
        exact q
      have HZe : Hid (Z = (w1.alloc (.cells #[.int .i64 l.seq, .int .i64 l.re.err, .int .i64 l.re.at_, .slice pp np cp] 70)).alloc (.cells #[.int .i64 x, .int .i64 l.seq] 27)) := by rw [← hW1]; exact hZ
      have b1 : Below w.heap.size w w1 := by
        have b := HRow.out.2.2.2.2.2
        have hg := HR1.out.2.2.1
        exact ⟨hg.os.trans b.os, hg.tape.trans b.tape, hg.output.trans b.output, Nat.le_trans b.size hg.size, fun k hk => (hg.block k (Nat.lt_of_lt_of_le hk b.size) (fun e => by injection e with e; have := HR.out.1; omega)).trans (b.block k hk)⟩
      have bZ : Below w.heap.size w Z := by
        have q1 : Below w.heap.size w W1 := by rw [hW1]; exact b1.trans ((below_alloc w1 _).mono b1.size)
        rw [hZ]
        exact q1.trans ((below_alloc _ _).mono q1.size)
      have rZ : Z.ranges Try.prog 3 valElem mb r m.length (dat m) (fun z => left z && !z.sameKey (.int .i64 x)) cnt1 := by
        rw [hZ, hW1]
        exact (HR1.out.1.alloc _).alloc _
      have HL : Hid ((T.length + 1) * 16 ≤ 140737488355328 ∧ T.length + 1 ≤ maxLen) := by have := HRow.out.2.2.2.2.1; unfold maxLen; exact ⟨by omega, by omega⟩
      have HAp : Hid (∀ v' w', RowC w' 2 v' (T.length + 1) (T.flatMap idc ++ [.int .i64 x, .int .i64 l.seq]) → Z.grownBy w' (cBlk u3) → (∀ k, cBlk v' = some k → cBlk u3 = some k ∨ Z.heap.size ≤ k) → Idz w mb s m r v' w' ∧ w'.rangeLeft mb r < wr.rangeLeft mb r) := fun v' w' ho hg hfr' => by
        have hZr : r < Z.heap.size := rZ.lt
        have hne : ∀ q, cBlk u3 = some q → w.heap.size ≤ q ∧ q ≠ r := HRow.out.2.1
        have hrgE := rZ.kept hg (fun e => by have := (hne mb e.symm).1; have := HR.out.2; omega) (fun e => (hne r e.symm).2 rfl)
        obtain ⟨_, _, hnd, hT, hcn, _⟩ := HRow.out
        refine ⟨⟨_, _, T ++ [(x, l.seq)], hrgE, ?_, fun q hq => ?_, ?_, fun p => ?_, ?_, ?_⟩, ?_⟩
        · rw [flat_snoc, List.length_append]
          exact ho
        · rcases hfr' q hq with e | e
          · exact hne q e
          · have := bZ.size
            omega
        · refine List.nodup_append.2 ⟨hnd, by simp, fun a ha b hb e => ?_⟩
          simp at hb
          rw [e, hb] at ha
          have := ((hT _).1 ha).2
          dsimp only at this
          rw [HX.out.2] at this
          cases this
        · rw [List.mem_append, hT p]
          simp only [List.mem_singleton]
          have hk : ∀ z : Int, (Lit.int .i64 z).sameKey (.int .i64 x) = decide (z = x) := fun z => by
            by_cases e : z = x
            · simp [Lit.sameKey, e]
            · simp [Lit.sameKey, e]
          rw [hk]
          constructor
          · rintro (⟨h1, h2⟩ | e)
            · exact ⟨h1, by rw [h2]; rfl⟩
            · rw [e]
              exact ⟨get_ids HX.out.1, by simp⟩
          · rintro ⟨h1, h2⟩
            by_cases e : p.1 = x
            · exact .inr (rise_inj (idsOf_rise HRi.out) h1 (get_ids HX.out.1) e)
            · refine .inl ⟨h1, ?_⟩
              simpa [e] using h2
        · have := HR1.out.2.1
          rw [List.length_append]
          simp only [List.length_cons, List.length_nil]
          omega
        · exact ⟨hg.os.trans bZ.os, hg.tape.trans bZ.tape, hg.output.trans bZ.output, Nat.le_trans bZ.size hg.size, fun k hk => (hg.block k (Nat.lt_of_lt_of_le hk bZ.size) (fun e => by have := (hne k e.symm).1; omega)).trans (bZ.block k hk)⟩
        · rw [hrgE.left_eq, HRg.out.left_eq]
          exact HR1.out.2.1
      try unfold mkA
      clear hen hkey hlk hRv hat hrg1 hlt hg1 hs1 hrg hget hc hwf hrow1 hrowW hrowZ b1 bZ rZ hZ hW1
      generalize l.seq = sq at *
      generalize l.re.err = er at *
      generalize l.re.at_ = at' at *
      go_wp2_with (first
        | (at_builtin; rw [← HZe.out]; refine wpList_append_rowC rfl (.tmp 19) (.tmp 24) 22 22 27 rfl Try.underlying22 _ 2 16 infoId rfl u3 T.length (T.flatMap idc) rfl HRz.out _ 1 _ rfl HSrc.out HL.out.1 HL.out.2 ?qnext)
        | go_in)
      case qnext =>
        intro v' w' ho hg hf
        have HE : Hid _ := HAp.out v' w' ho hg hf
        clear ho hg hf
        try go_frame
        go_wp2
        go_roundw
        case rel => exact HE.out.1
        case measure => exact HE.out.2
end
end Go.Proofs.Ytnfjfhjhofaodaa
