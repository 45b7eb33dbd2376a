/-
  The channels of a workspace, rising.
-/
import Derived.Test.YtkioeahlajjmiaaMoClose
import Derived.Test.YtkioeahlajjmiaaMoMems
import Derived.Maps.AppendAt
import Derived.Sort.OwnSorted
namespace Go.Proofs.Ytkioeahlajjmiaa
open Go.RowKit Go.Sort

theorem infoStr : (Try.prog.info? 9).map (fun i => (i.zero, i.size, i.bytes)) = some (some (.string ⟨#[]⟩), 1, 16) := by kernel_rfl

section
variable {w W : World} {B : Nat} {s : Mo.St} {who : Nat → Nat} {n bc bo : Nat} {f : ByteArray → ByteArray → Option Nat} {cs : Nat → Mo.Ch}

/-- What is so while the channels are gone through. -/
def Listing (w : World) (n bc : Nat) (f : ByteArray → ByteArray → Option Nat) (sp : ByteArray) (r : Nat) (D : DataW Unit) (v : Value) (X : World) : Prop :=
  ∃ (left : Lit → Bool) (cnt : Nat) (T : List ByteArray), X.ranges Try.prog 78 ptrElem bc r n D left cnt ∧ X.ownsRow w.heap.size 9 1 v (T.map (·.data.toList)).length ((T.map (·.data.toList)).map encStr) ∧ T.Nodup ∧ (∀ y, y ∈ T ↔ (∃ k, f sp y = some k) ∧ left (nl sp y) = false) ∧ T.length + cnt ≤ n ∧ Below w.heap.size w X

set_option maxHeartbeats 1600000 in
set_option maxRecDepth 20000 in
theorem Channels_c (h : MdV w B s who n bc bo f cs) (hn : n < 1099511627776) (sp : ByteArray) :
    Calls Try.prog 13 #[.pointer (some ⟨B, 0, none⟩), .string sp] w fun e w' => ∃ p m c T, e = .returned (.slice p m c) ∧ T.Nodup ∧ (∀ y, y ∈ T ↔ ∃ k, f sp y = some k) ∧ StrV w' (.slice p m c) (risen T) ∧ (∀ a, p = some a → w.heap.size ≤ a.block) ∧ Below w.heap.size w w' := by
  have c0 := h.c0
  have HIs : Hid _ := isMade_c h
  have HD : Hid (∀ x y k, f x y = some k → Ok x ∧ Ok y) := h.dom
  have HNn : Hid (n < 1099511627776) := hn
  obtain ⟨D, hown, hat0⟩ := h.chs
  have HAt : Hid (∀ x y, Ok x → Ok y → ∀ z, D.atKey (nl x y) z = match f x y with | none => z | some k => .lit (.int .i64 (k : Int))) := hat0
  have HSo : Hid (∀ (g cap : Nat) (ss : List (List UInt8)) (X : World), Holds encStr X g 0 ss.toArray → g < X.heap.size → ss.length < 4611686018427387904 → Calls Try.prog 36 #[.slice (some ⟨g, 0, none⟩) ss.length cap] X fun e w' => e = .returned (.tuple #[]) ∧ ∃ n os, w' = grow (putRow encStr (Sort.ahead X n) g 0 (ss.mergeSort fun x y => decide (x ≤ y)).toArray) os) := fun g cap ss X h1 h2 h3 => AnyM.slices_Sort_string Try.sortA g 0 cap ss X h1 h2 h3
  have HSn : Hid (∀ (p : Option Addr) (cap : Nat) (X : World), Calls Try.prog 36 #[.slice p 0 cap] X fun e w' => e = .returned (.tuple #[]) ∧ w' = X) := fun p cap X => AnyM.slices_Sort_string_none Try.sortA p cap X
  clear hat0 h hn
  go_enter Try.func13, Try.ntmps13
  go_wp2_with fail
  refine Calls.mono HIs.out ?_
  rintro e w5 ⟨rfl, hw5⟩
  have hw5 := hw5.symm
  subst hw5
  go_wp2_with (first
    | (at_range; refine wpList_range_own _ rfl _ 60 rfl 78 67 nmKeyed Try.underlying60 _ bc n _ rfl hown ?_; intro w6 hrg0 hg0 hs0)
    | go_in)
  go_frame
  obtain ⟨r, hr⟩ : ∃ r, r = w.heap.size := ⟨_, rfl⟩
  rw [← hr] at hrg0 ⊢
  have HR : Hid (w.heap.size ≤ r ∧ bc < w.heap.size) := ⟨by rw [hr]; exact Nat.le_refl _, hown.lt⟩
  have HR0 : Hid (Listing w n bc f sp r D (.slice none 0 0) w6) := by
    refine ⟨_, _, [], hrg0, World.ownsRow_nil _ _ _ _, List.nodup_nil, fun y => ⟨fun e => (by cases e), fun e => ?_⟩, by have := hown.size_le; simpa using this, ⟨hg0.os, hg0.tape, hg0.output, hg0.size, fun k hk => hg0.block k hk (by simp)⟩⟩
    obtain ⟨⟨k, hk⟩, hl⟩ := e
    have hd := HD.out sp y k hk
    have := has_of (HAt.out sp y hd.1 hd.2)
    rw [hk] at this
    rw [this] at hl
    cases hl
  clear hrg0 hg0 hs0 hown hr c0 HIs
  go_loopw [5] (fun lv wr => Hid (Listing w n bc f sp r D lv wr)) (fun _ wr => wr.rangeLeft bc r)
  case atStart => exact HR0
  case round =>
    clear HR0
    obtain ⟨left, cnt, T, hrg, hrow, hnd, hT, hcn, hbw⟩ := hrel.out
    have HRg : Hid (wr.ranges Try.prog 78 ptrElem bc r n D left cnt) := hrg
    obtain ⟨ss, hss⟩ : ∃ ss, ss = T.map (·.data.toList) := ⟨_, rfl⟩
    rw [← hss] at hrow
    have HSS : Hid (ss = T.map (·.data.toList) ∧ ss.length = T.length) := ⟨hss, by rw [hss]; simp⟩
    clear hss
    have HRow : Hid (wr.ownsRow w.heap.size 9 1 u5 ss.length (ss.map encStr) ∧ T.Nodup ∧ (∀ y, y ∈ T ↔ (∃ k, f sp y = some k) ∧ left (nl sp y) = false) ∧ T.length + cnt ≤ n ∧ Below w.heap.size w wr) := ⟨hrow, hnd, hT, hcn, hbw⟩
    clear hrel hrow hnd hT hcn hbw
    go_wp2_with (first
      | (at_next; refine wpList_next_ranges _ rfl _ rfl 78 nmKeyed ptrElem mkN mkP (fun key kl hkey => by obtain ⟨x, hx, _⟩ := nk_inv hkey; exact ⟨x, hx⟩) (fun v y hv => by obtain ⟨c, hc, _⟩ := ptrElem_inv hv; exact ⟨c, hc⟩) bc r n _ _ _ rfl hrg ?_ ?_)
      | go_in)
    · intro _ hl0
      have HT : Hid (∀ y, y ∈ T ↔ ∃ k, f sp y = some k) := fun y => by rw [HRow.out.2.2.1 y, hl0]; simp
      clear hrg hl0
      have HEnd : Hid (∀ (X : World) (v : Value), X.ownsRow w.heap.size 9 1 v ss.length ((ss.mergeSort fun x y => decide (x ≤ y)).map encStr) → Below w.heap.size w X → ∃ p m c T, v = .slice p m c ∧ T.Nodup ∧ (∀ y, y ∈ T ↔ ∃ k, f sp y = some k) ∧ StrV X (.slice p m c) (risen T) ∧ (∀ a, p = some a → w.heap.size ≤ a.block) ∧ Below w.heap.size w X) := fun X v hrow hb => by
        have hst : StrV X v (risen T) := by
          have := strv_of hrow (by rw [List.length_mergeSort])
          rw [HSS.out.1] at this
          exact this
        have hst2 := hst
        obtain ⟨p, c, hv, _⟩ := hst2
        subst hv
        refine ⟨p, _, c, T, rfl, HRow.out.2.1, HT.out, hst, fun a ha => ?_, hb⟩
        subst ha
        exact (hrow.lt a.block rfl).1
      have HGl : Hid (Below w.heap.size w wr ∧ ss.length < 4611686018427387904) := ⟨HRow.out.2.2.2.2, by have := HSS.out.2; have := HRow.out.2.2.2.1; have := HNn.out; show _ < _; omega⟩
      rcases HRow.out.1.2 with ⟨hnil, h0⟩ | ⟨g, cap, cur, hv, hbase, hb, h1, h2, h3, h4⟩
      · subst hnil
        have hE : wr.ownsRow w.heap.size 9 1 (.slice none 0 0) ss.length ((ss.mergeSort fun x y => decide (x ≤ y)).map encStr) := by
          have h0 : ss.length = 0 := h0
          have h0 : ss = [] := List.eq_nil_of_length_eq_zero h0
          have q := HRow.out.1
          rw [h0] at q ⊢
          simpa using q
        have HE : Hid (wr.ownsRow w.heap.size 9 1 (.slice none 0 0) ss.length ((ss.mergeSort fun x y => decide (x ≤ y)).map encStr)) := hE
        clear h0 hE
        go_wp2_with fail
        refine (HSn.out _ _ _).mono ?_
        rintro e w2 ⟨rfl, hw2⟩
        have hw2 := hw2.symm
        subst hw2
        go_wp2
        go_ret
        obtain ⟨p, m, c, T', hv, h2⟩ := HEnd.out _ _ HE.out HGl.out.1
        exact ⟨p, m, c, T', by rw [← hv]; rfl, h2⟩
      · subst hv
        have HB : Hid (∀ n os, (grow (putRow encStr (Sort.ahead wr n) g 0 (ss.mergeSort fun x y => decide (x ≤ y)).toArray) os).ownsRow w.heap.size 9 1 (.slice (some ⟨g, 0, none⟩) ss.length cap) ss.length ((ss.mergeSort fun x y => decide (x ≤ y)).map encStr) ∧ Below w.heap.size w (grow (putRow encStr (Sort.ahead wr n) g 0 (ss.mergeSort fun x y => decide (x ≤ y)).toArray) os)) := fun n os => by
          have hg := grownBy_sorted (w := wr) (g := g) (n := n) (os := os) (ss.mergeSort fun x y => decide (x ≤ y)).toArray
          have b := HGl.out.1
          exact ⟨ownsRow_sorted (by simp) hbase hb h1 h2 h3, hg.os.trans b.os, hg.tape.trans b.tape, hg.output.trans b.output, Nat.le_trans b.size hg.size, fun k hk => (hg.block k (Nat.lt_of_lt_of_le hk b.size) (fun e => by injection e with e; omega)).trans (b.block k hk)⟩
        have HC : Hid _ := HSo.out g cap ss wr (holds_of_block hb (by simpa using h4)) (Array.getElem?_eq_some_iff.1 hb).1 HGl.out.2
        clear hbase hb h1 h2 h3 h4
        go_wp2_with fail
        refine Calls.mono HC.out ?_
        rintro e w2 ⟨rfl, n2, os2, hw2⟩
        have HB2 : Hid _ := HB.out n2 os2
        rw [← hw2] at HB2
        clear hw2
        go_wp2
        go_ret
        obtain ⟨p, m, c, T', hv, h2⟩ := HEnd.out _ _ HB2.out.1 HB2.out.2
        exact ⟨p, m, c, T', by rw [← hv]; rfl, h2⟩
    · intro xa xb c kl' y1 y2 w1 cnt1 hkey hlk hRv hat hrg1 hlt hg1 hs1 hen
      have hatF := HAt.out
      have hxx : Ok xa ∧ Ok xb := by
        obtain ⟨x', hx', h1, h2⟩ := nk_inv hkey
        obtain ⟨e1, e2⟩ := nk_inj (x := xa) (y := xb) (x' := x'.1) (y' := x'.2) hx'
        rw [e1, e2]
        exact ⟨h1, h2⟩
      obtain rfl : kl' = nl xa xb := by
        have := keyOf_nk hxx.1 hxx.2
        unfold nk at this
        unfold mkN at hkey
        rw [this] at hkey
        injection hkey with hkey
        exact hkey.symm
      obtain ⟨k, hk, hck⟩ : ∃ k, f xa xb = some k ∧ c = some k := by
        obtain ⟨c', hc', hy⟩ := ptrElem_inv hRv
        have h1 := hatF xa xb hxx.1 hxx.2
        cases hf : f xa xb with
        | none =>
          exfalso
          rw [hf] at h1
          have e1 := (h1 (.lit (.int .i64 0))).symm.trans (hat _)
          have e2 := (h1 (.lit (.int .i64 1))).symm.trans (hat _)
          have e3 := e1.trans e2.symm
          injection e3 with e3
          injection e3 with _ e3
          cases e3
        | some k =>
          rw [hf] at h1
          have e1 := (h1 (.lit (.int .i64 0))).symm.trans (hat (.lit (.int .i64 0)))
          injection hy with hy _
          rw [hy] at e1
          injection e1 with e1
          injection e1 with _ e1
          refine ⟨k, rfl, ?_⟩
          cases c with
          | none =>
            cases c' with
            | none => exfalso; have e1 : (k : Int) = -1 := e1; omega
            | some d => cases hc'
          | some d =>
            cases c' with
            | none => cases hc'
            | some d' =>
              have e1 : (k : Int) = (d' : Int) := e1
              unfold mkP at hc'
              injection hc' with hc'
              injection hc' with hc'
              injection hc' with hc'
              rw [hc']
              congr 1
              omega
      subst hck
      clear hatF
      have HX : Hid (Ok xa ∧ Ok xb ∧ f xa xb = some k ∧ left (nl xa xb) = true) := ⟨hxx.1, hxx.2, hk, hlk⟩
      have HR1 : Hid (w1.ranges Try.prog 78 ptrElem bc r n D (fun z => left z && !z.sameKey (nl xa xb)) cnt1 ∧ cnt1 < cnt ∧ wr.grownBy w1 (some r)) := ⟨hrg1, hlt, hg1⟩
      have hne1 := row_ne_iter HRow.out.1 HRg.out
      have hrow1 := HRow.out.1.kept HR1.out.2.2 (.inr (fun e => hne1 e.symm))
      have HRw1 : Hid (((w1.alloc (.cells #[.string xa, .string xb] 78)).alloc (.cells #[.string xb] 9)).ownsRow w.heap.size 9 1 u5 ss.length (ss.map encStr)) := (hrow1.alloc _).alloc _
      have b1 : Below w.heap.size w w1 := by
        have b := HRow.out.2.2.2.2
        have hg := HR1.out.2.2
        exact ⟨hg.os.trans b.os, hg.tape.trans b.tape, hg.output.trans b.output, Nat.le_trans b.size hg.size, fun k hk => (hg.block k (Nat.lt_of_lt_of_le hk b.size) (fun e => by injection e with e; have := HR.out.1; omega)).trans (b.block k hk)⟩
      have HB0 : Hid (Below w.heap.size w (w1.alloc (.cells #[.string xa, .string xb] 78)) ∧ Below w.heap.size w ((w1.alloc (.cells #[.string xa, .string xb] 78)).alloc (.cells #[.string xb] 9))) := by
        have q1 : Below w.heap.size w (w1.alloc (.cells #[.string xa, .string xb] 78)) := b1.trans ((below_alloc w1 _).mono b1.size)
        exact ⟨q1, q1.trans ((below_alloc _ _).mono q1.size)⟩
      have same : ∀ y k', f sp y = some k' → ¬ (sp = xa ∧ y = xb) → (left (nl sp y) && !(nl sp y).sameKey (nl xa xb)) = left (nl sp y) := fun y k' hk' hne => by
        have hd := HD.out sp y k' hk'
        rw [nl_same hd.1 hd.2 HX.out.1 HX.out.2.1 hne]
        simp
      have HAp : Hid (xa = sp → ∀ v' w', w'.ownsRow w.heap.size 9 1 v' (ss.length + 1) (ss.map encStr ++ [.string xb]) → ((w1.alloc (.cells #[.string xa, .string xb] 78)).alloc (.cells #[.string xb] 9)).grownBy w' u5.ownBlock → Listing w n bc f sp r D v' w' ∧ w'.rangeLeft bc r < wr.rangeLeft bc r) := fun e v' w' ho hg => by
        subst e
        have hrg0 := (HR1.out.1.alloc (.cells #[.string xa, .string xb] 78)).alloc (.cells #[.string xb] 9)
        have hrgE := hrg0.kept hg (row_ne_low HRw1.out HR.out.2) (row_ne_iter HRw1.out hrg0)
        obtain ⟨_, hnd, hT, hcn, _⟩ := HRow.out
        refine ⟨⟨_, _, T ++ [xb], hrgE, ?_, ?_, fun y => ?_, ?_, ?_⟩, ?_⟩
        · have e1 : ((T ++ [xb]).map (·.data.toList)) = ss ++ [xb.data.toList] := by rw [HSS.out.1]; simp
          rw [e1, List.length_append, List.map_append]
          have e2 : encStr xb.data.toList = .string xb := by show Value.string _ = _; rw [back]
          simp only [List.length_cons, List.length_nil, List.map_cons, List.map_nil, e2]
          exact ho
        · refine List.nodup_append.2 ⟨hnd, by simp, fun a ha b hb e => ?_⟩
          simp at hb
          rw [e, hb] at ha
          have := ((hT xb).1 ha).2
          rw [HX.out.2.2.2] at this
          cases this
        · rw [List.mem_append, hT y]
          simp only [List.mem_singleton]
          by_cases ey : y = xb
          · subst ey
            have := WideAt.sameKey_self (nl_key xa y)
            simp [this, HX.out.2.2.1]
          · constructor
            · rintro (⟨⟨k', hk'⟩, hl⟩ | q)
              · exact ⟨⟨k', hk'⟩, by rw [same y k' hk' (fun q => ey q.2)]; exact hl⟩
              · exact absurd q ey
            · rintro ⟨⟨k', hk'⟩, hl⟩
              exact .inl ⟨⟨k', hk'⟩, by rw [← same y k' hk' (fun q => ey q.2)]; exact hl⟩
        · have := HR1.out.2.1
          rw [List.length_append]
          simp only [List.length_cons, List.length_nil]
          omega
        · have b := HB0.out.2
          exact ⟨hg.os.trans b.os, hg.tape.trans b.tape, hg.output.trans b.output, Nat.le_trans b.size hg.size, fun k hk => (hg.block k (Nat.lt_of_lt_of_le hk b.size) (row_ne_low HRw1.out hk)).trans (b.block k hk)⟩
        · rw [hrgE.left_eq, HRg.out.left_eq]
          exact HR1.out.2.1
      have HNe : Hid (xa ≠ sp → Listing w n bc f sp r D u5 (w1.alloc (.cells #[.string xa, .string xb] 78)) ∧ (w1.alloc (.cells #[.string xa, .string xb] 78)).rangeLeft bc r < wr.rangeLeft bc r) := fun hne => by
        have hrgE := HR1.out.1.alloc (.cells #[.string xa, .string xb] 78)
        obtain ⟨_, hnd, hT, hcn, _⟩ := HRow.out
        refine ⟨⟨_, _, T, hrgE, by rw [← HSS.out.1]; exact hrow1.alloc _, hnd, fun y => ?_, by have := HR1.out.2.1; omega, HB0.out.1⟩, ?_⟩
        · rw [hT y]
          constructor
          · rintro ⟨⟨k', hk'⟩, hl⟩
            exact ⟨⟨k', hk'⟩, by rw [same y k' hk' (fun q => hne q.1.symm)]; exact hl⟩
          · rintro ⟨⟨k', hk'⟩, hl⟩
            exact ⟨⟨k', hk'⟩, by rw [← same y k' hk' (fun q => hne q.1.symm)]; exact hl⟩
        · rw [hrgE.left_eq, HRg.out.left_eq]
          exact HR1.out.2.1
      have HLn : Hid (ss.length + 1 ≤ maxLen ∧ (ss.length + 1) * 16 ≤ 140737488355328 ∧ w.heap.size ≤ ((w1.alloc (.cells #[.string xa, .string xb] 78)).alloc (.cells #[.string xb] 9)).heap.size) := by
        have q1 := HSS.out.2
        have q2 := HRow.out.2.2.2.1
        have q3 := HNn.out
        have q4 := HR1.out.2.1
        exact ⟨by unfold maxLen; omega, by omega, HB0.out.2.size⟩
      have HNew : Hid (∀ j u, ([.string xb] : List Value)[j]? = some u → ((w1.alloc (.cells #[.string xa, .string xb] 78)).alloc (.cells #[.string xb] 9)).cell? ((⟨w1.heap.size + 1, 0, none⟩ : Addr).add j) = some u) := fun j u hu => by
        have e1 : w1.heap.size + 1 = (w1.alloc (.cells #[.string xa, .string xb] 78)).heap.size := by simp
        rw [e1]
        match j, hu with
        | 0, hu => exact (World.cell?_alloc_mark _ _ _ _ 0).trans (by simpa using hu)
        | j + 1, hu => simp at hu
      obtain ⟨i, hi, he⟩ := Option.map_eq_some_iff.1 infoStr
      simp only [Prod.mk.injEq] at he
      have HI : Hid (Try.prog.info? 9 = some i ∧ i.zero = some (.string ⟨#[]⟩) ∧ i.size = 1 ∧ i.bytes = 16) := ⟨hi, he.1, he.2.1, he.2.2⟩
      clear hi he same hne1 hrow1 b1
      have hen' : (Instr.entry (.pointer (some ⟨r, 0, none⟩))).run Try.prog w1 = .ok (.tuple #[.agg #[.string xa, .string xb], .pointer (some ⟨k, 0, none⟩)]) w1 := hen
      try unfold mkN
      try unfold mkP
      clear hen hkey hlk hRv hat hrg1 hlt hg1 hs1 hxx hrg hk
      by_cases heq : xa = sp
      · have hbe : (xa.toList == sp.toList) = true := by rw [beqB]; exact decide_eq_true heq
        have Heq : Hid (xa = sp) := heq
        clear heq
        go_wp2_with (first
          | (at_builtin; refine wpList_append_own_at _ rfl (.tmp 23) (.tmp 26) 25 rfl w.heap.size 9 i (.string ⟨#[]⟩) 1 16 Try.underlying25 HI.out.1 HI.out.2.1 HI.out.2.2.1 HI.out.2.2.2 rfl (by decide) u5 ss.length (ss.map encStr) rfl HRw1.out ⟨w1.heap.size + 1, 0, none⟩ 1 1 [.string xb] rfl rfl HNew.out (by intro u hu; simp at hu; subst hu; rfl) HLn.out.1 HLn.out.2.1 HLn.out.2.2 ?qnext)
          | go_in)
        case qnext =>
          intro v' w' ho hg _ _
          have HE : Hid _ := HAp.out Heq.out v' w' ho hg
          clear ho hg
          try go_frame
          go_wp2
          go_roundw
          case rel => exact HE.out.1
          case measure => exact HE.out.2
      · have hbe : (xa.toList == sp.toList) = false := by rw [beqB]; exact decide_eq_false heq
        have Heq : Hid (xa ≠ sp) := heq
        clear heq
        go_wp2_with go_in
        go_roundw
        case rel => exact (HNe.out Heq.out).1
        case measure => exact (HNe.out Heq.out).2
end
end Go.Proofs.Ytkioeahlajjmiaa
