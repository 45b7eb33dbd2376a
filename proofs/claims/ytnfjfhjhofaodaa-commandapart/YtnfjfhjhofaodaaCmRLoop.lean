/-
  walk, where fields are read: the loop.
-/
import Derived.Test.YtnfjfhjhofaodaaCmRTruth
import Derived.Test.YtnfjfhjhofaodaaCmWalkW
namespace Go.Proofs.Ytnfjfhjhofaodaa
open Go.RowKit

theorem Elems.keptC {w w' : World} {eb : Nat} {fs : List Fd} (h : Elems w eb fs) {S : Nat → Nat → Prop} (hk : KeptC S w w') (hn : ∀ o, ¬ S eb o) : Elems w' eb fs := by
  have := h.lt
  unfold Elems
  rw [hk.block eb this hn]
  exact h

theorem ROut.from {w w1 w' : World} {R : Nat} {S : Nat → Nat → Prop} {x : Option (List (Cm.K × Cm.V) × List UInt8)} {H : World → List (Cm.K × Cm.V) → Prop} {e : Ending} (hb : Below w.heap.size w w1) (h : ROut w1 R S x H e w') : ROut w R S x H e w' :=
  ⟨(KeptC.of_below hb).trans h.1 (fun _ _ _ x => x), h.2⟩

set_option maxHeartbeats 4000000 in
set_option maxRecDepth 100000 in
theorem walk_r {fs : List Fd} {qs : List Rf} (hlen : qs.length = fs.length) (hF : ∀ (k : Nat) (f : Fd) (q : Rf), fs[k]? = some f → qs[k]? = some q → FR f q) (hok : ∀ q ∈ qs, q.Ok) (hap : ∀ (i j : Nat) (q r : Rf), i ≠ j → qs[i]? = some q → qs[j]? = some r → ∀ c p, q.S c p → ¬ r.S c p) (hsm : fs.length < 1000) : RWalkC fs (seqR qs) := by
  intro w R s eb hr hE h1 hz hR hEb hl
  obtain ⟨n, hn⟩ : ∃ n, n = fs.length := ⟨_, rfl⟩
  rw [← hn] at hlen hsm ⊢
  have HE := hidden hE
  have HO := hidden (Ry.start hr hz hR hl hok hap)
  have HF := hidden hF
  have HNL := hidden hn
  have HPL := hidden hlen
  have HD := hidden (And.intro h1 hEb)
  have HX := hidden (Elems.lt hE)
  clear hE hF hn hlen h1 hEb hl hz hR hr hok hap
  have m1 := m_rnum
  have m2 := m_rtext
  unfold rdV
  go_enter Try.func43, Try.ntmps43
  go_wp2
  go_loopw [16] (fun i wr => ∃ k : Nat, i = .int .i64 (k : Int) ∧ k ≤ n ∧ Hid (Ry w wr R s.data.toList qs k))
    (fun i _ => n - (intOf i).toNat)
  case atStart => exact ⟨0, rfl, Nat.zero_le _, HO⟩
  case round =>
    obtain ⟨k, rfl, hkn, Hy⟩ := hrel
    by_cases hlt : k < n
    · obtain ⟨f, hf⟩ : ∃ f, fs[k]? = some f := ⟨fs[k]'(by rw [← HNL.out]; exact hlt), List.getElem?_eq_getElem _⟩
      obtain ⟨q, hq0⟩ : ∃ q, qs[k]? = some q := ⟨qs[k]'(by rw [HPL.out]; exact hlt), List.getElem?_eq_getElem _⟩
      have HFR := hidden (HF.out k f q hf hq0)
      obtain ⟨vs0, t0, hd0, hr0, hh0⟩ := Hy.out.out
      have hmem : q ∈ qs := List.mem_of_getElem? hq0
      have hcell : wr.cell? ⟨eb, k, none⟩ = some f.val := (HE.out.keptC Hy.out.kept (by rintro o (x | ⟨q, hq, x⟩); exact HD.out.1 x; exact HD.out.2 o ⟨q, hq, x⟩)).cell hf
      have HQ0 := hidden hq0
      have HD0 := hidden hd0
      have HR0 := hidden hr0
      have HH0 := hidden hh0
      have HZ0 := hidden (Hy.out.zero k q (Nat.le_refl _) hq0)
      have HFar := hidden (Hy.out.far q hmem)
      have HLow := hidden (Hy.out.low q hmem)
      have HSz := hidden Hy.out.kept.size
      clear hf hq0 hd0 hr0 hh0 hmem
      rcases f with ⟨b, o⟩ | ⟨b, o⟩ | ⟨b, o⟩ | ⟨b, o⟩ | ⟨b, o⟩ | ⟨b, o⟩ | ⟨t, b, o⟩
      · skip
        have th := ta_hit_int
        have hqe : q = qNum b o := HFR.out
        subst hqe
        obtain ⟨⟨v0, hc0⟩, hz0⟩ := HZ0.out
        have hbR : b ≠ R := fun e => HFar.out o ⟨e.symm, rfl⟩
        unfold Fd.val at hcell
        simp only at hcell
        cases hq : (qNum b o).D t0.data.toList with
        | none =>
          have hn := (show Calls _ _ _ _ (ROut wr R (qNum b o).S ((qNum b o).D t0.data.toList) ((qNum b o).H w.heap.size)) from rd_number HR0.out b o hc0 hz0 hbR Cm.mI)
          rw [hq] at hn
          have HN := hidden hn
          have HQ := hidden hq
          clear hn hq
          go_wp2_with (go_at_call 94; refine (HN.out).mono ?_; rintro e w2 ⟨hk2, t, u, rfl⟩)
          exact ⟨rfl, Hy.out.panic HQ0.out HD0.out HQ.out hk2⟩
        | some p1 =>
          obtain ⟨a1, r1⟩ := p1
          have hn := (show Calls _ _ _ _ (ROut wr R (qNum b o).S ((qNum b o).D t0.data.toList) ((qNum b o).H w.heap.size)) from rd_number HR0.out b o hc0 hz0 hbR Cm.mI)
          rw [hq] at hn
          have HN := hidden hn
          have HQ := hidden hq
          clear hn hq
          go_wp2_with (go_at_call 94; refine (HN.out).mono ?_; rintro e w2 ⟨hk2, rfl, ⟨t2, ht2, hr2⟩, hhf⟩; have HHf := hidden hhf; clear hhf)
          go_roundw
          case rel => exact ⟨k + 1, by go_num, hlt, hidden (Hy.out.step HQ0.out HD0.out HH0.out HQ.out ht2 hr2 HSz.out HHf.out hk2)⟩
          case measure => simp [intOf]; omega
      · skip
        have th := ta_hit_errno
        have g0 := ta_errno_not_int
        have hqe : q = qNum b o := HFR.out
        subst hqe
        obtain ⟨⟨v0, hc0⟩, hz0⟩ := HZ0.out
        have hbR : b ≠ R := fun e => HFar.out o ⟨e.symm, rfl⟩
        have hcd : (qNum b o).D t0.data.toList = Cm.dec [.n 1099511627776] t0.data.toList := rfl
        unfold Fd.val at hcell
        simp only at hcell
        cases hq : (qNum b o).D t0.data.toList with
        | none =>
          have hn := rd_own HR0.out v0 hc0 hz0 hbR 1099511627776
          have hqd : (qNum b o).D t0.data.toList = Cm.dec [.n 1099511627776] t0.data.toList := rfl
          rw [← hqd] at hn
          rw [hq] at hn
          have HN := hidden hn
          have HQ := hidden hq
          clear hn hq
          go_wp2_with (go_at_call 94; refine (HN.out).mono ?_; rintro e w2 ⟨⟨t, u, rfl⟩, hk2⟩)
          exact ⟨rfl, Hy.out.panic HQ0.out HD0.out HQ.out hk2⟩
        | some p1 =>
          obtain ⟨a1, r1⟩ := p1
          have hn := rd_own HR0.out v0 hc0 hz0 hbR 1099511627776
          have hqd : (qNum b o).D t0.data.toList = Cm.dec [.n 1099511627776] t0.data.toList := rfl
          rw [← hqd] at hn
          rw [hq] at hn
          have HN := hidden hn
          have HQ := hidden hq
          clear hn hq
          go_wp2_with (go_at_call 94; refine (HN.out).mono ?_; rintro e w2 ⟨rfl, v, hv, c1, c2, z2, hf⟩; have HV := hidden hv; have HFF := hidden hf; clear hv hf)
          obtain ⟨hk2, k2, t2, ht2, hr2⟩ := HFF.out (.int .i64 v)
          have HHf : Hid ((qNum b o).H w.heap.size (w2.setCell ⟨b, o, none⟩ (.int .i64 v)) a1) := ⟨v, HV.out, k2⟩
          go_roundw
          case rel => exact ⟨k + 1, by go_num, hlt, hidden (Hy.out.step HQ0.out HD0.out HH0.out HQ.out ht2 hr2 HSz.out HHf.out hk2)⟩
          case measure => simp [intOf]; omega
      · skip
        have th := ta_hit_bool
        have g0 := ta_bool_not_int
        have g1 := ta_bool_not_errno
        have hqe : q = qBool b o := HFR.out
        subst hqe
        obtain ⟨hc0, hz0⟩ := HZ0.out
        have hbR : b ≠ R := fun e => HFar.out o ⟨e.symm, rfl⟩
        unfold Fd.val at hcell
        simp only at hcell
        cases hq : (qBool b o).D t0.data.toList with
        | none =>
          have hn := walkTruth_r HR0.out b o hc0 hz0 hbR w.heap.size
          rw [hq] at hn
          have HN := hidden hn
          have HQ := hidden hq
          clear hn hq
          go_wp2_with (go_at_call 52; refine (HN.out).mono ?_; rintro e w2 ⟨hk2, t, u, rfl⟩)
          exact ⟨rfl, Hy.out.panic HQ0.out HD0.out HQ.out hk2⟩
        | some p1 =>
          obtain ⟨a1, r1⟩ := p1
          have hn := walkTruth_r HR0.out b o hc0 hz0 hbR w.heap.size
          rw [hq] at hn
          have HN := hidden hn
          have HQ := hidden hq
          clear hn hq
          go_wp2_with (go_at_call 52; refine (HN.out).mono ?_; rintro e w2 ⟨hk2, rfl, ⟨t2, ht2, hr2⟩, hhf⟩; have HHf := hidden hhf; clear hhf)
          go_roundw
          case rel => exact ⟨k + 1, by go_num, hlt, hidden (Hy.out.step HQ0.out HD0.out HH0.out HQ.out ht2 hr2 HSz.out HHf.out hk2)⟩
          case measure => simp [intOf]; omega
      · skip
        have th := ta_hit_str
        have g0 := ta_str_not_int
        have g1 := ta_str_not_errno
        have g2 := ta_str_not_bool
        have hqe : q = qStr b o := HFR.out
        subst hqe
        obtain ⟨⟨x0, hc0⟩, hz0⟩ := HZ0.out
        have hbR : b ≠ R := fun e => HFar.out o ⟨e.symm, rfl⟩
        unfold Fd.val at hcell
        simp only at hcell
        cases hq : (qStr b o).D t0.data.toList with
        | none =>
          have hn := (show Calls _ _ _ _ (ROut wr R (qStr b o).S ((qStr b o).D t0.data.toList) ((qStr b o).H w.heap.size)) from rd_text HR0.out b o hc0 hz0 hbR)
          rw [hq] at hn
          have HN := hidden hn
          have HQ := hidden hq
          clear hn hq
          go_wp2_with (go_at_call 95; refine (HN.out).mono ?_; rintro e w2 ⟨hk2, t, u, rfl⟩)
          exact ⟨rfl, Hy.out.panic HQ0.out HD0.out HQ.out hk2⟩
        | some p1 =>
          obtain ⟨a1, r1⟩ := p1
          have hn := (show Calls _ _ _ _ (ROut wr R (qStr b o).S ((qStr b o).D t0.data.toList) ((qStr b o).H w.heap.size)) from rd_text HR0.out b o hc0 hz0 hbR)
          rw [hq] at hn
          have HN := hidden hn
          have HQ := hidden hq
          clear hn hq
          go_wp2_with (go_at_call 95; refine (HN.out).mono ?_; rintro e w2 ⟨hk2, rfl, ⟨t2, ht2, hr2⟩, hhf⟩; have HHf := hidden hhf; clear hhf)
          go_roundw
          case rel => exact ⟨k + 1, by go_num, hlt, hidden (Hy.out.step HQ0.out HD0.out HH0.out HQ.out ht2 hr2 HSz.out HHf.out hk2)⟩
          case measure => simp [intOf]; omega
      · skip
        have th := ta_hit_ents
        have g0 := ta_ents_not_int
        have g1 := ta_ents_not_errno
        have g2 := ta_ents_not_bool
        have g3 := ta_ents_not_str
        unfold Fd.val at hcell
        simp only at hcell
        cases hq : q.D t0.data.toList with
        | none =>
          have hn := HFR.out wr R t0 HR0.out HZ0.out HFar.out (fun c p x => Nat.lt_of_lt_of_le (HLow.out c p x) HSz.out)
          rw [hq] at hn
          have HN := hidden hn
          have HQ := hidden hq
          clear hn hq
          go_wp2_with (go_at_call 53; refine (HN.out).mono ?_; rintro e w2 ⟨hk2, t, u, rfl⟩)
          exact ⟨rfl, Hy.out.panic HQ0.out HD0.out HQ.out hk2⟩
        | some p1 =>
          obtain ⟨a1, r1⟩ := p1
          have hn := HFR.out wr R t0 HR0.out HZ0.out HFar.out (fun c p x => Nat.lt_of_lt_of_le (HLow.out c p x) HSz.out)
          rw [hq] at hn
          have HN := hidden hn
          have HQ := hidden hq
          clear hn hq
          go_wp2_with (go_at_call 53; refine (HN.out).mono ?_; rintro e w2 ⟨hk2, rfl, ⟨t2, ht2, hr2⟩, hhf⟩; have HHf := hidden hhf; clear hhf)
          go_roundw
          case rel => exact ⟨k + 1, by go_num, hlt, hidden (Hy.out.step HQ0.out HD0.out HH0.out HQ.out ht2 hr2 HSz.out HHf.out hk2)⟩
          case measure => simp [intOf]; omega
      · skip
        have th := ta_hit_posts
        have g0 := ta_posts_not_int
        have g1 := ta_posts_not_errno
        have g2 := ta_posts_not_bool
        have g3 := ta_posts_not_str
        have g4 := ta_posts_not_ents
        unfold Fd.val at hcell
        simp only at hcell
        cases hq : q.D t0.data.toList with
        | none =>
          have hn := HFR.out wr R t0 HR0.out HZ0.out HFar.out (fun c p x => Nat.lt_of_lt_of_le (HLow.out c p x) HSz.out)
          rw [hq] at hn
          have HN := hidden hn
          have HQ := hidden hq
          clear hn hq
          go_wp2_with (go_at_call 54; refine (HN.out).mono ?_; rintro e w2 ⟨hk2, t, u, rfl⟩)
          exact ⟨rfl, Hy.out.panic HQ0.out HD0.out HQ.out hk2⟩
        | some p1 =>
          obtain ⟨a1, r1⟩ := p1
          have hn := HFR.out wr R t0 HR0.out HZ0.out HFar.out (fun c p x => Nat.lt_of_lt_of_le (HLow.out c p x) HSz.out)
          rw [hq] at hn
          have HN := hidden hn
          have HQ := hidden hq
          clear hn hq
          go_wp2_with (go_at_call 54; refine (HN.out).mono ?_; rintro e w2 ⟨hk2, rfl, ⟨t2, ht2, hr2⟩, hhf⟩; have HHf := hidden hhf; clear hhf)
          go_roundw
          case rel => exact ⟨k + 1, by go_num, hlt, hidden (Hy.out.step HQ0.out HD0.out HH0.out HQ.out ht2 hr2 HSz.out HHf.out hk2)⟩
          case measure => simp [intOf]; omega
      · skip
        unfold Fd.val at hcell
        simp only at hcell
        have hEl : Elems ((wr.alloc (.cells ((fields b o t).map Fd.val).toArray 20)).drew) wr.heap.size (fields b o t) := heap_alloc_new _ _
        have HA : Hid (Below wr.heap.size wr ((wr.alloc (.cells ((fields b o t).map Fd.val).toArray 20)).drew)) := (alloc_below wr _).drew
        have hRl := HR0.out.lt
        have hR2 : Rd ((wr.alloc (.cells ((fields b o t).map Fd.val).toArray 20)).drew) R t0 := ⟨by rw [HA.out.block R hRl]; exact HR0.out.1, HR0.out.2⟩
        have HFO : Hid (Calls Try.prog 55 #[.iface t.ty (.pointer (some ⟨b, o, none⟩))] wr fun e w' => e = .returned (.slice (some ⟨wr.heap.size, 0, none⟩) (fields b o t).length (fields b o t).length) ∧ w' = (wr.alloc (.cells ((fields b o t).map Fd.val).toArray 20)).drew) := fieldsOf_c t b o wr
        have g0 : ∀ (v : Value) (w : World), (Instr.typeAssert (.iface t.ty v) 20 113 true).run Try.prog w = .ok (.tuple #[.pointer none, .bool false]) w := by rcases t with _ | _ | _ | _ | _ | _ | _ <;> first | exact ta_id_not_int | exact ta_op_not_int | exact ta_cmd_not_int | exact ta_ent_not_int | exact ta_msg_not_int | exact ta_post_not_int | exact ta_reply_not_int
        have g1 : ∀ (v : Value) (w : World), (Instr.typeAssert (.iface t.ty v) 20 115 true).run Try.prog w = .ok (.tuple #[.pointer none, .bool false]) w := by rcases t with _ | _ | _ | _ | _ | _ | _ <;> first | exact ta_id_not_errno | exact ta_op_not_errno | exact ta_cmd_not_errno | exact ta_ent_not_errno | exact ta_msg_not_errno | exact ta_post_not_errno | exact ta_reply_not_errno
        have g2 : ∀ (v : Value) (w : World), (Instr.typeAssert (.iface t.ty v) 20 116 true).run Try.prog w = .ok (.tuple #[.pointer none, .bool false]) w := by rcases t with _ | _ | _ | _ | _ | _ | _ <;> first | exact ta_id_not_bool | exact ta_op_not_bool | exact ta_cmd_not_bool | exact ta_ent_not_bool | exact ta_msg_not_bool | exact ta_post_not_bool | exact ta_reply_not_bool
        have g3 : ∀ (v : Value) (w : World), (Instr.typeAssert (.iface t.ty v) 20 118 true).run Try.prog w = .ok (.tuple #[.pointer none, .bool false]) w := by rcases t with _ | _ | _ | _ | _ | _ | _ <;> first | exact ta_id_not_str | exact ta_op_not_str | exact ta_cmd_not_str | exact ta_ent_not_str | exact ta_msg_not_str | exact ta_post_not_str | exact ta_reply_not_str
        have g4 : ∀ (v : Value) (w : World), (Instr.typeAssert (.iface t.ty v) 20 120 true).run Try.prog w = .ok (.tuple #[.pointer none, .bool false]) w := by rcases t with _ | _ | _ | _ | _ | _ | _ <;> first | exact ta_id_not_ents | exact ta_op_not_ents | exact ta_cmd_not_ents | exact ta_ent_not_ents | exact ta_msg_not_ents | exact ta_post_not_ents | exact ta_reply_not_ents
        have g5 : ∀ (v : Value) (w : World), (Instr.typeAssert (.iface t.ty v) 20 124 true).run Try.prog w = .ok (.tuple #[.pointer none, .bool false]) w := by rcases t with _ | _ | _ | _ | _ | _ | _ <;> first | exact ta_id_not_posts | exact ta_op_not_posts | exact ta_cmd_not_posts | exact ta_ent_not_posts | exact ta_msg_not_posts | exact ta_post_not_posts | exact ta_reply_not_posts
        obtain ⟨len, hlen⟩ : ∃ len, len = (fields b o t).length := ⟨_, rfl⟩
        have hZ2 := (Hy.out.ok q (List.mem_of_getElem? HQ0.out)).z (fun _ _ => False) _ _ HZ0.out (KeptC.of_below HA.out) (fun _ _ _ => id)
        have hn0 := HFR.out _ R t0 wr.heap.size hR2 hEl (by omega) hZ2 HFar.out (fun o x => by have a1 := HLow.out _ o x; have a2 := HSz.out; omega) (fun c p x => by
          have a1 := HLow.out c p x
          have a2 := HSz.out
          have a3 := HA.out.size
          omega)
        have HS2 : Hid (w.heap.size ≤ ((wr.alloc (.cells ((fields b o t).map Fd.val).toArray 20)).drew).heap.size) := Nat.le_trans HSz.out HA.out.size
        unfold rdV at hn0
        rw [← hlen] at hn0 HFO
        obtain ⟨ty, hty⟩ : ∃ ty, ty = t.ty := ⟨_, rfl⟩
        rw [← hty] at g0 g1 g2 g3 g4 g5 hcell HFO
        obtain ⟨row, hrow⟩ : ∃ row, row = ((fields b o t).map Fd.val).toArray := ⟨_, rfl⟩
        rw [← hrow] at hn0 HFO HA HS2
        clear hlen hty hrow hEl hR2 hZ2 hRl
        cases hq : q.D t0.data.toList with
        | none =>
          rw [hq] at hn0
          have HN := hidden hn0
          have HQ := hidden hq
          clear hn0 hq
          go_wp2_with (first | (go_at_call 55; refine (HFO.out).mono ?_; rintro e w2 ⟨rfl, rfl⟩) | (go_at_call 43; refine (HN.out).mono ?_; rintro e w2 ⟨hk2, t, u, rfl⟩))
          exact ⟨rfl, Hy.out.panic HQ0.out HD0.out HQ.out ((KeptC.of_below HA.out).trans hk2 (fun _ _ _ x => x))⟩
        | some p1 =>
          obtain ⟨a1, r1⟩ := p1
          rw [hq] at hn0
          have HN := hidden hn0
          have HQ := hidden hq
          clear hn0 hq
          go_wp2_with (first | (go_at_call 55; refine (HFO.out).mono ?_; rintro e w2 ⟨rfl, rfl⟩) | (go_at_call 43; refine (HN.out).mono ?_; rintro e w2 ⟨hk2, rfl, ⟨t2, ht2, hr2⟩, hhf⟩; have HHf := hidden hhf; clear hhf))
          go_roundw
          case rel => exact ⟨k + 1, by go_num, hlt, hidden (Hy.out.step HQ0.out HD0.out HH0.out HQ.out ht2 hr2 HS2.out HHf.out ((KeptC.of_below HA.out).trans hk2 (fun _ _ _ x => x)))⟩
          case measure => simp [intOf]; omega
    · obtain rfl : k = n := by omega
      go_wp2
      go_end0
      have he : Ry w wr R s.data.toList qs qs.length := by rw [HPL.out]; exact Hy.out
      exact he.end_

end Go.Proofs.Ytnfjfhjhofaodaa
