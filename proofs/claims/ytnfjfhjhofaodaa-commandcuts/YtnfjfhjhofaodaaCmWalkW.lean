/-
  walk, where fields go into bytes: the loop.
-/
import Derived.Test.YtnfjfhjhofaodaaCmWalk
namespace Go.Proofs.Ytnfjfhjhofaodaa
open Go.RowKit

theorem Elems.cell {w : World} {eb : Nat} {fs : List Fd} (h : Elems w eb fs) {k : Nat} {f : Fd} (hk : fs[k]? = some f) : w.cell? ⟨eb, k, none⟩ = some f.val := by
  rw [Lib.cell_of_heap h]
  simp [hk]

theorem Elems.lt {w : World} {eb : Nat} {fs : List Fd} (h : Elems w eb fs) : eb < w.heap.size := by
  rcases Nat.lt_or_ge eb w.heap.size with x | x
  · exact x
  · unfold Elems at h; rw [Array.getElem?_eq_none x] at h; cases h

theorem Elems.kept {w w' : World} {eb : Nat} {fs : List Fd} (h : Elems w eb fs) {own : Nat → Prop} (hk : KeptO own w w') (hn : ¬ own eb) : Elems w' eb fs := by
  have := h.lt
  unfold Elems
  rw [hk.block eb this hn]
  exact h

set_option maxHeartbeats 4000000 in
set_option maxRecDepth 100000 in
theorem walk_w {w0 : World} {fs : List Fd} {pss : List (List (Cm.K × Cm.V))} (hlen : pss.length = fs.length) (hF : ∀ (k : Nat) (f : Fd) (p : List (Cm.K × Cm.V)), fs[k]? = some f → pss[k]? = some p → FW w0 f p) (hs : Cm.small pss.flatten) (hsm : fs.length < 1000) : WalkC w0 fs pss.flatten := by
  intro w B g l eb hb hw hB hg hE h1 h2 hl
  obtain ⟨n, hn⟩ : ∃ n, n = fs.length := ⟨_, rfl⟩
  rw [← hn] at hlen hsm ⊢
  have HE := hidden hE
  have HO := hidden (Wy.start hb hw hB hg hs hl)
  have HF := hidden hF
  have HNL := hidden hn
  have HPL := hidden hlen
  have HD := hidden (And.intro h1 h2)
  have HX := hidden (Elems.lt hE)
  clear hE hF hn hlen h1 h2 hl hs hg hB hw hb
  have m1 := m_wnum
  have m2 := m_wtext
  unfold wrV
  go_enter Try.func43, Try.ntmps43
  go_wp2
  go_loopw [16] (fun i wr => ∃ k : Nat, i = .int .i64 (k : Int) ∧ k ≤ n ∧ Hid (Wy w0 w wr B g l pss k))
    (fun i _ => n - (intOf i).toNat)
  case atStart => exact ⟨0, rfl, Nat.zero_le _, HO⟩
  case round =>
    obtain ⟨k, rfl, hkn, Hy⟩ := hrel
    by_cases hlt : k < n
    · obtain ⟨f, hf⟩ : ∃ f, fs[k]? = some f := ⟨fs[k]'(by rw [← HNL.out]; exact hlt), List.getElem?_eq_getElem _⟩
      obtain ⟨p, hp⟩ : ∃ p, pss[k]? = some p := ⟨pss[k]'(by rw [HPL.out]; exact hlt), List.getElem?_eq_getElem _⟩
      have HFW := hidden (HF.out k f p hf hp)
      obtain ⟨bs, g', he, hw1, hg1⟩ := Hy.out.out
      have hnb : ¬ WrO B g eb := by rintro (x | x); exact HD.out.1 x; exact HD.out.2 x
      have hcell : wr.cell? ⟨eb, k, none⟩ = some f.val := (HE.out.kept Hy.out.kept hnb).cell hf
      have HP := hidden hp
      have HEn := hidden he
      have HG := hidden hg1
      have HW := hidden hw1
      have hbl := Hy.out.below
      have hL : (l ++ bs).length + p.length * 300000 ≤ 140737486000000 := by
        have a1 := Cm.flat_len pss k hp
        have a2 := Cm.enc_len _ _ (fun q hq => Hy.out.small q (by
          rw [← List.take_append_drop k pss, List.flatten_append]
          exact List.mem_append_left _ hq)) he
        have a3 := Hy.out.len
        rw [List.length_append]
        omega
      have HL := hidden hL
      have HBL := hidden hbl
      have hg0 : ∀ j, g' = some j → w0.heap.size ≤ j := fun j hj => by
        rcases hg1 j hj with x | x
        · exact Hy.out.g0 j x
        · exact Nat.le_trans Hy.out.size x
      have HG0 := hidden hg0
      have HB0 := hidden Hy.out.b0
      clear hf hp he hw1 hg1 hnb hbl hL hg0
      rcases f with ⟨b, o⟩ | ⟨b, o⟩ | ⟨b, o⟩ | ⟨b, o⟩ | ⟨b, o⟩ | ⟨b, o⟩ | ⟨t, b, o⟩
      · skip
        have th := ta_hit_int
        obtain ⟨v, hv, hc0, hpe⟩ := HFW.out
        have HPE := hidden hpe
        clear hpe
        have hc1 : wr.cell? ⟨b, o, none⟩ = some (.int .i64 v) := by rw [HBL.out.cell (p := ⟨b, o, none⟩) (World.block_lt_of_cell? _ _ hc0)]; exact hc0
        unfold Fd.val at hcell
        simp only at hcell
        cases hq : Cm.enc1 (.n Cm.mI) (.n v) with
        | none =>
          have hn := wr_number HW.out ⟨b, o, none⟩ v hv Cm.mI hc1 (by have := HL.out; omega)
          rw [hq] at hn
          have HN := hidden hn
          have HQ : Hid (Cm.enc p = none) := by unfold Hid; rw [HPE.out, Cm.enc_one]; exact hq
          clear hn hq
          go_wp2_with (go_at_call 90; refine (HN.out).mono ?_; rintro e w2 ⟨⟨t, u, rfl⟩, hk2⟩)
          exact ⟨rfl, Hy.out.panic HP.out HEn.out HG.out HQ.out hk2⟩
        | some b1 =>
          have hn := wr_number HW.out ⟨b, o, none⟩ v hv Cm.mI hc1 (by have := HL.out; omega)
          rw [hq] at hn
          have HN := hidden hn
          have HQ : Hid (Cm.enc p = some b1) := by unfold Hid; rw [HPE.out, Cm.enc_one]; exact hq
          clear hn hq
          go_wp2_with (go_at_call 90; refine (HN.out).mono ?_; rintro e w2 ⟨rfl, g2, hw2, hk2, hg2⟩)
          go_roundw
          case rel => exact ⟨k + 1, by go_num, hlt, hidden (Hy.out.step HP.out HEn.out HG.out HQ.out hw2 hk2 hg2)⟩
          case measure => simp [intOf]; omega
      · skip
        have th := ta_hit_errno
        have t0 := ta_errno_not_int
        obtain ⟨v, hv, hc0, hz0, hpe⟩ := HFW.out
        have HPE := hidden hpe
        clear hpe
        have hlt0 := World.block_lt_of_cell? _ _ hc0
        have hlt0' : b < w0.heap.size := hlt0
        have hc1 : wr.cell? ⟨b, o, none⟩ = some (.int .i64 v) := by rw [HBL.out.cell (p := ⟨b, o, none⟩) hlt0]; exact hc0
        have hz1 : wr.frozen? ⟨b, o, none⟩ = false := by rw [HBL.out.frozen (p := ⟨b, o, none⟩) hlt0]; exact hz0
        have hltr : b < wr.heap.size := Nat.lt_of_lt_of_le hlt0' HBL.out.size
        have cN : (wr.alloc (.cells #[.int .i64 v] 3)).cell? ⟨wr.heap.size, 0, none⟩ = some (.int .i64 v) := by simp [go_sem]
        have HK : Hid (∀ w2, KeptO (WrO B g') (wr.alloc (.cells #[.int .i64 v] 3)) w2 → w2.cell? ⟨b, o, none⟩ = some (.int .i64 v) ∧ w2.frozen? ⟨b, o, none⟩ = false ∧ w2.cell? ⟨wr.heap.size, 0, none⟩ = some (.int .i64 v)) := by
          intro w2 hk2
          have hn1 : ¬ WrO B g' b := by
            rintro (x | x)
            · have := HB0.out; omega
            · have := HG0.out _ x; omega
          have hn2 : ¬ WrO B g' wr.heap.size := by
            rintro (x | x)
            · have := HW.out.lt; omega
            · have := HW.out.row_lt _ x; omega
          refine ⟨?_, ?_, ?_⟩
          · rw [hk2.cell (p := ⟨b, o, none⟩) (by simp; omega) hn1, (alloc_below wr _).cell (p := ⟨b, o, none⟩) hltr]; exact hc1
          · rw [hk2.frozen (p := ⟨b, o, none⟩) (by simp; omega) hn1, (alloc_below wr _).frozen (p := ⟨b, o, none⟩) hltr]; exact hz1
          · rw [hk2.cell (p := ⟨wr.heap.size, 0, none⟩) (by simp) hn2]; exact cN
        unfold Fd.val at hcell
        simp only at hcell
        cases hq : Cm.enc1 (.n Cm.mI) (.n v) with
        | none =>
          have hn := wr_number (HW.out.below (alloc_below wr (.cells #[.int .i64 v] 3))) ⟨wr.heap.size, 0, none⟩ v hv Cm.mI cN (by have := HL.out; omega)
          rw [hq] at hn
          have HN := hidden hn
          have HQ : Hid (Cm.enc p = none) := by unfold Hid; rw [HPE.out, Cm.enc_one]; exact hq
          clear hn hq
          go_wp2_with (go_at_call 90; refine (HN.out).mono ?_; rintro e w2 ⟨⟨t, u, rfl⟩, hk2⟩)
          replace hk2 := (KeptO.of_below (alloc_below wr (.cells #[.int .i64 v] 3))).trans hk2 (fun _ _ x => x)
          exact ⟨rfl, Hy.out.panic HP.out HEn.out HG.out HQ.out hk2⟩
        | some b1 =>
          have hn := wr_number (HW.out.below (alloc_below wr (.cells #[.int .i64 v] 3))) ⟨wr.heap.size, 0, none⟩ v hv Cm.mI cN (by have := HL.out; omega)
          rw [hq] at hn
          have HN := hidden hn
          have HQ : Hid (Cm.enc p = some b1) := by unfold Hid; rw [HPE.out, Cm.enc_one]; exact hq
          clear hn hq
          go_wp2_with (go_at_call 90; refine (HN.out).mono ?_; rintro e w2 ⟨rfl, g2, hw2, hk2, hg2⟩; obtain ⟨c1, c2, c3⟩ := HK.out w2 hk2)
          rw [setCell_same (by assumption)]
          obtain ⟨-, g2, hw2, hk2, hg2⟩ := WOut.from (alloc_below wr (.cells #[.int .i64 v] 3)) (show WOut _ B g' (l ++ bs) (some b1) (.returned (.tuple #[])) w2 from ⟨rfl, g2, hw2, hk2, hg2⟩)
          go_roundw
          case rel => exact ⟨k + 1, by go_num, hlt, hidden (Hy.out.step HP.out HEn.out HG.out HQ.out hw2 hk2 hg2)⟩
          case measure => simp [intOf]; omega
      · skip
        have th := ta_hit_bool
        have t0 := ta_bool_not_int
        have t1 := ta_bool_not_errno
        obtain ⟨t, hc0, hz0, hpe⟩ := HFW.out
        have HPE := hidden hpe
        clear hpe
        have hlt0 := World.block_lt_of_cell? _ _ hc0
        have hlt0' : b < w0.heap.size := hlt0
        have hc1 : wr.cell? ⟨b, o, none⟩ = some (.bool t) := by rw [HBL.out.cell (p := ⟨b, o, none⟩) hlt0]; exact hc0
        have hz1 : wr.frozen? ⟨b, o, none⟩ = false := by rw [HBL.out.frozen (p := ⟨b, o, none⟩) hlt0]; exact hz0
        unfold Fd.val at hcell
        simp only at hcell
        cases hq : Cm.enc1 (.n 1) (.n (if t then 1 else 0)) with
        | none =>
          have hn := walkTruth_w HW.out b o t hc1 hz1 (by have := HB0.out; omega) (fun e => by have := HG0.out _ e; omega) (by have := HL.out; omega)
          rw [hq] at hn
          have HN := hidden hn
          have HQ : Hid (Cm.enc p = none) := by unfold Hid; rw [HPE.out, Cm.enc_one]; exact hq
          clear hn hq
          go_wp2_with (go_at_call 52; refine (HN.out).mono ?_; rintro e w2 ⟨⟨t, u, rfl⟩, hk2⟩)
          exact ⟨rfl, Hy.out.panic HP.out HEn.out HG.out HQ.out hk2⟩
        | some b1 =>
          have hn := walkTruth_w HW.out b o t hc1 hz1 (by have := HB0.out; omega) (fun e => by have := HG0.out _ e; omega) (by have := HL.out; omega)
          rw [hq] at hn
          have HN := hidden hn
          have HQ : Hid (Cm.enc p = some b1) := by unfold Hid; rw [HPE.out, Cm.enc_one]; exact hq
          clear hn hq
          go_wp2_with (go_at_call 52; refine (HN.out).mono ?_; rintro e w2 ⟨rfl, g2, hw2, hk2, hg2⟩)
          go_roundw
          case rel => exact ⟨k + 1, by go_num, hlt, hidden (Hy.out.step HP.out HEn.out HG.out HQ.out hw2 hk2 hg2)⟩
          case measure => simp [intOf]; omega
      · skip
        have th := ta_hit_str
        have t0 := ta_str_not_int
        have t1 := ta_str_not_errno
        have t2 := ta_str_not_bool
        obtain ⟨s, hv, hc0, hpe⟩ := HFW.out
        have HPE := hidden hpe
        clear hpe
        have hlt0 := World.block_lt_of_cell? _ _ hc0
        have hlt0' : b < w0.heap.size := hlt0
        have hc1 : wr.cell? ⟨b, o, none⟩ = some (.string s) := by rw [HBL.out.cell (p := ⟨b, o, none⟩) hlt0]; exact hc0
        unfold Fd.val at hcell
        simp only at hcell
        cases hq : Cm.enc1 .t (.t s) with
        | none =>
          have hn := wr_text HW.out ⟨b, o, none⟩ s hv hc1 (by show b ≠ B; have := HB0.out; omega) (fun e => by have := HG0.out b e; omega) (by have := HL.out; omega)
          rw [hq] at hn
          have HN := hidden hn
          have HQ : Hid (Cm.enc p = none) := by unfold Hid; rw [HPE.out, Cm.enc_one]; exact hq
          clear hn hq
          go_wp2_with (go_at_call 91; refine (HN.out).mono ?_; rintro e w2 ⟨⟨t, u, rfl⟩, hk2⟩)
          exact ⟨rfl, Hy.out.panic HP.out HEn.out HG.out HQ.out hk2⟩
        | some b1 =>
          have hn := wr_text HW.out ⟨b, o, none⟩ s hv hc1 (by show b ≠ B; have := HB0.out; omega) (fun e => by have := HG0.out b e; omega) (by have := HL.out; omega)
          rw [hq] at hn
          have HN := hidden hn
          have HQ : Hid (Cm.enc p = some b1) := by unfold Hid; rw [HPE.out, Cm.enc_one]; exact hq
          clear hn hq
          go_wp2_with (go_at_call 91; refine (HN.out).mono ?_; rintro e w2 ⟨rfl, g2, hw2, hk2, hg2⟩)
          go_roundw
          case rel => exact ⟨k + 1, by go_num, hlt, hidden (Hy.out.step HP.out HEn.out HG.out HQ.out hw2 hk2 hg2)⟩
          case measure => simp [intOf]; omega
      · skip
        have th := ta_hit_ents
        have t0 := ta_ents_not_int
        have t1 := ta_ents_not_errno
        have t2 := ta_ents_not_bool
        have t3 := ta_ents_not_str
        unfold Fd.val at hcell
        simp only at hcell
        cases hq : Cm.enc p with
        | none =>
          have hn := HFW.out wr B g' (l ++ bs) HBL.out HW.out HB0.out HG0.out HL.out
          rw [hq] at hn
          have HN := hidden hn
          have HQ : Hid (Cm.enc p = none) := hq
          clear hn hq
          go_wp2_with (go_at_call 53; refine (HN.out).mono ?_; rintro e w2 ⟨⟨t, u, rfl⟩, hk2⟩)
          exact ⟨rfl, Hy.out.panic HP.out HEn.out HG.out HQ.out hk2⟩
        | some b1 =>
          have hn := HFW.out wr B g' (l ++ bs) HBL.out HW.out HB0.out HG0.out HL.out
          rw [hq] at hn
          have HN := hidden hn
          have HQ : Hid (Cm.enc p = some b1) := hq
          clear hn hq
          go_wp2_with (go_at_call 53; refine (HN.out).mono ?_; rintro e w2 ⟨rfl, g2, hw2, hk2, hg2⟩)
          go_roundw
          case rel => exact ⟨k + 1, by go_num, hlt, hidden (Hy.out.step HP.out HEn.out HG.out HQ.out hw2 hk2 hg2)⟩
          case measure => simp [intOf]; omega
      · skip
        have th := ta_hit_posts
        have t0 := ta_posts_not_int
        have t1 := ta_posts_not_errno
        have t2 := ta_posts_not_bool
        have t3 := ta_posts_not_str
        have t4 := ta_posts_not_ents
        unfold Fd.val at hcell
        simp only at hcell
        cases hq : Cm.enc p with
        | none =>
          have hn := HFW.out wr B g' (l ++ bs) HBL.out HW.out HB0.out HG0.out HL.out
          rw [hq] at hn
          have HN := hidden hn
          have HQ : Hid (Cm.enc p = none) := hq
          clear hn hq
          go_wp2_with (go_at_call 54; refine (HN.out).mono ?_; rintro e w2 ⟨⟨t, u, rfl⟩, hk2⟩)
          exact ⟨rfl, Hy.out.panic HP.out HEn.out HG.out HQ.out hk2⟩
        | some b1 =>
          have hn := HFW.out wr B g' (l ++ bs) HBL.out HW.out HB0.out HG0.out HL.out
          rw [hq] at hn
          have HN := hidden hn
          have HQ : Hid (Cm.enc p = some b1) := hq
          clear hn hq
          go_wp2_with (go_at_call 54; refine (HN.out).mono ?_; rintro e w2 ⟨rfl, g2, hw2, hk2, hg2⟩)
          go_roundw
          case rel => exact ⟨k + 1, by go_num, hlt, hidden (Hy.out.step HP.out HEn.out HG.out HQ.out hw2 hk2 hg2)⟩
          case measure => simp [intOf]; omega
      · skip
        unfold Fd.val at hcell
        simp only at hcell
        have hEl : Elems ((wr.alloc (.cells ((fields b o t).map Fd.val).toArray 20)).drew) wr.heap.size (fields b o t) := heap_alloc_new _ _
        have hW2 : Wr ((wr.alloc (.cells ((fields b o t).map Fd.val).toArray 20)).drew) B g' (l ++ bs) := (HW.out.below (alloc_below wr _).drew)
        have hBe : Below w0.heap.size w0 ((wr.alloc (.cells ((fields b o t).map Fd.val).toArray 20)).drew) := (HBL.out.alloc HBL.out.size _).drew
        have HFO : Hid (Calls Try.prog 55 #[.iface t.ty (.pointer (some ⟨b, o, none⟩))] wr fun e w' => e = .returned (.slice (some ⟨wr.heap.size, 0, none⟩) (fields b o t).length (fields b o t).length) ∧ w' = (wr.alloc (.cells ((fields b o t).map Fd.val).toArray 20)).drew) := fieldsOf_c t b o wr
        have HA : Hid (Below wr.heap.size wr ((wr.alloc (.cells ((fields b o t).map Fd.val).toArray 20)).drew)) := (alloc_below wr _).drew
        have t0 : ∀ (v : Value) (w : World), (Instr.typeAssert (.iface t.ty v) 20 113 true).run Try.prog w = .ok (.tuple #[.pointer none, .bool false]) w := by rcases t with _ | _ | _ | _ | _ | _ | _ <;> first | exact ta_id_not_int | exact ta_op_not_int | exact ta_cmd_not_int | exact ta_ent_not_int | exact ta_msg_not_int | exact ta_post_not_int | exact ta_reply_not_int
        have t1 : ∀ (v : Value) (w : World), (Instr.typeAssert (.iface t.ty v) 20 115 true).run Try.prog w = .ok (.tuple #[.pointer none, .bool false]) w := by rcases t with _ | _ | _ | _ | _ | _ | _ <;> first | exact ta_id_not_errno | exact ta_op_not_errno | exact ta_cmd_not_errno | exact ta_ent_not_errno | exact ta_msg_not_errno | exact ta_post_not_errno | exact ta_reply_not_errno
        have t2 : ∀ (v : Value) (w : World), (Instr.typeAssert (.iface t.ty v) 20 116 true).run Try.prog w = .ok (.tuple #[.pointer none, .bool false]) w := by rcases t with _ | _ | _ | _ | _ | _ | _ <;> first | exact ta_id_not_bool | exact ta_op_not_bool | exact ta_cmd_not_bool | exact ta_ent_not_bool | exact ta_msg_not_bool | exact ta_post_not_bool | exact ta_reply_not_bool
        have t3 : ∀ (v : Value) (w : World), (Instr.typeAssert (.iface t.ty v) 20 118 true).run Try.prog w = .ok (.tuple #[.pointer none, .bool false]) w := by rcases t with _ | _ | _ | _ | _ | _ | _ <;> first | exact ta_id_not_str | exact ta_op_not_str | exact ta_cmd_not_str | exact ta_ent_not_str | exact ta_msg_not_str | exact ta_post_not_str | exact ta_reply_not_str
        have t4 : ∀ (v : Value) (w : World), (Instr.typeAssert (.iface t.ty v) 20 120 true).run Try.prog w = .ok (.tuple #[.pointer none, .bool false]) w := by rcases t with _ | _ | _ | _ | _ | _ | _ <;> first | exact ta_id_not_ents | exact ta_op_not_ents | exact ta_cmd_not_ents | exact ta_ent_not_ents | exact ta_msg_not_ents | exact ta_post_not_ents | exact ta_reply_not_ents
        have t5 : ∀ (v : Value) (w : World), (Instr.typeAssert (.iface t.ty v) 20 124 true).run Try.prog w = .ok (.tuple #[.pointer none, .bool false]) w := by rcases t with _ | _ | _ | _ | _ | _ | _ <;> first | exact ta_id_not_posts | exact ta_op_not_posts | exact ta_cmd_not_posts | exact ta_ent_not_posts | exact ta_msg_not_posts | exact ta_post_not_posts | exact ta_reply_not_posts
        obtain ⟨len, hlen⟩ : ∃ len, len = (fields b o t).length := ⟨_, rfl⟩
        have hn0 := HFW.out _ B g' (l ++ bs) wr.heap.size hBe hW2 HB0.out HG0.out hEl (by have := HW.out.lt; omega) (fun e => by have := HW.out.row_lt _ e; omega) HL.out
        unfold wrV at hn0
        rw [← hlen] at hn0 HFO
        obtain ⟨ty, hty⟩ : ∃ ty, ty = t.ty := ⟨_, rfl⟩
        rw [← hty] at t0 t1 t2 t3 t4 t5 hcell HFO
        obtain ⟨row, hrow⟩ : ∃ row, row = ((fields b o t).map Fd.val).toArray := ⟨_, rfl⟩
        rw [← hrow] at hn0 HFO HA
        clear hlen hty hrow hEl hW2 hBe
        cases hq : Cm.enc p with
        | none =>
          rw [hq] at hn0
          have HN := hidden hn0
          have HQ := hidden hq
          clear hn0 hq
          go_wp2_with (first | (go_at_call 55; refine (HFO.out).mono ?_; rintro e w2 ⟨rfl, rfl⟩) | (go_at_call 43; refine (HN.out).mono ?_; rintro e w2 ⟨⟨t, u, rfl⟩, hk2⟩))
          exact ⟨rfl, Hy.out.panic HP.out HEn.out HG.out HQ.out ((KeptO.of_below HA.out).trans hk2 (fun _ _ x => x))⟩
        | some b1 =>
          rw [hq] at hn0
          have HN := hidden hn0
          have HQ := hidden hq
          clear hn0 hq
          go_wp2_with (first | (go_at_call 55; refine (HFO.out).mono ?_; rintro e w2 ⟨rfl, rfl⟩) | (go_at_call 43; refine (HN.out).mono ?_; rintro e w2 ⟨rfl, g2, hw2, hk2, hg2⟩))
          obtain ⟨-, g3, hw3, hk3, hg3⟩ := WOut.from HA.out (show WOut _ B g' (l ++ bs) (some b1) (.returned (.tuple #[])) w2 from ⟨rfl, g2, hw2, hk2, hg2⟩)
          go_roundw
          case rel => exact ⟨k + 1, by go_num, hlt, hidden (Hy.out.step HP.out HEn.out HG.out HQ.out hw3 hk3 hg3)⟩
          case measure => simp [intOf]; omega
    · obtain rfl : k = n := by omega
      go_wp2
      go_end0
      have he : Wy w0 w wr B g l pss pss.length := by rw [HPL.out]; exact Hy.out
      exact he.end_

end Go.Proofs.Ytnfjfhjhofaodaa
