/-
  For every message: CommandMessages answers true: its bytes, and its error, are the document's, and what is read of the bytes is the message; the argument reads afterwards as before. No condition.
-/
import Derived.Test.YtgkcchbignakcaaCmDEnc
import Derived.Test.YtgkcchbignakcaaCmOutM
import Derived.Test.YtgkcchbignakcaaCmPutM
import Derived.Test.YtgkcchbignakcaaCmArgs2
import Derived.Test.YtgkcchbignakcaaCmShort
import Derived.ProofKit
import Derived.OpenShut
import Derived.ShutString
import Derived.SizedLaws
namespace Go.Proofs.Ytgkcchbignakcaa.commandMessages
open Go.ChangeShapes Go.WideShapes Go.ChangeAt Go.RowKit
open Go.ChangeMaps (open_string shut_string)

theorem oneC (a b c d e f g h : Int) (v : Value) (k : Bool) (t : ByteArray) (hv : v.oneCell' = true := by rfl) : ([.int .i64 a, .int .i64 b, .int .i64 c, .int .i64 d, .int .i64 e, .int .i64 f, .int .i64 g, v, .int .i64 h, .bool k, .string t] : List Value).toArray.all (·.oneCell') = true := all_oneCell_toArray (fun u hu => by
  simp only [List.mem_cons, List.not_mem_nil, or_false] at hu
  rcases hu with rfl | rfl | rfl | rfl | rfl | rfl | rfl | rfl | rfl | rfl | rfl <;> first | rfl | exact hv)

set_option maxHeartbeats 4000000 in
set_option maxRecDepth 100000 in
theorem main (r : MsgD) (c : Nat) (w : World) (S : ByteArray) (E : Int) (hE : E = 0 ∨ E = 1) (hin : EntsIn w r.p r.ents) (hl : r.ents.length ≤ maxLen)
    (H1 : Hid (r.ents.length ≤ 21 → ∀ X, EntsIn X r.p r.ents → Calls Try.prog 22 #[.agg #[.int .i64 r.kind, .int .i64 r.group, .int .i64 r.frm, .int .i64 r.to, .int .i64 r.term, .int .i64 r.index, .int .i64 r.at_, .slice r.p r.ents.length c, .int .i64 r.commit, .bool r.ok, .string r.data]] X fun e w' => e = .returned (.tuple #[.string S, .int .i64 E]) ∧ Below X.heap.size X w'))
    (H2 : Hid (∀ X, EntsIn X r.p r.ents → Calls Try.prog 23 #[.agg #[.int .i64 r.kind, .int .i64 r.group, .int .i64 r.frm, .int .i64 r.to, .int .i64 r.term, .int .i64 r.index, .int .i64 r.at_, .slice r.p r.ents.length c, .int .i64 r.commit, .bool r.ok, .string r.data]] X fun e w' => e = .returned (.tuple #[.string S, .int .i64 E]) ∧ Below X.heap.size X w'))
    (H3 : Hid (E = 0 → r.ents.length ≤ 21 → ∀ X, Calls Try.prog 24 #[.string S] X fun e w' => (∃ p c, e = .returned (.tuple #[.agg #[.int .i64 r.kind, .int .i64 r.group, .int .i64 r.frm, .int .i64 r.to, .int .i64 r.term, .int .i64 r.index, .int .i64 r.at_, .slice p r.ents.length c, .int .i64 r.commit, .bool r.ok, .string r.data], .int .i64 0]) ∧ EntsIn w' p r.ents) ∧ Below X.heap.size X w')) :
    Calls Try.prog 5 #[.agg #[.int .i64 r.kind, .int .i64 r.group, .int .i64 r.frm, .int .i64 r.to, .int .i64 r.term, .int .i64 r.index, .int .i64 r.at_, .slice r.p r.ents.length c, .int .i64 r.commit, .bool r.ok, .string r.data]] w fun e w' => e = .returned (.bool true) ∧ Below w.heap.size w w' := by
  have i11 : (Try.prog.info? 52).map (·.size) = some 11 := by kernel_rfl
  have HR0 : Hid (Bw w [(w.heap.size, 52, [.int .i64 r.kind, .int .i64 r.group, .int .i64 r.frm, .int .i64 r.to, .int .i64 r.term, .int .i64 r.index, .int .i64 r.at_, .slice r.p r.ents.length c, .int .i64 r.commit, .bool r.ok, .string r.data])] (w.alloc (.cells #[.int .i64 r.kind, .int .i64 r.group, .int .i64 r.frm, .int .i64 r.to, .int .i64 r.term, .int .i64 r.index, .int .i64 r.at_, .slice r.p r.ents.length c, .int .i64 r.commit, .bool r.ok, .string r.data] 52)) ∧ EntsIn (w.alloc (.cells #[.int .i64 r.kind, .int .i64 r.group, .int .i64 r.frm, .int .i64 r.to, .int .i64 r.term, .int .i64 r.index, .int .i64 r.at_, .slice r.p r.ents.length c, .int .i64 r.commit, .bool r.ok, .string r.data] 52)) r.p r.ents) := ⟨⟨alloc_below w _, fun p hp => by
    obtain rfl : p = _ := by simpa using hp
    exact heap_alloc_new _ _⟩, hin.below (alloc_below w _)⟩
  have HA : Hid (∀ X bs, Bw w bs X → Calls Try.prog 11 #[] X fun e w' => e = .returned (.bool true) ∧ Below w.heap.size w w') := fun X bs h => (awake_c X).mono fun e w' ⟨a, b⟩ => ⟨a, bel_then h.below b⟩
  have HS : Hid (r.ents.length ≤ 21 → ∀ (X : World) (p p' : Option Addr) (c c' : Nat), EntsIn X p r.ents → EntsIn X p' r.ents → Calls Try.prog 25 #[.agg #[.int .i64 r.kind, .int .i64 r.group, .int .i64 r.frm, .int .i64 r.to, .int .i64 r.term, .int .i64 r.index, .int .i64 r.at_, .slice p r.ents.length c, .int .i64 r.commit, .bool r.ok, .string r.data], .agg #[.int .i64 r.kind, .int .i64 r.group, .int .i64 r.frm, .int .i64 r.to, .int .i64 r.term, .int .i64 r.index, .int .i64 r.at_, .slice p' r.ents.length c', .int .i64 r.commit, .bool r.ok, .string r.data]] X fun e w' => e = .returned (.bool true) ∧ Below X.heap.size X w') := fun hl X p p' c c' h h' => SameMessage_c r h h' (by omega)
  have HL : Hid (r.ents.length ≤ maxLen) := hl
  have HE := hidden hE
  clear hin hl hE
  obtain ⟨n, hn⟩ : ∃ n, n = r.ents.length := ⟨_, rfl⟩
  have HN := hidden hn
  rw [← hn] at HR0 HS H1 H2 H3 HL ⊢
  clear hn
  go_enter Try.func5, Try.ntmps5
  go_wp2
  go_loopw [3] (fun v wr => ∃ k : Nat, v = .int .i64 (k : Int) ∧ k ≤ n ∧ k ≤ 21 ∧ Hid (Bw w [(w.heap.size, 52, [.int .i64 r.kind, .int .i64 r.group, .int .i64 r.frm, .int .i64 r.to, .int .i64 r.term, .int .i64 r.index, .int .i64 r.at_, .slice r.p n c, .int .i64 r.commit, .bool r.ok, .string r.data])] wr ∧ EntsIn wr r.p r.ents))
    (fun v _ => n - (intOf v).toNat)
  case atStart => exact ⟨0, rfl, Nat.zero_le _, Nat.zero_le _, HR0⟩
  case round =>
    obtain ⟨k, rfl, hkn, hk21, HR⟩ := hrel
    have hR := HR.out.1
    have c7 : wr.cell? ⟨w.heap.size, 7, none⟩ = some (.slice r.p n c) := by
      have := hR.range (i := 0) rfl 7 _ rfl
      simpa using this
    by_cases hlt : k < n
    · obtain ⟨e, hek⟩ : ∃ e, r.ents[k]? = some e := ⟨r.ents[k]'(by rw [← HN.out]; exact hlt), List.getElem?_eq_getElem _⟩
      obtain ⟨g, o, hp, hg, hge⟩ : ∃ g o, r.p = some ⟨g, o, none⟩ ∧ g < wr.heap.size ∧ ∀ (i : Nat) (e : Int × ByteArray), r.ents[i]? = some e → wr.cell? ⟨g, o + i * 2, none⟩ = some (.int .i64 e.1) ∧ wr.cell? ⟨g, o + i * 2 + 1, none⟩ = some (.string e.2) := by
        rcases HR.out.2 with h0 | h0
        · rw [h0] at hek; simp at hek
        · exact h0
      obtain ⟨-, e1⟩ := hge k e hek
      rw [hp] at c7
      have HPP := hidden hp
      clear hp
      have HAW := hidden (HA.out _ _ hR)
      clear hek hge hg hR
      have hi0 : (0 : Int) ≤ (k : Int) := by omega
      have hi1 : (k : Int) < (n : Int) := by omega
      cases hb : lightB e.2 with
      | false =>
        go_wp2_with (first
          | (go_at_call 10; refine (light_c _ _).mono ?_; rintro e w3 ⟨rfl, h3⟩; subst h3; rw [hb])
          | (go_at_call 11; refine (HAW.out).mono ?_; rintro e w4 ⟨rfl, hb4⟩))
        go_ret
        exact ⟨rfl, hb4⟩
      | true =>
        by_cases h20 : k ≤ 20
        · have h21 : ¬ 20 < k := by omega
          go_wp2_with (go_at_call 10; refine (light_c _ _).mono ?_; rintro e w3 ⟨rfl, h3⟩; subst h3; rw [hb])
          go_roundw
          case rel =>
            first | exact ⟨k + 1, by go_num, hlt, by omega, HR⟩ | ((repeat apply Exists.intro); refine And.intro ?_ rfl; exact ⟨k + 1, by go_num, hlt, by omega, HR⟩)
          case measure => simp [intOf]; omega
        · have h21 : 20 < k := by omega
          go_wp2_with (first
            | (go_at_call 10; refine (light_c _ _).mono ?_; rintro e w3 ⟨rfl, h3⟩; subst h3; rw [hb])
            | (go_at_call 11; refine (HAW.out).mono ?_; rintro e w4 ⟨rfl, hb4⟩))
          go_ret
          exact ⟨rfl, hb4⟩
    · obtain rfl : k = n := by omega
      have c10 : wr.cell? ⟨w.heap.size, 10, none⟩ = some (.string r.data) := by
        have := hR.range (i := 0) rfl 10 _ rfl
        simpa using this
      have hq1 := HR.out.2
      have H1b := hidden (H1.out hk21)
      have HSb := hidden (HS.out hk21)
      have H3b := hidden (fun h : E = 0 => H3.out h hk21)
      clear hk21 H1 HS H3
      cases hb : lightB r.data with
      | false =>
        go_wp2_with (first
          | (go_at_call 10; refine (light_c _ _).mono ?_; rintro e w3 ⟨rfl, h3⟩; subst h3; rw [hb])
          | (go_at_call 11; refine (HA.out _ _ hR).mono ?_; rintro e w4 ⟨rfl, hb4⟩))
        go_ret
        exact ⟨rfl, hb4⟩
      | true =>
        have hss : (S.toList == S.toList) = true := by simp
        have HE1 := HE.out
        rcases HE1 with hE | hE
        all_goals
          subst hE
          go_wp2_with (first
            | (go_at_call 10; refine (light_c _ _).mono ?_; rintro e w3 ⟨rfl, h3⟩; subst h3; rw [hb])
            | (refine hR.load (i := 0) rfl 52 (.tmp 1) rfl rfl rfl Try.underlying52 rfl (by exact i11) ?_)
            | (refine hR.load (i := 1) rfl 52 (.tmp 1) rfl rfl rfl Try.underlying52 rfl (by exact i11) ?_)
            | (refine hR.load (i := 0) rfl 52 (.tmp 8) rfl rfl rfl Try.underlying52 rfl (by exact i11) ?_)
            | (go_at_call 22; refine (H1b.out _ hq1).mono ?_; rintro e X7 ⟨rfl, hb⟩; have q9 := EntsIn.below hq1 hb; clear hq1; have hq1 := q9; clear q9; have h9 := hR.call hb; clear hR hb; have hR := h9; clear h9)
            | (go_at_call 23; refine (H2.out _ hq1).mono ?_; rintro e X7 ⟨rfl, hb⟩; have q9 := EntsIn.below hq1 hb; clear hq1; have hq1 := q9; clear q9; have h9 := hR.call hb; clear hR hb; have hR := h9; clear h9)
            | (go_at_call 24; refine (H3b.out (by first | trivial | rfl) _).mono ?_; rintro e X1 ⟨⟨p1, c1, rfl, hq2⟩, hb⟩; have q9 := EntsIn.below hq1 hb; clear hq1; have hq1 := q9; clear q9; have h9 := hR.call hb; clear hR hb; have hR := h9; clear h9)
            | (refine wpList_store_row rfl 52 (.tmp 8) (.tmp 59) rfl X1.heap.size ([.int .i64 r.kind, .int .i64 r.group, .int .i64 r.frm, .int .i64 r.to, .int .i64 r.term, .int .i64 r.index, .int .i64 r.at_, .slice p1 k c1, .int .i64 r.commit, .bool r.ok, .string r.data] : List Value).toArray rfl rfl 52 _ (heap_alloc_new X1 _) (by exact i11) rfl (by exact oneC _ _ _ _ _ _ _ _ _ _ _) ?_; have hb8 := new1_below X1 #[.int .i64 0, .int .i64 0, .int .i64 0, .int .i64 0, .int .i64 0, .int .i64 0, .int .i64 0, .slice none 0 0, .int .i64 0, .bool false, .string ⟨#[]⟩] ([.int .i64 r.kind, .int .i64 r.group, .int .i64 r.frm, .int .i64 r.to, .int .i64 r.term, .int .i64 r.index, .int .i64 r.at_, .slice p1 k c1, .int .i64 r.commit, .bool r.ok, .string r.data] : List Value).toArray 52; have h8 := hR.new1 #[.int .i64 0, .int .i64 0, .int .i64 0, .int .i64 0, .int .i64 0, .int .i64 0, .int .i64 0, .slice none 0 0, .int .i64 0, .bool false, .string ⟨#[]⟩] 52 [.int .i64 r.kind, .int .i64 r.group, .int .i64 r.frm, .int .i64 r.to, .int .i64 r.term, .int .i64 r.index, .int .i64 r.at_, .slice p1 k c1, .int .i64 r.commit, .bool r.ok, .string r.data]; have q9 := EntsIn.below hq1 hb8; clear hq1; have hq1 := q9; clear q9; have q9 := EntsIn.below hq2 hb8; clear hq2; have hq2 := q9; clear q9; clear hR hb8; revert h8 hq1 hq2; generalize ((X1.alloc (.cells #[.int .i64 0, .int .i64 0, .int .i64 0, .int .i64 0, .int .i64 0, .int .i64 0, .int .i64 0, .slice none 0 0, .int .i64 0, .bool false, .string ⟨#[]⟩] 52)).setRow X1.heap.size ([.int .i64 r.kind, .int .i64 r.group, .int .i64 r.frm, .int .i64 r.to, .int .i64 r.term, .int .i64 r.index, .int .i64 r.at_, .slice p1 k c1, .int .i64 r.commit, .bool r.ok, .string r.data] : List Value).toArray) = Z; generalize X1.heap.size = g1; intro hR hq1 hq2)
            | (go_at_call 25; refine (HSb.out _ _ _ _ _ hq1 hq2).mono ?_; rintro e X5 ⟨rfl, hb⟩; have h9 := hR.call hb; clear hR hb; have hR := h9; clear h9)
            | (go_at_call 11; refine (HA.out _ _ hR).mono ?_; rintro e X6 ⟨rfl, hb6⟩))
          go_ret
          exact ⟨rfl, hb6⟩

theorem walk (r : MsgD) (c : Nat) (w : World) (b : MsgIn w r) :
    Calls Try.prog 5 #[.agg (r.cellsC c).toArray] w fun e w' => e = .returned (.bool true) ∧ Below w.heap.size w w' := by
  obtain ⟨⟨h0, h1, h2, h3, h4, h5, h6, h7, h8, h9⟩, hin, hl⟩ := b
  have hok : r.ents.length ≤ 21 → r.Ok := fun h => ⟨h0, h1, h2, h3, h4, h5, h6, h7, h8, h9, by omega⟩
  have hl9 : r.ents.length < 9223372036854775808 := by unfold maxLen at hl; omega
  refine main r c w (putS ⟨#[77]⟩ (Cm.enc r.pss.flatten)) (putE (Cm.enc r.pss.flatten)) ?_ hin hl (fun h X hX => (PutM_c r c (hok h) X hX).mono fun e w' ⟨a, b⟩ => ⟨by rw [a, putO_eq], b⟩) (fun X hX => (rPutMessage_c r c X hX hl9).mono fun e w' ⟨a, b⟩ => ⟨by rw [a, putO_eq], b⟩) (fun he h X => ?_)
  · cases Cm.enc r.pss.flatten with
    | none => exact .inr rfl
    | some _ => exact .inl rfl
  · cases hq : Cm.enc r.pss.flatten with
    | none => rw [hq] at he; exact absurd he (by decide)
    | some bs => exact FromM_put r hq (by omega) X

theorem laidOut : laidOutB Try.prog = true := by kernel_rfl

theorem own : ownKnob Try.prog.godebug = none := by kernel_rfl

set_option maxRecDepth 100000 in
theorem lifted (os : Os) (started : os.Started) (H : Type) (enc : TypeId × Value → H) :
    ReturnsInHanded {} Try.checked os 5 .any (Rows.commandMessagesSpec.pre6 enc Try.prog Try.f5 Rows.commandMessagesRow.domain false) (Rows.commandMessagesSpec.post enc Try.prog Try.f5 false true false false) := by
  refine returnsInHanded_of_change_sized (C := Try.checked) own started (by kernel_rfl) Try.func5
    (ChangeSpec.witness6 (enc := enc) (C := Try.checked) false ⟨#[], #[.agg #[.int .i64 0, .int .i64 0, .int .i64 0, .int .i64 0, .int .i64 0, .int .i64 0, .int .i64 0, .slice none 0 0, .int .i64 0, .bool false, .string ByteArray.empty]], []⟩ 8 (by kernel_rfl) (by kernel_rfl) (by kernel_rfl) (by kernel_rfl)) ?_
  intro W base args ds gs before hval0 hW _ hsz0 _
  have hsz : (DataW.weightsEach Try.prog (Try.f5.params.toList ++ Rows.commandMessagesSpec.plain.varTypes Try.prog) (ds ++ gs)).all (· ≤ reachBytes) = true := hsz0
  have hval : ∀ (j : Nat) t v, Try.f5.params[j]? = some t → args[j]? = some v → Value.okWide Try.prog W .any base t v := hval0
  have hW' := hW
  obtain ⟨p, q, hA0, hV, rfl, hfz, hnd⟩ := hW
  have hA : DataW.TrodAll enc Try.prog W 0 (fun _ => true) true Try.f5.params.toList args.toList ds p := hA0
  rw [Try.params5] at hA hval hsz
  obtain ⟨v0, vs0, d0, ds0, p0, q0, hargs, rfl, rfl, h0, r0⟩ := trodAll_cons hA
  obtain ⟨rfl, rfl, rfl⟩ := trodAll_nil r0
  obtain rfl : args = #[v0] := by cases args; simp_all
  obtain ⟨rfl, rfl⟩ := trodVars_none hV
  have k0 := h0
  have lt0 : ∀ x ∈ p0, x.block < W.heap.size := by obtain ⟨m, hm⟩ := k0; exact DataW.trod_lt m _ _ _ hm
  obtain ⟨a0, c0, rfl, b0⟩ := open_msg12 (hval 0 52 v0 rfl rfl) h0
  clear hA0 hval0 hsz0
  refine (walk a0 c0 W b0).mono fun e W' ⟨he, bel⟩ => ?_
  subst he
  exact ⟨_, rfl, _, _, _, [], _, [], hW', trodAll_mk1 (shut_bool Try.underlying4 _), (trodAll_cons_mk (Below.trod laidOut (by kernel_rfl) (of_decide_eq_true (by kernel_rfl)) k0 bel lt0) trodAll_mk0), rfl, bel.frame _, fun h => by cases h⟩

theorem over : Rows.commandMessagesRow.holds Try.pinned (OpenSpec.ofChange Rows.commandMessagesSpec) :=
  OpenClaim.holds_of_wide 5 Try.f5 rfl rfl rfl rfl rfl rfl rfl ⟨rfl, rfl, rfl, rfl, rfl⟩ rfl rfl rfl rfl rfl (by kernel_rfl) Try.func5 (by kernel_rfl)
    (of_decide_eq_true (by kernel_rfl)) (by unfold Func.isWrapper; first | (rw [if_pos (by decide +kernel)]; kernel_rfl) | (rw [if_neg (by decide +kernel)]; exact ⟨rfl, rfl⟩))
    (fun os started H enc _ => lifted os started H enc)


end Go.Proofs.Ytgkcchbignakcaa.commandMessages
namespace Go.Proofs.Ytgkcchbignakcaa
/-- The statement. -/
theorem commandMessages_holds : Rows.CommandMessagesSaid := commandMessages.over
end Go.Proofs.Ytgkcchbignakcaa
