/-
  For every text: CommandHears answers true: the message of it, or the error, is the document's, and as bytes again it is the text; the argument reads afterwards as before. No condition.
-/
import Derived.Test.YtgkcchbignakcaaCmBw
import Derived.Test.YtgkcchbignakcaaCmInM
import Derived.Test.YtgkcchbignakcaaCmPutM
import Derived.ProofKit
import Derived.OpenShut
import Derived.ShutString
import Derived.SizedLaws
namespace Go.Proofs.Ytgkcchbignakcaa.commandHears
open Go.ChangeShapes Go.WideShapes Go.ChangeAt Go.RowKit
open Go.ChangeMaps (open_string shut_string)

theorem oneC (a b c d e f g h : Int) (v : Value) (k : Bool) (t : ByteArray) (hv : v.oneCell' = true := by rfl) : ([.int .i64 a, .int .i64 b, .int .i64 c, .int .i64 d, .int .i64 e, .int .i64 f, .int .i64 g, v, .int .i64 h, .bool k, .string t] : List Value).toArray.all (·.oneCell') = true := all_oneCell_toArray (fun u hu => by
  simp only [List.mem_cons, List.not_mem_nil, or_false] at hu
  rcases hu with rfl | rfl | rfl | rfl | rfl | rfl | rfl | rfl | rfl | rfl | rfl <;> first | rfl | exact hv)

theorem enc_each : ∀ {l : List (Cm.K × Cm.V)} {bs : List UInt8}, Cm.enc l = some bs → ∀ p ∈ l, Cm.enc1 p.1 p.2 ≠ none
  | (k, v) :: r, bs, h, p, hp => by
    simp only [Cm.enc] at h
    cases h1 : Cm.enc1 k v with
    | none => rw [h1] at h; cases h
    | some a =>
      rw [h1] at h
      simp only at h
      cases h2 : Cm.enc r with
      | none => rw [h2] at h; cases h
      | some b =>
        rcases List.mem_cons.1 hp with rfl | hp
        · rw [h1]; exact fun e => by cases e
        · exact enc_each h2 p hp
theorem fit_enc {v : Int} (h : Cm.enc1 (.n Cm.mI) (.n v) ≠ none) : fit v := by
  rw [Cm.enc1] at h
  split at h
  · rename_i hv
    unfold Cm.mI at hv
    unfold fit
    omega
  · exact absurd rfl h
theorem fits_enc {s : ByteArray} (h : Cm.enc1 .t (.t s) ≠ none) : fits s := by
  rw [Cm.enc1] at h
  split at h
  · rename_i hv
    unfold Cm.mR at hv
    unfold fits
    omega
  · exact absurd rfl h
theorem ok_enc {x : MsgD} {bs : List UInt8} (h : Cm.enc x.pss.flatten = some bs) (hl : x.ents.length ≤ 16) : x.Ok := by
  have hf : ∀ v, nf v ∈ x.pss.flatten → fit v := fun v hv => fit_enc (enc_each h _ hv)
  have ht : ∀ s, tf s ∈ x.pss.flatten → fits s := fun s hs => fits_enc (enc_each h _ hs)
  have hm : ∀ e ∈ x.ents, nf e.1 ∈ (x.ents.map fun e => [nf e.1, tf e.2]).flatten ∧ tf e.2 ∈ (x.ents.map fun e => [nf e.1, tf e.2]).flatten := fun e he => ⟨List.mem_flatten.2 ⟨_, List.mem_map.2 ⟨e, he, rfl⟩, by simp⟩, List.mem_flatten.2 ⟨_, List.mem_map.2 ⟨e, he, rfl⟩, by simp⟩⟩
  refine ⟨hf _ ?_, hf _ ?_, hf _ ?_, hf _ ?_, hf _ ?_, hf _ ?_, hf _ ?_, hf _ ?_, ht _ ?_, fun e he => ⟨hf _ ?_, ht _ ?_⟩, by omega⟩
  case refine_10 => simp only [MsgD.pss, pEnts, List.flatten_cons, List.mem_append, List.mem_cons]; exact .inr (.inr (.inr (.inr (.inr (.inr (.inr (.inr (.inr (.inl (.inr (hm e he).1))))))))))
  case refine_11 => simp only [MsgD.pss, pEnts, List.flatten_cons, List.mem_append, List.mem_cons]; exact .inr (.inr (.inr (.inr (.inr (.inr (.inr (.inr (.inr (.inl (.inr (hm e he).2))))))))))
  all_goals simp [MsgD.pss, pEnts]

set_option maxHeartbeats 4000000 in
set_option maxRecDepth 100000 in
theorem main (s : ByteArray) (w : World) (r : MsgD) (E : Int) (hr : r.ents.length ≤ 16) (hE : E = 0 ∨ E = 140)
    (H1 : Hid (∀ X, Calls Try.prog 24 #[.string s] X fun e w' => (∃ p c, e = .returned (.tuple #[.agg #[.int .i64 r.kind, .int .i64 r.group, .int .i64 r.frm, .int .i64 r.to, .int .i64 r.term, .int .i64 r.index, .int .i64 r.at_, .slice p r.ents.length c, .int .i64 r.commit, .bool r.ok, .string r.data], .int .i64 E]) ∧ EntsIn w' p r.ents) ∧ Below X.heap.size X w'))
    (H2 : Hid (∀ X, Calls Try.prog 27 #[.string s] X fun e w' => (∃ p c, e = .returned (.tuple #[.agg #[.int .i64 r.kind, .int .i64 r.group, .int .i64 r.frm, .int .i64 r.to, .int .i64 r.term, .int .i64 r.index, .int .i64 r.at_, .slice p r.ents.length c, .int .i64 r.commit, .bool r.ok, .string r.data], .int .i64 E]) ∧ EntsIn w' p r.ents) ∧ Below X.heap.size X w'))
    (HP : Hid (E = 0 → ∀ X p c, EntsIn X p r.ents → Calls Try.prog 22 #[.agg #[.int .i64 r.kind, .int .i64 r.group, .int .i64 r.frm, .int .i64 r.to, .int .i64 r.term, .int .i64 r.index, .int .i64 r.at_, .slice p r.ents.length c, .int .i64 r.commit, .bool r.ok, .string r.data]] X fun e w' => e = .returned (.tuple #[.string s, .int .i64 0]) ∧ Below X.heap.size X w')) :
    Calls Try.prog 7 #[.string s] w fun e w' => e = .returned (.bool true) ∧ Below w.heap.size w w' := by
  have i11 : (Try.prog.info? 52).map (·.size) = some 11 := by kernel_rfl
  have hR := Bw.start w
  have HA : Hid (∀ X bs, Bw w bs X → Calls Try.prog 11 #[] X fun e w' => e = .returned (.bool true) ∧ Below w.heap.size w w') := fun X bs h => (awake_c X).mono fun e w' ⟨a, b⟩ => ⟨a, bel_then h.below b⟩
  have HS : Hid (∀ (X : World) (p p' : Option Addr) (c c' : Nat), EntsIn X p r.ents → EntsIn X p' r.ents → Calls Try.prog 25 #[.agg #[.int .i64 r.kind, .int .i64 r.group, .int .i64 r.frm, .int .i64 r.to, .int .i64 r.term, .int .i64 r.index, .int .i64 r.at_, .slice p r.ents.length c, .int .i64 r.commit, .bool r.ok, .string r.data], .agg #[.int .i64 r.kind, .int .i64 r.group, .int .i64 r.frm, .int .i64 r.to, .int .i64 r.term, .int .i64 r.index, .int .i64 r.at_, .slice p' r.ents.length c', .int .i64 r.commit, .bool r.ok, .string r.data]] X fun e w' => e = .returned (.bool true) ∧ Below X.heap.size X w') := fun X p p' c c' h h' => SameMessage_c r h h' (by omega)
  have hss : (s.toList == s.toList) = true := by simp
  clear hr
  rcases hE with rfl | rfl
  all_goals
    go_enter Try.func7, Try.ntmps7
    go_wp2_with (first
      | (go_at_call 24; refine (H1.out _).mono ?_; rintro e X1 ⟨⟨p1, c1, rfl, hq1⟩, hb⟩; have h9 := hR.call hb; clear hR hb; have hR := h9; clear h9)
      | (refine wpList_store_row rfl 52 (.tmp 3) (.tmp 12) rfl X1.heap.size ([.int .i64 r.kind, .int .i64 r.group, .int .i64 r.frm, .int .i64 r.to, .int .i64 r.term, .int .i64 r.index, .int .i64 r.at_, .slice p1 r.ents.length c1, .int .i64 r.commit, .bool r.ok, .string r.data] : List Value).toArray rfl rfl 52 _ (heap_alloc_new X1 _) (by exact i11) rfl (by exact oneC _ _ _ _ _ _ _ _ _ _ _) ?_; have hb8 := new1_below X1 #[.int .i64 0, .int .i64 0, .int .i64 0, .int .i64 0, .int .i64 0, .int .i64 0, .int .i64 0, .slice none 0 0, .int .i64 0, .bool false, .string ⟨#[]⟩] ([.int .i64 r.kind, .int .i64 r.group, .int .i64 r.frm, .int .i64 r.to, .int .i64 r.term, .int .i64 r.index, .int .i64 r.at_, .slice p1 r.ents.length c1, .int .i64 r.commit, .bool r.ok, .string r.data] : List Value).toArray 52; have h8 := hR.new1 #[.int .i64 0, .int .i64 0, .int .i64 0, .int .i64 0, .int .i64 0, .int .i64 0, .int .i64 0, .slice none 0 0, .int .i64 0, .bool false, .string ⟨#[]⟩] 52 [.int .i64 r.kind, .int .i64 r.group, .int .i64 r.frm, .int .i64 r.to, .int .i64 r.term, .int .i64 r.index, .int .i64 r.at_, .slice p1 r.ents.length c1, .int .i64 r.commit, .bool r.ok, .string r.data]; have q9 := EntsIn.below hq1 hb8; clear hq1; have hq1 := q9; clear q9; clear hR hb8; revert h8 hq1; generalize ((X1.alloc (.cells #[.int .i64 0, .int .i64 0, .int .i64 0, .int .i64 0, .int .i64 0, .int .i64 0, .int .i64 0, .slice none 0 0, .int .i64 0, .bool false, .string ⟨#[]⟩] 52)).setRow X1.heap.size ([.int .i64 r.kind, .int .i64 r.group, .int .i64 r.frm, .int .i64 r.to, .int .i64 r.term, .int .i64 r.index, .int .i64 r.at_, .slice p1 r.ents.length c1, .int .i64 r.commit, .bool r.ok, .string r.data] : List Value).toArray) = Z; generalize X1.heap.size = g1; intro hR hq1)
      | (go_at_call 27; refine (H2.out _).mono ?_; rintro e X2 ⟨⟨p2, c2, rfl, hq2⟩, hb⟩; have q9 := EntsIn.below hq1 hb; clear hq1; have hq1 := q9; clear q9; have h9 := hR.call hb; clear hR hb; have hR := h9; clear h9)
      | (refine wpList_store_row rfl 52 (.tmp 5) (.tmp 17) rfl X2.heap.size ([.int .i64 r.kind, .int .i64 r.group, .int .i64 r.frm, .int .i64 r.to, .int .i64 r.term, .int .i64 r.index, .int .i64 r.at_, .slice p2 r.ents.length c2, .int .i64 r.commit, .bool r.ok, .string r.data] : List Value).toArray rfl rfl 52 _ (heap_alloc_new X2 _) (by exact i11) rfl (by exact oneC _ _ _ _ _ _ _ _ _ _ _) ?_; have hb8 := new1_below X2 #[.int .i64 0, .int .i64 0, .int .i64 0, .int .i64 0, .int .i64 0, .int .i64 0, .int .i64 0, .slice none 0 0, .int .i64 0, .bool false, .string ⟨#[]⟩] ([.int .i64 r.kind, .int .i64 r.group, .int .i64 r.frm, .int .i64 r.to, .int .i64 r.term, .int .i64 r.index, .int .i64 r.at_, .slice p2 r.ents.length c2, .int .i64 r.commit, .bool r.ok, .string r.data] : List Value).toArray 52; have h8 := hR.new1 #[.int .i64 0, .int .i64 0, .int .i64 0, .int .i64 0, .int .i64 0, .int .i64 0, .int .i64 0, .slice none 0 0, .int .i64 0, .bool false, .string ⟨#[]⟩] 52 [.int .i64 r.kind, .int .i64 r.group, .int .i64 r.frm, .int .i64 r.to, .int .i64 r.term, .int .i64 r.index, .int .i64 r.at_, .slice p2 r.ents.length c2, .int .i64 r.commit, .bool r.ok, .string r.data]; have q9 := EntsIn.below hq1 hb8; clear hq1; have hq1 := q9; clear q9; have q9 := EntsIn.below hq2 hb8; clear hq2; have hq2 := q9; clear q9; clear hR hb8; revert h8 hq1 hq2; generalize ((X2.alloc (.cells #[.int .i64 0, .int .i64 0, .int .i64 0, .int .i64 0, .int .i64 0, .int .i64 0, .int .i64 0, .slice none 0 0, .int .i64 0, .bool false, .string ⟨#[]⟩] 52)).setRow X2.heap.size ([.int .i64 r.kind, .int .i64 r.group, .int .i64 r.frm, .int .i64 r.to, .int .i64 r.term, .int .i64 r.index, .int .i64 r.at_, .slice p2 r.ents.length c2, .int .i64 r.commit, .bool r.ok, .string r.data] : List Value).toArray) = Z; generalize X2.heap.size = g2; intro hR hq1 hq2)
      | (refine hR.load (i := 0) rfl 52 (.tmp 5) rfl rfl rfl Try.underlying52 rfl (by exact i11) ?_)
      | (refine hR.load (i := 1) rfl 52 (.tmp 3) rfl rfl rfl Try.underlying52 rfl (by exact i11) ?_)
      | (go_at_call 25; refine (HS.out _ _ _ _ _ hq1 hq2).mono ?_; rintro e X5 ⟨rfl, hb⟩; have q9 := EntsIn.below hq1 hb; clear hq1; have hq1 := q9; clear q9; have h9 := hR.call hb; clear hR hb; have hR := h9; clear h9)
      | (go_at_call 22; refine (HP.out (by first | trivial | rfl) _ _ _ hq1).mono ?_; rintro e X7 ⟨rfl, hb⟩; have h9 := hR.call hb; clear hR hb; have hR := h9; clear h9)
      | (go_at_call 11; refine (HA.out _ _ hR).mono ?_; rintro e X6 ⟨rfl, hb6⟩))
    go_ret
    exact ⟨rfl, hb6⟩

theorem walk (s : ByteArray) (w : World) (hs : s.size ≤ 140737488351232) :
    Calls Try.prog 7 #[.string s] w fun e w' => e = .returned (.bool true) ∧ Below w.heap.size w w' := by
  have hT := msg_takeX s.data.toList none
  cases hq : takeX 77 dMsg s.data.toList with
  | none =>
    refine main s w zMsg 140 (by show (0 : Nat) ≤ 16; omega) (.inr rfl) (fun X => (FromM_c s hs X).mono fun e w' ⟨a, b⟩ => ⟨?_, b⟩) (fun X => (rFromM_c s hs X).mono fun e w' ⟨a, b⟩ => ⟨?_, b⟩) (fun e => absurd e (by decide))
    · unfold MsgO at a; rw [hq] at a; exact ⟨none, 0, a, .inl rfl⟩
    · unfold MsgR at a; rw [hq] at a; exact ⟨none, 0, a, .inl rfl⟩
  | some vs =>
    rw [hq] at hT
    have hvs : vs = (msgV (markX 77 (some s.data.toList)) none).pss.flatten := by
      split at hT
      · injection hT
      · cases hT
    have hl16 : (msgV (markX 77 (some s.data.toList)) none).ents.length ≤ 16 := by
      show (msgE (markX 77 (some s.data.toList))).length ≤ 16
      unfold msgE
      rw [entsV_len]
      exact cnt_le _ _
    obtain ⟨bs, he, hl⟩ := takeX_inv dMsg_inv hq
    rw [hvs] at he
    generalize msgV (markX 77 (some s.data.toList)) none = r at hvs hl16 he
    have hS : putS ⟨#[77]⟩ (some bs) = s := by
      apply Cm.of_toL
      rw [hl]
      rfl
    refine main s w r 0 hl16 (.inl rfl) (fun X => (FromM_c s hs X).mono fun e w' ⟨a, b⟩ => ⟨?_, b⟩) (fun X => (rFromM_c s hs X).mono fun e w' ⟨a, b⟩ => ⟨?_, b⟩) (fun _ X p c hin => ?_)
    · unfold MsgO at a
      rw [hq] at a
      obtain ⟨x, hv, hee, hat, _⟩ := a
      obtain ⟨h0, h1, h2, h3, h4, h5, h6, h7, h8, h9, h10⟩ := msg_inj (hv.symm.trans hvs)
      refine ⟨x.p, x.ents.length, ?_, by rw [← h9]; exact hat.toIn⟩
      rw [hee, ← h0, ← h1, ← h2, ← h3, ← h4, ← h5, ← h6, ← h7, ← h8, ← h9, ← h10]
      rfl
    · unfold MsgR at a
      rw [hq] at a
      obtain ⟨x, c, hv, hee, hin, _⟩ := a
      obtain ⟨h0, h1, h2, h3, h4, h5, h6, h7, h8, h9, h10⟩ := msg_inj (hv.symm.trans hvs)
      refine ⟨x.p, c, ?_, by rw [← h9]; exact hin⟩
      rw [hee, ← h0, ← h1, ← h2, ← h3, ← h4, ← h5, ← h6, ← h7, ← h8, ← h9, ← h10]
      rfl
    · have hk := ok_enc he hl16
      have := PutM_c { r with p := p } c hk X hin
      refine Calls.mono this ?_
      rintro e w' ⟨a, b⟩
      have he2 : Cm.enc (MsgD.pss { r with p := p }).flatten = some bs := he
      exact ⟨by rw [a, he2, putO_eq, hS]; rfl, b⟩

theorem own : ownKnob Try.prog.godebug = none := by kernel_rfl

set_option maxRecDepth 100000 in
theorem lifted (os : Os) (started : os.Started) (H : Type) (enc : TypeId × Value → H) :
    ReturnsInHanded {} Try.checked os 7 .any (Rows.commandHearsSpec.pre6 enc Try.prog Try.f7 Rows.commandHearsRow.domain false) (Rows.commandHearsSpec.post enc Try.prog Try.f7 false true false false) := by
  refine returnsInHanded_of_change_sized (C := Try.checked) own started (by kernel_rfl) Try.func7
    (ChangeSpec.witness6 (enc := enc) (C := Try.checked) false ⟨#[], #[.string ByteArray.empty], []⟩ 8 (by kernel_rfl) (by kernel_rfl) (by kernel_rfl) (by kernel_rfl)) ?_
  intro W base args ds gs before hval0 hW _ hsz0 _
  have hsz : (DataW.weightsEach Try.prog (Try.f7.params.toList ++ Rows.commandHearsSpec.plain.varTypes Try.prog) (ds ++ gs)).all (· ≤ reachBytes) = true := hsz0
  have hval : ∀ (j : Nat) t v, Try.f7.params[j]? = some t → args[j]? = some v → Value.okWide Try.prog W .any base t v := hval0
  have hW' := hW
  obtain ⟨p, q, hA0, hV, rfl, hfz, hnd⟩ := hW
  have hA : DataW.TrodAll enc Try.prog W 0 (fun _ => true) true Try.f7.params.toList args.toList ds p := hA0
  rw [Try.params7] at hA hval hsz
  obtain ⟨v0, vs0, d0, ds0, p0, q0, hargs, rfl, rfl, h0, r0⟩ := trodAll_cons hA
  obtain ⟨rfl, rfl, rfl⟩ := trodAll_nil r0
  obtain rfl : args = #[v0] := by cases args; simp_all
  obtain ⟨rfl, rfl⟩ := trodVars_none hV
  obtain ⟨a0, rfl, rfl, rfl, w0⟩ := open_string Try.underlying9 (hval 0 9 v0 rfl rfl) h0
  have b0 : a0.size ≤ 140737488351232 := by have := sized_string hsz (j := 0) (t := 9) rfl rfl; simpa [reachBytes] using this
  clear hA0 hval0 hsz0
  refine (walk a0 W b0).mono fun e W' ⟨he, bel⟩ => ?_
  subst he
  exact ⟨_, rfl, _, _, _, [], _, [], hW', trodAll_mk1 (shut_bool Try.underlying4 _), (trodAll_cons_mk (shut_string Try.underlying9 w0) trodAll_mk0), rfl, bel.frame _, fun h => by cases h⟩

theorem over : Rows.commandHearsRow.holds Try.pinned (OpenSpec.ofChange Rows.commandHearsSpec) :=
  OpenClaim.holds_of_wide 7 Try.f7 rfl rfl rfl rfl rfl rfl rfl ⟨rfl, rfl, rfl, rfl, rfl⟩ rfl rfl rfl rfl rfl (by kernel_rfl) Try.func7 (by kernel_rfl)
    (of_decide_eq_true (by kernel_rfl)) (by unfold Func.isWrapper; first | (rw [if_pos (by decide +kernel)]; kernel_rfl) | (rw [if_neg (by decide +kernel)]; exact ⟨rfl, rfl⟩))
    (fun os started H enc _ => lifted os started H enc)


end Go.Proofs.Ytgkcchbignakcaa.commandHears
namespace Go.Proofs.Ytgkcchbignakcaa
/-- The statement. -/
theorem commandHears_holds : Rows.CommandHearsSaid := commandHears.over
end Go.Proofs.Ytgkcchbignakcaa
