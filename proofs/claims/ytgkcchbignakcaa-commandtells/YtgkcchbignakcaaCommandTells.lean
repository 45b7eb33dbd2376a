/-
  For every text: CommandTells answers true: what is asked, and what is answered, of it, or the error, is the document's; the argument reads afterwards as before. No condition.
-/
import Derived.Test.YtgkcchbignakcaaCmBw
import Derived.Test.YtgkcchbignakcaaCmInW
import Derived.ProofKit
import Derived.OpenShut
import Derived.ShutString
import Derived.SizedLaws
namespace Go.Proofs.Ytgkcchbignakcaa.commandTells
open Go.ChangeShapes Go.WideShapes Go.ChangeAt Go.RowKit
open Go.ChangeMaps (open_string shut_string)

theorem RepD.oneC (e t : Int) (v : Value) (hv : v.oneCell' = true := by rfl) : ([.int .i64 e, .int .i64 t, v] : List Value).toArray.all (·.oneCell') = true := all_oneCell_toArray (fun u hu => by
  simp only [List.mem_cons, List.not_mem_nil, or_false] at hu
  rcases hu with rfl | rfl | rfl
  · rfl
  · rfl
  · exact hv)

set_option maxHeartbeats 4000000 in
set_option maxRecDepth 100000 in
theorem main (s : ByteArray) (w : World) (i j : IdD) (x : OpD) (r : RepD) (E F : Int) (hr : r.posts.length ≤ 64)
    (H1 : Hid (∀ X, Calls Try.prog 19 #[.string s] X fun e w' => e = .returned (.tuple #[.agg i.cells.toArray, .agg x.cells.toArray, .int .i64 E]) ∧ Below X.heap.size X w'))
    (H2 : Hid (∀ X, Calls Try.prog 28 #[.string s] X fun e w' => e = .returned (.tuple #[.agg i.cells.toArray, .agg x.cells.toArray, .int .i64 E]) ∧ Below X.heap.size X w'))
    (H3 : Hid (∀ X, Calls Try.prog 20 #[.string s] X fun e w' => (∃ p c, e = .returned (.tuple #[.agg j.cells.toArray, .agg #[.int .i64 r.err, .int .i64 r.at_, .slice p r.posts.length c], .int .i64 F]) ∧ PostsIn w' p r.posts) ∧ Below X.heap.size X w'))
    (H4 : Hid (∀ X, Calls Try.prog 29 #[.string s] X fun e w' => (∃ p c, e = .returned (.tuple #[.agg j.cells.toArray, .agg #[.int .i64 r.err, .int .i64 r.at_, .slice p r.posts.length c], .int .i64 F]) ∧ PostsIn w' p r.posts) ∧ Below X.heap.size X w')) :
    Calls Try.prog 8 #[.string s] w fun e w' => e = .returned (.bool true) ∧ Below w.heap.size w w' := by
  have i2 : (Try.prog.info? 23).map (·.size) = some 2 := by kernel_rfl
  have i9 : (Try.prog.info? 25).map (·.size) = some 9 := by kernel_rfl
  have i3 : (Try.prog.info? 39).map (·.size) = some 3 := by kernel_rfl
  have hR := Bw.start w
  have e1 := run_idEq i
  have e2 := run_idEq j
  have e3 := run_opEq x
  have HA : Hid (∀ X bs, Bw w bs X → Calls Try.prog 11 #[] X fun e w' => e = .returned (.bool true) ∧ Below w.heap.size w w') := fun X bs h => (awake_c X).mono fun e w' ⟨a, b⟩ => ⟨a, bel_then h.below b⟩
  have HS : Hid (∀ (X : World) (p p' : Option Addr) (c c' : Nat), PostsIn X p r.posts → PostsIn X p' r.posts → Calls Try.prog 21 #[.agg #[.int .i64 r.err, .int .i64 r.at_, .slice p r.posts.length c], .agg #[.int .i64 r.err, .int .i64 r.at_, .slice p' r.posts.length c']] X fun e w' => e = .returned (.bool true) ∧ Below X.heap.size X w') := fun X p p' c c' h h' => SameReply_c r h h' (by omega)
  clear hr
  go_enter Try.func8, Try.ntmps8
  go_wp2_with (first
      | (go_at_call 19; refine (H1.out _).mono ?_; rintro e X1 ⟨rfl, hb⟩; have h9 := hR.call hb; clear hR hb; have hR := h9; clear h9)
      | (refine wpList_store_row rfl 23 (.tmp 3) (.tmp 18) rfl X1.heap.size (i.cells).toArray rfl rfl 23 _ (alloc2_at X1 _ _ _ _).1 (by exact i2) rfl (by exact IdD.one _) ?_)
      | (refine wpList_store_row rfl 25 (.tmp 4) (.tmp 19) rfl (X1.heap.size + 1) (x.cells : List Value).toArray rfl rfl 25 _ (new2_mid X1 _ _ _ _ _) (by exact i9) rfl (by exact OpD.one _) ?_; have hb8 := new2_below X1 #[.int .i64 0, .int .i64 0] #[.int .i64 0, .string ⟨#[]⟩, .string ⟨#[]⟩, .string ⟨#[]⟩, .string ⟨#[]⟩, .string ⟨#[]⟩, .string ⟨#[]⟩, .int .i64 0, .int .i64 0] (i.cells).toArray (x.cells : List Value).toArray 23 25; have h8 := hR.new2 #[.int .i64 0, .int .i64 0] #[.int .i64 0, .string ⟨#[]⟩, .string ⟨#[]⟩, .string ⟨#[]⟩, .string ⟨#[]⟩, .string ⟨#[]⟩, .string ⟨#[]⟩, .int .i64 0, .int .i64 0] 23 25 (i.cells) (x.cells); clear hR hb8; revert h8; generalize ((((X1.alloc (.cells #[.int .i64 0, .int .i64 0] 23)).alloc (.cells #[.int .i64 0, .string ⟨#[]⟩, .string ⟨#[]⟩, .string ⟨#[]⟩, .string ⟨#[]⟩, .string ⟨#[]⟩, .string ⟨#[]⟩, .int .i64 0, .int .i64 0] 25)).setRow X1.heap.size (i.cells).toArray).setRow (X1.heap.size + 1) (x.cells : List Value).toArray) = Z; generalize X1.heap.size = g1; intro hR)
      | (go_at_call 28; refine (H2.out _).mono ?_; rintro e X2 ⟨rfl, hb⟩; have h9 := hR.call hb; clear hR hb; have hR := h9; clear h9)
      | (refine wpList_store_row rfl 23 (.tmp 6) (.tmp 24) rfl X2.heap.size (i.cells).toArray rfl rfl 23 _ (alloc2_at X2 _ _ _ _).1 (by exact i2) rfl (by exact IdD.one _) ?_)
      | (refine wpList_store_row rfl 25 (.tmp 7) (.tmp 25) rfl (X2.heap.size + 1) (x.cells : List Value).toArray rfl rfl 25 _ (new2_mid X2 _ _ _ _ _) (by exact i9) rfl (by exact OpD.one _) ?_; have hb8 := new2_below X2 #[.int .i64 0, .int .i64 0] #[.int .i64 0, .string ⟨#[]⟩, .string ⟨#[]⟩, .string ⟨#[]⟩, .string ⟨#[]⟩, .string ⟨#[]⟩, .string ⟨#[]⟩, .int .i64 0, .int .i64 0] (i.cells).toArray (x.cells : List Value).toArray 23 25; have h8 := hR.new2 #[.int .i64 0, .int .i64 0] #[.int .i64 0, .string ⟨#[]⟩, .string ⟨#[]⟩, .string ⟨#[]⟩, .string ⟨#[]⟩, .string ⟨#[]⟩, .string ⟨#[]⟩, .int .i64 0, .int .i64 0] 23 25 (i.cells) (x.cells); clear hR hb8; revert h8; generalize ((((X2.alloc (.cells #[.int .i64 0, .int .i64 0] 23)).alloc (.cells #[.int .i64 0, .string ⟨#[]⟩, .string ⟨#[]⟩, .string ⟨#[]⟩, .string ⟨#[]⟩, .string ⟨#[]⟩, .string ⟨#[]⟩, .int .i64 0, .int .i64 0] 25)).setRow X2.heap.size (i.cells).toArray).setRow (X2.heap.size + 1) (x.cells : List Value).toArray) = Z; generalize X2.heap.size = g2; intro hR)
      | (go_at_call 20; refine (H3.out _).mono ?_; rintro e X3 ⟨⟨p3, c3, rfl, hq3⟩, hb⟩; have h9 := hR.call hb; clear hR hb; have hR := h9; clear h9)
      | (refine wpList_store_row rfl 23 (.tmp 9) (.tmp 30) rfl X3.heap.size (j.cells).toArray rfl rfl 23 _ (alloc2_at X3 _ _ _ _).1 (by exact i2) rfl (by exact IdD.one _) ?_)
      | (refine wpList_store_row rfl 39 (.tmp 10) (.tmp 31) rfl (X3.heap.size + 1) ([.int .i64 r.err, .int .i64 r.at_, .slice p3 r.posts.length c3] : List Value).toArray rfl rfl 39 _ (new2_mid X3 _ _ _ _ _) (by exact i3) rfl (by exact RepD.oneC _ _ _) ?_; have hb8 := new2_below X3 #[.int .i64 0, .int .i64 0] #[.int .i64 0, .int .i64 0, .slice none 0 0] (j.cells).toArray ([.int .i64 r.err, .int .i64 r.at_, .slice p3 r.posts.length c3] : List Value).toArray 23 39; have h8 := hR.new2 #[.int .i64 0, .int .i64 0] #[.int .i64 0, .int .i64 0, .slice none 0 0] 23 39 (j.cells) ([.int .i64 r.err, .int .i64 r.at_, .slice p3 r.posts.length c3]); have q9 := PostsIn.below hq3 hb8; clear hq3; have hq3 := q9; clear q9; clear hR hb8; revert h8 hq3; generalize ((((X3.alloc (.cells #[.int .i64 0, .int .i64 0] 23)).alloc (.cells #[.int .i64 0, .int .i64 0, .slice none 0 0] 39)).setRow X3.heap.size (j.cells).toArray).setRow (X3.heap.size + 1) ([.int .i64 r.err, .int .i64 r.at_, .slice p3 r.posts.length c3] : List Value).toArray) = Z; generalize X3.heap.size = g3; intro hR hq3)
      | (go_at_call 29; refine (H4.out _).mono ?_; rintro e X4 ⟨⟨p4, c4, rfl, hq4⟩, hb⟩; (try have q9 := PostsIn.below hq3 hb; clear hq3; have hq3 := q9; clear q9); have h9 := hR.call hb; clear hR hb; have hR := h9; clear h9)
      | (refine wpList_store_row rfl 23 (.tmp 12) (.tmp 36) rfl X4.heap.size (j.cells).toArray rfl rfl 23 _ (alloc2_at X4 _ _ _ _).1 (by exact i2) rfl (by exact IdD.one _) ?_)
      | (refine wpList_store_row rfl 39 (.tmp 13) (.tmp 37) rfl (X4.heap.size + 1) ([.int .i64 r.err, .int .i64 r.at_, .slice p4 r.posts.length c4] : List Value).toArray rfl rfl 39 _ (new2_mid X4 _ _ _ _ _) (by exact i3) rfl (by exact RepD.oneC _ _ _) ?_; have hb8 := new2_below X4 #[.int .i64 0, .int .i64 0] #[.int .i64 0, .int .i64 0, .slice none 0 0] (j.cells).toArray ([.int .i64 r.err, .int .i64 r.at_, .slice p4 r.posts.length c4] : List Value).toArray 23 39; have h8 := hR.new2 #[.int .i64 0, .int .i64 0] #[.int .i64 0, .int .i64 0, .slice none 0 0] 23 39 (j.cells) ([.int .i64 r.err, .int .i64 r.at_, .slice p4 r.posts.length c4]); have q9 := PostsIn.below hq3 hb8; clear hq3; have hq3 := q9; clear q9; have q9 := PostsIn.below hq4 hb8; clear hq4; have hq4 := q9; clear q9; clear hR hb8; revert h8 hq3 hq4; generalize ((((X4.alloc (.cells #[.int .i64 0, .int .i64 0] 23)).alloc (.cells #[.int .i64 0, .int .i64 0, .slice none 0 0] 39)).setRow X4.heap.size (j.cells).toArray).setRow (X4.heap.size + 1) ([.int .i64 r.err, .int .i64 r.at_, .slice p4 r.posts.length c4] : List Value).toArray) = Z; generalize X4.heap.size = g4; intro hR hq3 hq4)
      | (refine hR.load (i := 0) rfl 39 (.tmp 13) rfl rfl rfl Try.underlying39 rfl (by exact i3) ?_)
      | (refine hR.load (i := 1) rfl 23 (.tmp 12) rfl rfl rfl Try.underlying23 rfl (by exact i2) ?_)
      | (refine hR.load (i := 2) rfl 39 (.tmp 10) rfl rfl rfl Try.underlying39 rfl (by exact i3) ?_)
      | (refine hR.load (i := 3) rfl 23 (.tmp 9) rfl rfl rfl Try.underlying23 rfl (by exact i2) ?_)
      | (refine hR.load (i := 4) rfl 25 (.tmp 7) rfl rfl rfl Try.underlying25 rfl (by exact i9) ?_)
      | (refine hR.load (i := 5) rfl 23 (.tmp 6) rfl rfl rfl Try.underlying23 rfl (by exact i2) ?_)
      | (refine hR.load (i := 6) rfl 25 (.tmp 4) rfl rfl rfl Try.underlying25 rfl (by exact i9) ?_)
      | (refine hR.load (i := 7) rfl 23 (.tmp 3) rfl rfl rfl Try.underlying23 rfl (by exact i2) ?_)
      | (go_at_call 21; refine (HS.out _ _ _ _ _ hq3 hq4).mono ?_; rintro e X5 ⟨rfl, hb⟩; have h9 := hR.call hb; clear hR hb hq3 hq4; have hR := h9; clear h9)
      | (go_at_call 11; refine (HA.out _ _ hR).mono ?_; rintro e X6 ⟨rfl, hb6⟩))
  go_ret
  exact ⟨rfl, hb6⟩

theorem walk (s : ByteArray) (w : World) (hs : s.size ≤ 140737488351232) :
    Calls Try.prog 8 #[.string s] w fun e w' => e = .returned (.bool true) ∧ Below w.heap.size w w' := by
  obtain ⟨i, x, E, hA⟩ : ∃ (i : IdD) (x : OpD) (E : Int), ∀ e, AskO s e → e = .returned (.tuple #[.agg i.cells.toArray, .agg x.cells.toArray, .int .i64 E]) := by
    have hT := ask_takeX s.data.toList
    cases hq : takeX 81 (Cm.dec ksAsk) s.data.toList with
    | none => exact ⟨zId, zOp, 140, fun e h => by unfold AskO at h; rw [hq] at h; exact h⟩
    | some vs =>
      rw [hq] at hT
      have : vs = (askI (markX 81 (some s.data.toList))).pss.flatten ++ (askV (markX 81 (some s.data.toList))).pss.flatten := by
        split at hT
        · injection hT
        · cases hT
      refine ⟨askI (markX 81 (some s.data.toList)), askV (markX 81 (some s.data.toList)), 0, fun e h => ?_⟩
      unfold AskO at h
      rw [hq] at h
      obtain ⟨i', x', hv, he⟩ := h
      obtain ⟨h1, h2⟩ := ask_inj (hv.symm.trans this)
      rw [he, h1, h2]
  obtain ⟨j, r, F, hr, hP, hD⟩ : ∃ (j : IdD) (r : RepD) (F : Int), r.posts.length ≤ 64 ∧ (∀ N e w', AnsO N s e w' → ∃ p c, e = .returned (.tuple #[.agg j.cells.toArray, .agg #[.int .i64 r.err, .int .i64 r.at_, .slice p r.posts.length c], .int .i64 F]) ∧ PostsIn w' p r.posts) ∧ (∀ e w', AnsR s e w' → ∃ p c, e = .returned (.tuple #[.agg j.cells.toArray, .agg #[.int .i64 r.err, .int .i64 r.at_, .slice p r.posts.length c], .int .i64 F]) ∧ PostsIn w' p r.posts) := by
    have hT := ans_takeX s.data.toList none
    cases hq : takeX 65 dAns s.data.toList with
    | none =>
      refine ⟨zId, zRep, 140, by show (0 : Nat) ≤ 64; omega, fun N e w' h => ?_, fun e w' h => ?_⟩
      · unfold AnsO at h; rw [hq] at h; exact ⟨none, 0, h, .inl rfl⟩
      · unfold AnsR at h; rw [hq] at h; exact ⟨none, 0, h, .inl rfl⟩
    | some vs =>
      rw [hq] at hT
      have hvs : vs = (ansI (markX 65 (some s.data.toList))).pss.flatten ++ (ansV (markX 65 (some s.data.toList)) none).pss.flatten := by
        split at hT
        · injection hT
        · cases hT
      refine ⟨ansI (markX 65 (some s.data.toList)), ansV (markX 65 (some s.data.toList)) none, 0, ?_, fun N e w' h => ?_, fun e w' h => ?_⟩
      · show (ansP (markX 65 (some s.data.toList))).length ≤ 64
        unfold ansP
        rw [postsV_len]
        exact cnt_le _ _
      · unfold AnsO at h
        rw [hq] at h
        obtain ⟨i', x', hv, he, hat, hl⟩ := h
        obtain ⟨h1, h2, h3, h4⟩ := ans_inj (hv.symm.trans hvs)
        refine ⟨x'.p, x'.posts.length, ?_, ?_⟩
        · rw [he, h1, ← h2, ← h3, ← h4]; rfl
        · rw [← h4]; exact hat.toIn
      · unfold AnsR at h
        rw [hq] at h
        obtain ⟨i', x', c', hv, he, hin, hl⟩ := h
        obtain ⟨h1, h2, h3, h4⟩ := ans_inj (hv.symm.trans hvs)
        refine ⟨x'.p, c', ?_, ?_⟩
        · rw [he, h1, ← h2, ← h3, ← h4]; rfl
        · rw [← h4]; exact hin
  exact main s w i j x r E F hr (fun X => (FromAsk_c s hs X).mono fun e w' ⟨a, b⟩ => ⟨hA e a, b⟩) (fun X => (rFromAsk_c s hs X).mono fun e w' ⟨a, b⟩ => ⟨hA e a, b⟩) (fun X => (FromAnswer_c s hs X).mono fun e w' ⟨a, b⟩ => ⟨hP _ e w' a, b⟩) (fun X => (rFromW_c s hs X).mono fun e w' ⟨a, b⟩ => ⟨hD e w' a, b⟩)

theorem own : ownKnob Try.prog.godebug = none := by kernel_rfl

set_option maxRecDepth 100000 in
theorem lifted (os : Os) (started : os.Started) (H : Type) (enc : TypeId × Value → H) :
    ReturnsInHanded {} Try.checked os 8 .any (Rows.commandTellsSpec.pre6 enc Try.prog Try.f8 Rows.commandTellsRow.domain false) (Rows.commandTellsSpec.post enc Try.prog Try.f8 false true false false) := by
  refine returnsInHanded_of_change_sized (C := Try.checked) own started (by kernel_rfl) Try.func8
    (ChangeSpec.witness6 (enc := enc) (C := Try.checked) false ⟨#[], #[.string ByteArray.empty], []⟩ 8 (by kernel_rfl) (by kernel_rfl) (by kernel_rfl) (by kernel_rfl)) ?_
  intro W base args ds gs before hval0 hW _ hsz0 _
  have hsz : (DataW.weightsEach Try.prog (Try.f8.params.toList ++ Rows.commandTellsSpec.plain.varTypes Try.prog) (ds ++ gs)).all (· ≤ reachBytes) = true := hsz0
  have hval : ∀ (j : Nat) t v, Try.f8.params[j]? = some t → args[j]? = some v → Value.okWide Try.prog W .any base t v := hval0
  have hW' := hW
  obtain ⟨p, q, hA0, hV, rfl, hfz, hnd⟩ := hW
  have hA : DataW.TrodAll enc Try.prog W 0 (fun _ => true) true Try.f8.params.toList args.toList ds p := hA0
  rw [Try.params8] at hA hval hsz
  obtain ⟨v0, vs0, d0, ds0, p0, q0, hargs, rfl, rfl, h0, r0⟩ := trodAll_cons hA
  obtain ⟨rfl, rfl, rfl⟩ := trodAll_nil r0
  obtain rfl : args = #[v0] := by cases args; simp_all
  obtain ⟨rfl, rfl⟩ := trodVars_none hV
  obtain ⟨a0, rfl, rfl, rfl, w0⟩ := open_string Try.underlying9 (hval 0 9 v0 rfl rfl) h0
  have b0 : a0.size ≤ 140737488351232 := by have := sized_string hsz (j := 0) (t := 9) rfl rfl; simpa [reachBytes] using this
  clear hA0 hval0 hsz0
  refine (walk a0 W b0).mono fun e W' ⟨he, bel⟩ => ?_
  subst he
  exact ⟨_, rfl, _, _, _, [], _, [], hW', trodAll_mk1 (shut_bool Try.underlying4 _), (trodAll_cons_mk (shut_string Try.underlying9 w0) trodAll_mk0), rfl, bel.frame _, fun h => by cases h⟩

theorem over : Rows.commandTellsRow.holds Try.pinned (OpenSpec.ofChange Rows.commandTellsSpec) :=
  OpenClaim.holds_of_wide 8 Try.f8 rfl rfl rfl rfl rfl rfl rfl ⟨rfl, rfl, rfl, rfl, rfl⟩ rfl rfl rfl rfl rfl (by kernel_rfl) Try.func8 (by kernel_rfl)
    (of_decide_eq_true (by kernel_rfl)) (by unfold Func.isWrapper; first | (rw [if_pos (by decide +kernel)]; kernel_rfl) | (rw [if_neg (by decide +kernel)]; exact ⟨rfl, rfl⟩))
    (fun os started H enc _ => lifted os started H enc)


end Go.Proofs.Ytgkcchbignakcaa.commandTells
namespace Go.Proofs.Ytgkcchbignakcaa
/-- The statement. -/
theorem commandTells_holds : Rows.CommandTellsSaid := commandTells.over
end Go.Proofs.Ytgkcchbignakcaa
