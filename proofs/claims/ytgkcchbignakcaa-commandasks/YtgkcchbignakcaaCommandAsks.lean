/-
  For every id, op and reply: CommandAsks answers true: their bytes, and their errors, are the document's, and what is read of the bytes is what was put; the arguments read afterwards as before. No condition.
-/
import Derived.Test.YtgkcchbignakcaaCmDEnc
import Derived.Test.YtgkcchbignakcaaCmOutP
import Derived.Test.YtgkcchbignakcaaCmOutW
import Derived.Test.YtgkcchbignakcaaCmPutW
import Derived.Test.YtgkcchbignakcaaCmArgs2
import Derived.Test.YtgkcchbignakcaaCmShort
import Derived.Test.YtgkcchbignakcaaCmNe
import Derived.ProofKit
import Derived.OpenShut
import Derived.ShutString
import Derived.SizedLaws
namespace Go.Proofs.Ytgkcchbignakcaa.commandAsks
open Go.ChangeShapes Go.WideShapes Go.ChangeAt Go.RowKit
open Go.ChangeMaps (open_string shut_string)

theorem RepD.oneC (e t : Int) (v : Value) (hv : v.oneCell' = true := by rfl) : ([.int .i64 e, .int .i64 t, v] : List Value).toArray.all (·.oneCell') = true := all_oneCell_toArray (fun u hu => by
  simp only [List.mem_cons, List.not_mem_nil, or_false] at hu
  rcases hu with rfl | rfl | rfl
  · rfl
  · rfl
  · exact hv)

set_option maxHeartbeats 8000000 in
set_option maxRecDepth 100000 in
theorem main (i : IdD) (x : OpD) (r : RepD) (c : Nat) (w : World) (S S2 : ByteArray) (E E2 : Int) (hE : E = 0 ∨ E = 1) (hE2 : E2 = 0 ∨ E2 = 1) (hin : PostsIn w r.p r.posts)
    (H1 : Hid (∀ X, Calls Try.prog 15 #[.agg #[.int .i64 i.session, .int .i64 i.seq], .agg #[.int .i64 x.kind, .string x.space, .string x.channel, .string x.user, .string x.text, .string x.toSpace, .string x.to, .int .i64 x.frm, .int .i64 x.most]] X fun e w' => e = .returned (.tuple #[.string S, .int .i64 E]) ∧ Below X.heap.size X w'))
    (H2 : Hid (∀ X, Calls Try.prog 16 #[.agg #[.int .i64 i.session, .int .i64 i.seq], .agg #[.int .i64 x.kind, .string x.space, .string x.channel, .string x.user, .string x.text, .string x.toSpace, .string x.to, .int .i64 x.frm, .int .i64 x.most]] X fun e w' => e = .returned (.tuple #[.string S, .int .i64 E]) ∧ Below X.heap.size X w'))
    (H3 : Hid (r.posts.length ≤ 71 → ∀ X, PostsIn X r.p r.posts → Calls Try.prog 17 #[.agg #[.int .i64 i.session, .int .i64 i.seq], .agg #[.int .i64 r.err, .int .i64 r.at_, .slice r.p r.posts.length c]] X fun e w' => e = .returned (.tuple #[.string S2, .int .i64 E2]) ∧ Below X.heap.size X w'))
    (H4 : Hid (∀ X, PostsIn X r.p r.posts → Calls Try.prog 18 #[.agg #[.int .i64 i.session, .int .i64 i.seq], .agg #[.int .i64 r.err, .int .i64 r.at_, .slice r.p r.posts.length c]] X fun e w' => e = .returned (.tuple #[.string S2, .int .i64 E2]) ∧ Below X.heap.size X w'))
    (H5 : Hid (E = 0 → ∀ X, Calls Try.prog 19 #[.string S] X fun e w' => e = .returned (.tuple #[.agg #[.int .i64 i.session, .int .i64 i.seq], .agg #[.int .i64 x.kind, .string x.space, .string x.channel, .string x.user, .string x.text, .string x.toSpace, .string x.to, .int .i64 x.frm, .int .i64 x.most], .int .i64 0]) ∧ Below X.heap.size X w'))
    (H6 : Hid (E2 = 0 → r.posts.length ≤ 71 → ∀ X, Calls Try.prog 20 #[.string S2] X fun e w' => (∃ p c, e = .returned (.tuple #[.agg #[.int .i64 i.session, .int .i64 i.seq], .agg #[.int .i64 r.err, .int .i64 r.at_, .slice p r.posts.length c], .int .i64 0]) ∧ PostsIn w' p r.posts) ∧ Below X.heap.size X w')) :
    Calls Try.prog 4 #[.agg #[.int .i64 i.session, .int .i64 i.seq], .agg #[.int .i64 x.kind, .string x.space, .string x.channel, .string x.user, .string x.text, .string x.toSpace, .string x.to, .int .i64 x.frm, .int .i64 x.most], .agg #[.int .i64 r.err, .int .i64 r.at_, .slice r.p r.posts.length c]] w fun e w' => e = .returned (.bool true) ∧ Below w.heap.size w w' := by
  have i2 : (Try.prog.info? 23).map (·.size) = some 2 := by kernel_rfl
  have i9 : (Try.prog.info? 25).map (·.size) = some 9 := by kernel_rfl
  have i3 : (Try.prog.info? 39).map (·.size) = some 3 := by kernel_rfl
  have hbw : Below w.heap.size w (((w.alloc (.cells #[.int .i64 i.session, .int .i64 i.seq] 23)).alloc (.cells #[.int .i64 x.kind, .string x.space, .string x.channel, .string x.user, .string x.text, .string x.toSpace, .string x.to, .int .i64 x.frm, .int .i64 x.most] 25)).alloc (.cells #[.int .i64 r.err, .int .i64 r.at_, .slice r.p r.posts.length c] 39)) := ((alloc_below w _).alloc (by simp) _).alloc (by simp; omega) _
  have HR0 : Hid (Bw w [(w.heap.size + 1 + 1, 39, [.int .i64 r.err, .int .i64 r.at_, .slice r.p r.posts.length c]), (w.heap.size + 1, 25, [.int .i64 x.kind, .string x.space, .string x.channel, .string x.user, .string x.text, .string x.toSpace, .string x.to, .int .i64 x.frm, .int .i64 x.most]), (w.heap.size, 23, [.int .i64 i.session, .int .i64 i.seq])] (((w.alloc (.cells #[.int .i64 i.session, .int .i64 i.seq] 23)).alloc (.cells #[.int .i64 x.kind, .string x.space, .string x.channel, .string x.user, .string x.text, .string x.toSpace, .string x.to, .int .i64 x.frm, .int .i64 x.most] 25)).alloc (.cells #[.int .i64 r.err, .int .i64 r.at_, .slice r.p r.posts.length c] 39)) ∧ PostsIn (((w.alloc (.cells #[.int .i64 i.session, .int .i64 i.seq] 23)).alloc (.cells #[.int .i64 x.kind, .string x.space, .string x.channel, .string x.user, .string x.text, .string x.toSpace, .string x.to, .int .i64 x.frm, .int .i64 x.most] 25)).alloc (.cells #[.int .i64 r.err, .int .i64 r.at_, .slice r.p r.posts.length c] 39)) r.p r.posts) := by
    refine ⟨⟨hbw, fun p hp => ?_⟩, hin.below hbw⟩
    simp only [List.mem_cons, List.not_mem_nil, or_false] at hp
    rcases hp with rfl | rfl | rfl
    · have := heap_alloc_new ((w.alloc (.cells #[.int .i64 i.session, .int .i64 i.seq] 23)).alloc (.cells #[.int .i64 x.kind, .string x.space, .string x.channel, .string x.user, .string x.text, .string x.toSpace, .string x.to, .int .i64 x.frm, .int .i64 x.most] 25)) (.cells #[.int .i64 r.err, .int .i64 r.at_, .slice r.p r.posts.length c] 39)
      simpa using this
    · rw [Below.heap_alloc _ _ _ (by simp)]
      have := heap_alloc_new (w.alloc (.cells #[.int .i64 i.session, .int .i64 i.seq] 23)) (.cells #[.int .i64 x.kind, .string x.space, .string x.channel, .string x.user, .string x.text, .string x.toSpace, .string x.to, .int .i64 x.frm, .int .i64 x.most] 25)
      simpa using this
    · rw [Below.heap_alloc _ _ _ (by simp; omega), Below.heap_alloc _ _ _ (by simp)]
      exact heap_alloc_new _ _
  have HA : Hid (∀ X bs, Bw w bs X → Calls Try.prog 11 #[] X fun e w' => e = .returned (.bool true) ∧ Below w.heap.size w w') := fun X bs h => (awake_c X).mono fun e w' ⟨a, b⟩ => ⟨a, bel_then h.below b⟩
  have HS : Hid (r.posts.length ≤ 71 → ∀ (X : World) (p p' : Option Addr) (c c' : Nat), PostsIn X p r.posts → PostsIn X p' r.posts → Calls Try.prog 21 #[.agg #[.int .i64 r.err, .int .i64 r.at_, .slice p r.posts.length c], .agg #[.int .i64 r.err, .int .i64 r.at_, .slice p' r.posts.length c']] X fun e w' => e = .returned (.bool true) ∧ Below X.heap.size X w') := fun hl X p p' c c' h h' => SameReply_c r h h' (by omega)
  have en1 := ne_of_eq (run_idEq i w)
  have e1 : ∀ W, (binOp .neq 23 (.agg #[.int .i64 i.session, .int .i64 i.seq]) (.agg #[.int .i64 i.session, .int .i64 i.seq])).run Try.prog W = .ok (.bool false) W := fun W => ne_of_eq (run_idEq i W)
  have e3 : ∀ W, (binOp .neq 25 (.agg #[.int .i64 x.kind, .string x.space, .string x.channel, .string x.user, .string x.text, .string x.toSpace, .string x.to, .int .i64 x.frm, .int .i64 x.most]) (.agg #[.int .i64 x.kind, .string x.space, .string x.channel, .string x.user, .string x.text, .string x.toSpace, .string x.to, .int .i64 x.frm, .int .i64 x.most])).run Try.prog W = .ok (.bool false) W := fun W => ne_of_eq (run_opEq x W)
  have HE := hidden hE
  have HE2 := hidden hE2
  clear hin hE hE2 hbw en1
  obtain ⟨n, hn⟩ : ∃ n, n = r.posts.length := ⟨_, rfl⟩
  have HN := hidden hn
  rw [← hn] at HR0 HS H3 H4 H6 ⊢
  clear hn
  go_enter Try.func4, Try.ntmps4
  go_wp2
  go_loopw [7] (fun v wr => ∃ k : Nat, v = .int .i64 (k : Int) ∧ k ≤ n ∧ k ≤ 71 ∧ Hid (Bw w [(w.heap.size + 1 + 1, 39, [.int .i64 r.err, .int .i64 r.at_, .slice r.p n c]), (w.heap.size + 1, 25, [.int .i64 x.kind, .string x.space, .string x.channel, .string x.user, .string x.text, .string x.toSpace, .string x.to, .int .i64 x.frm, .int .i64 x.most]), (w.heap.size, 23, [.int .i64 i.session, .int .i64 i.seq])] wr ∧ PostsIn wr r.p r.posts))
    (fun v _ => n - (intOf v).toNat)
  case atStart => exact ⟨0, rfl, Nat.zero_le _, Nat.zero_le _, HR0⟩
  case round =>
    obtain ⟨k, rfl, hkn, hk21, HR⟩ := hrel
    have hR := HR.out.1
    have c7 : wr.cell? ⟨w.heap.size + 1 + 1, 2, none⟩ = some (.slice r.p n c) := by
      have := hR.range (i := 0) rfl 2 _ rfl
      simpa using this
    by_cases hlt : k < n
    · obtain ⟨e, hek⟩ : ∃ e, r.posts[k]? = some e := ⟨r.posts[k]'(by rw [← HN.out]; exact hlt), List.getElem?_eq_getElem _⟩
      obtain ⟨g, o, hp, hg, hge⟩ : ∃ g o, r.p = some ⟨g, o, none⟩ ∧ g < wr.heap.size ∧ ∀ (i : Nat) (e : ByteArray × ByteArray), r.posts[i]? = some e → wr.cell? ⟨g, o + i * 2, none⟩ = some (.string e.1) ∧ wr.cell? ⟨g, o + i * 2 + 1, none⟩ = some (.string e.2) := by
        rcases HR.out.2 with h0 | h0
        · rw [h0] at hek; simp at hek
        · exact h0
      obtain ⟨e0, e4⟩ := hge k e hek
      rw [hp] at c7
      have HPP := hidden hp
      clear hp
      have HAW := hidden (HA.out _ _ hR)
      clear hek hge hg hR e1 e3
      have hi0 : (0 : Int) ≤ (k : Int) := by omega
      have hi1 : (k : Int) < (n : Int) := by omega
      obtain ⟨u1, u2⟩ := e
      simp only at e0 e4
      have HL1 : Hid (∀ X, Calls Try.prog 10 #[.string u1] X fun e w' => e = .returned (.bool (lightB u1)) ∧ w' = X) := light_c u1
      have HL2 : Hid (∀ X, Calls Try.prog 10 #[.string u2] X fun e w' => e = .returned (.bool (lightB u2)) ∧ w' = X) := light_c u2
      generalize lightB u1 = b1 at HL1
      generalize lightB u2 = b2 at HL2
      by_cases hall : b1 = true ∧ b2 = true ∧ k ≤ 70
      · obtain ⟨rfl, rfl, h20⟩ := hall
        have h21 : ¬ 70 < k := by omega
        go_wp2_with (first
          | (go_at_call_of 10 (Value.string u1); refine (HL1.out _).mono ?_; rintro e w3 ⟨rfl, h3⟩; subst h3)
          | (go_at_call_of 10 (Value.string u2); refine (HL2.out _).mono ?_; rintro e w3 ⟨rfl, h3⟩; subst h3))
        go_roundw
        case rel =>
          first | exact ⟨k + 1, by go_num, hlt, by omega, HR⟩ | ((repeat apply Exists.intro); refine And.intro ?_ rfl; exact ⟨k + 1, by go_num, hlt, by omega, HR⟩)
        case measure => simp [intOf]; omega
      · have hw : (b1 = false) ∨ (b1 = true ∧ b2 = false) ∨ (b1 = true ∧ b2 = true ∧ 70 < k) := by
          cases b1
          · exact .inl rfl
          · cases b2
            · exact .inr (.inl ⟨rfl, rfl⟩)
            · exact .inr (.inr ⟨rfl, rfl, by
                rcases Nat.lt_or_ge 70 k with h | h
                · exact h
                · exact absurd ⟨rfl, rfl, h⟩ hall⟩)
        clear hall
        rcases hw with rfl | ⟨rfl, rfl⟩ | ⟨rfl, rfl, h21⟩
        all_goals
          go_wp2_with (first
            | (go_at_call_of 10 (Value.string u1); refine (HL1.out _).mono ?_; rintro e w3 ⟨rfl, h3⟩; subst h3)
            | (go_at_call_of 10 (Value.string u2); refine (HL2.out _).mono ?_; rintro e w3 ⟨rfl, h3⟩; subst h3)
            | (go_at_call 11; refine (HAW.out).mono ?_; rintro e w4 ⟨rfl, hb4⟩))
          go_ret
          exact ⟨rfl, hb4⟩
    · obtain rfl : k = n := by omega
      have hq1 := HR.out.2
      have H3b := hidden (H3.out hk21)
      have HSb := hidden (HS.out hk21)
      have H6b := hidden (fun h : E2 = 0 => H6.out h hk21)
      clear hk21 H3 HS H6
      have hs1 : (S.toList == S.toList) = true := by simp
      have hs2 : (S2.toList == S2.toList) = true := by simp
      cases hsb : shortB x with
      | false =>
        go_wp2_with (first
            | (go_at_call 9; refine (short_c x _).mono ?_; rintro e X7 ⟨rfl, hb⟩; rw [hsb]; have q9 := PostsIn.below hq1 hb; clear hq1; have hq1 := q9; clear q9; have h9 := hR.call hb; clear hR hb; have hR := h9; clear h9)
            | (go_at_call 11; refine (HA.out _ _ hR).mono ?_; rintro e X6 ⟨rfl, hb6⟩)
            | (refine hR.load (i := 1) rfl 25 (.tmp 4) rfl rfl rfl Try.underlying25 rfl (by exact i9) ?_))
        go_ret
        exact ⟨rfl, hb6⟩
      | true =>
        have HE1 := HE.out
        have HE3 := HE2.out
        rcases HE1 with hE | hE
        · rcases HE3 with hE2 | hE2
          · subst hE hE2
            go_wp2_with (first
            | (go_at_call 9; refine (short_c x _).mono ?_; rintro e X7 ⟨rfl, hb⟩; rw [hsb]; have q9 := PostsIn.below hq1 hb; clear hq1; have hq1 := q9; clear q9; have h9 := hR.call hb; clear hR hb; have hR := h9; clear h9)
            | (go_at_call 15; refine (H1.out _).mono ?_; rintro e X7 ⟨rfl, hb⟩; have q9 := PostsIn.below hq1 hb; clear hq1; have hq1 := q9; clear q9; have h9 := hR.call hb; clear hR hb; have hR := h9; clear h9)
            | (go_at_call 16; refine (H2.out _).mono ?_; rintro e X7 ⟨rfl, hb⟩; have q9 := PostsIn.below hq1 hb; clear hq1; have hq1 := q9; clear q9; have h9 := hR.call hb; clear hR hb; have hR := h9; clear h9)
            | (go_at_call 17; refine (H3b.out _ hq1).mono ?_; rintro e X7 ⟨rfl, hb⟩; have q9 := PostsIn.below hq1 hb; clear hq1; have hq1 := q9; clear q9; have h9 := hR.call hb; clear hR hb; have hR := h9; clear h9)
            | (go_at_call 18; refine (H4.out _ hq1).mono ?_; rintro e X7 ⟨rfl, hb⟩; have q9 := PostsIn.below hq1 hb; clear hq1; have hq1 := q9; clear q9; have h9 := hR.call hb; clear hR hb; have hR := h9; clear h9)
            | (go_at_call 19; refine (H5.out (by first | trivial | rfl) _).mono ?_; rintro e X1 ⟨rfl, hb⟩; have q9 := PostsIn.below hq1 hb; clear hq1; have hq1 := q9; clear q9; have h9 := hR.call hb; clear hR hb; have hR := h9; clear h9)
            | (refine wpList_store_row rfl 23 (.tmp 16) (.tmp 103) rfl X1.heap.size ([.int .i64 i.session, .int .i64 i.seq] : List Value).toArray rfl rfl 23 _ (alloc2_at X1 _ _ _ _).1 (by exact i2) rfl (by exact IdD.one _) ?_)
            | (refine wpList_store_row rfl 25 (.tmp 17) (.tmp 104) rfl (X1.heap.size + 1) ([.int .i64 x.kind, .string x.space, .string x.channel, .string x.user, .string x.text, .string x.toSpace, .string x.to, .int .i64 x.frm, .int .i64 x.most] : List Value).toArray rfl rfl 25 _ (new2_mid X1 _ _ _ _ _) (by exact i9) rfl (by exact OpD.one _) ?_; have hb8 := new2_below X1 #[.int .i64 0, .int .i64 0] #[.int .i64 0, .string ⟨#[]⟩, .string ⟨#[]⟩, .string ⟨#[]⟩, .string ⟨#[]⟩, .string ⟨#[]⟩, .string ⟨#[]⟩, .int .i64 0, .int .i64 0] ([.int .i64 i.session, .int .i64 i.seq] : List Value).toArray ([.int .i64 x.kind, .string x.space, .string x.channel, .string x.user, .string x.text, .string x.toSpace, .string x.to, .int .i64 x.frm, .int .i64 x.most] : List Value).toArray 23 25; have h8 := hR.new2 #[.int .i64 0, .int .i64 0] #[.int .i64 0, .string ⟨#[]⟩, .string ⟨#[]⟩, .string ⟨#[]⟩, .string ⟨#[]⟩, .string ⟨#[]⟩, .string ⟨#[]⟩, .int .i64 0, .int .i64 0] 23 25 [.int .i64 i.session, .int .i64 i.seq] [.int .i64 x.kind, .string x.space, .string x.channel, .string x.user, .string x.text, .string x.toSpace, .string x.to, .int .i64 x.frm, .int .i64 x.most]; have q9 := PostsIn.below hq1 hb8; clear hq1; have hq1 := q9; clear q9; clear hR hb8; revert h8 hq1; generalize ((((X1.alloc (.cells #[.int .i64 0, .int .i64 0] 23)).alloc (.cells #[.int .i64 0, .string ⟨#[]⟩, .string ⟨#[]⟩, .string ⟨#[]⟩, .string ⟨#[]⟩, .string ⟨#[]⟩, .string ⟨#[]⟩, .int .i64 0, .int .i64 0] 25)).setRow X1.heap.size ([.int .i64 i.session, .int .i64 i.seq] : List Value).toArray).setRow (X1.heap.size + 1) ([.int .i64 x.kind, .string x.space, .string x.channel, .string x.user, .string x.text, .string x.toSpace, .string x.to, .int .i64 x.frm, .int .i64 x.most] : List Value).toArray) = Z; generalize X1.heap.size = g1; intro hR hq1)
            | (go_at_call 20; refine (H6b.out (by first | trivial | rfl) _).mono ?_; rintro e X4 ⟨⟨p4, c4, rfl, hq4⟩, hb⟩; have q9 := PostsIn.below hq1 hb; clear hq1; have hq1 := q9; clear q9; have h9 := hR.call hb; clear hR hb; have hR := h9; clear h9)
            | (refine wpList_store_row rfl 23 (.tmp 19) (.tmp 123) rfl X4.heap.size ([.int .i64 i.session, .int .i64 i.seq] : List Value).toArray rfl rfl 23 _ (alloc2_at X4 _ _ _ _).1 (by exact i2) rfl (by exact IdD.one _) ?_)
            | (refine wpList_store_row rfl 39 (.tmp 20) (.tmp 124) rfl (X4.heap.size + 1) ([.int .i64 r.err, .int .i64 r.at_, .slice p4 k c4] : List Value).toArray rfl rfl 39 _ (new2_mid X4 _ _ _ _ _) (by exact i3) rfl (by exact RepD.oneC _ _ _) ?_; have hb8 := new2_below X4 #[.int .i64 0, .int .i64 0] #[.int .i64 0, .int .i64 0, .slice none 0 0] ([.int .i64 i.session, .int .i64 i.seq] : List Value).toArray ([.int .i64 r.err, .int .i64 r.at_, .slice p4 k c4] : List Value).toArray 23 39; have h8 := hR.new2 #[.int .i64 0, .int .i64 0] #[.int .i64 0, .int .i64 0, .slice none 0 0] 23 39 [.int .i64 i.session, .int .i64 i.seq] [.int .i64 r.err, .int .i64 r.at_, .slice p4 k c4]; have q9 := PostsIn.below hq1 hb8; clear hq1; have hq1 := q9; clear q9; have q9 := PostsIn.below hq4 hb8; clear hq4; have hq4 := q9; clear q9; clear hR hb8; revert h8 hq1 hq4; generalize ((((X4.alloc (.cells #[.int .i64 0, .int .i64 0] 23)).alloc (.cells #[.int .i64 0, .int .i64 0, .slice none 0 0] 39)).setRow X4.heap.size ([.int .i64 i.session, .int .i64 i.seq] : List Value).toArray).setRow (X4.heap.size + 1) ([.int .i64 r.err, .int .i64 r.at_, .slice p4 k c4] : List Value).toArray) = Z; generalize X4.heap.size = g4; intro hR hq1 hq4)
            | (go_at_call 21; refine (HSb.out _ _ _ _ _ hq4 hq1).mono ?_; rintro e X5 ⟨rfl, hb⟩; have q9 := PostsIn.below hq1 hb; clear hq1; have hq1 := q9; clear q9; have h9 := hR.call hb; clear hR hb; have hR := h9; clear h9)
            | (go_at_call 11; refine (HA.out _ _ hR).mono ?_; rintro e X6 ⟨rfl, hb6⟩)
            | (refine hR.load (i := 2) rfl 23 (.tmp 3) rfl rfl rfl Try.underlying23 rfl (by exact i2) ?_)
            | (refine hR.load (i := 1) rfl 25 (.tmp 4) rfl rfl rfl Try.underlying25 rfl (by exact i9) ?_)
            | (refine hR.load (i := 0) rfl 39 (.tmp 5) rfl rfl rfl Try.underlying39 rfl (by exact i3) ?_)
            | (refine hR.load (i := 4) rfl 23 (.tmp 3) rfl rfl rfl Try.underlying23 rfl (by exact i2) ?_)
            | (refine hR.load (i := 3) rfl 25 (.tmp 4) rfl rfl rfl Try.underlying25 rfl (by exact i9) ?_)
            | (refine hR.load (i := 2) rfl 39 (.tmp 5) rfl rfl rfl Try.underlying39 rfl (by exact i3) ?_)
            | (refine hR.load (i := 6) rfl 23 (.tmp 3) rfl rfl rfl Try.underlying23 rfl (by exact i2) ?_)
            | (refine hR.load (i := 5) rfl 25 (.tmp 4) rfl rfl rfl Try.underlying25 rfl (by exact i9) ?_)
            | (refine hR.load (i := 4) rfl 39 (.tmp 5) rfl rfl rfl Try.underlying39 rfl (by exact i3) ?_)
            | (refine hR.load (i := 1) rfl 23 (.tmp 16) rfl rfl rfl Try.underlying23 rfl (by exact i2) ?_)
            | (refine hR.load (i := 0) rfl 25 (.tmp 17) rfl rfl rfl Try.underlying25 rfl (by exact i9) ?_)
            | (refine hR.load (i := 1) rfl 23 (.tmp 19) rfl rfl rfl Try.underlying23 rfl (by exact i2) ?_)
            | (refine hR.load (i := 0) rfl 39 (.tmp 20) rfl rfl rfl Try.underlying39 rfl (by exact i3) ?_))
            go_ret
            exact ⟨rfl, hb6⟩
          · subst hE hE2
            go_wp2_with (first
            | (go_at_call 9; refine (short_c x _).mono ?_; rintro e X7 ⟨rfl, hb⟩; rw [hsb]; have q9 := PostsIn.below hq1 hb; clear hq1; have hq1 := q9; clear q9; have h9 := hR.call hb; clear hR hb; have hR := h9; clear h9)
            | (go_at_call 15; refine (H1.out _).mono ?_; rintro e X7 ⟨rfl, hb⟩; have q9 := PostsIn.below hq1 hb; clear hq1; have hq1 := q9; clear q9; have h9 := hR.call hb; clear hR hb; have hR := h9; clear h9)
            | (go_at_call 16; refine (H2.out _).mono ?_; rintro e X7 ⟨rfl, hb⟩; have q9 := PostsIn.below hq1 hb; clear hq1; have hq1 := q9; clear q9; have h9 := hR.call hb; clear hR hb; have hR := h9; clear h9)
            | (go_at_call 17; refine (H3b.out _ hq1).mono ?_; rintro e X7 ⟨rfl, hb⟩; have q9 := PostsIn.below hq1 hb; clear hq1; have hq1 := q9; clear q9; have h9 := hR.call hb; clear hR hb; have hR := h9; clear h9)
            | (go_at_call 18; refine (H4.out _ hq1).mono ?_; rintro e X7 ⟨rfl, hb⟩; have q9 := PostsIn.below hq1 hb; clear hq1; have hq1 := q9; clear q9; have h9 := hR.call hb; clear hR hb; have hR := h9; clear h9)
            | (go_at_call 19; refine (H5.out (by first | trivial | rfl) _).mono ?_; rintro e X1 ⟨rfl, hb⟩; have q9 := PostsIn.below hq1 hb; clear hq1; have hq1 := q9; clear q9; have h9 := hR.call hb; clear hR hb; have hR := h9; clear h9)
            | (refine wpList_store_row rfl 23 (.tmp 16) (.tmp 103) rfl X1.heap.size ([.int .i64 i.session, .int .i64 i.seq] : List Value).toArray rfl rfl 23 _ (alloc2_at X1 _ _ _ _).1 (by exact i2) rfl (by exact IdD.one _) ?_)
            | (refine wpList_store_row rfl 25 (.tmp 17) (.tmp 104) rfl (X1.heap.size + 1) ([.int .i64 x.kind, .string x.space, .string x.channel, .string x.user, .string x.text, .string x.toSpace, .string x.to, .int .i64 x.frm, .int .i64 x.most] : List Value).toArray rfl rfl 25 _ (new2_mid X1 _ _ _ _ _) (by exact i9) rfl (by exact OpD.one _) ?_; have hb8 := new2_below X1 #[.int .i64 0, .int .i64 0] #[.int .i64 0, .string ⟨#[]⟩, .string ⟨#[]⟩, .string ⟨#[]⟩, .string ⟨#[]⟩, .string ⟨#[]⟩, .string ⟨#[]⟩, .int .i64 0, .int .i64 0] ([.int .i64 i.session, .int .i64 i.seq] : List Value).toArray ([.int .i64 x.kind, .string x.space, .string x.channel, .string x.user, .string x.text, .string x.toSpace, .string x.to, .int .i64 x.frm, .int .i64 x.most] : List Value).toArray 23 25; have h8 := hR.new2 #[.int .i64 0, .int .i64 0] #[.int .i64 0, .string ⟨#[]⟩, .string ⟨#[]⟩, .string ⟨#[]⟩, .string ⟨#[]⟩, .string ⟨#[]⟩, .string ⟨#[]⟩, .int .i64 0, .int .i64 0] 23 25 [.int .i64 i.session, .int .i64 i.seq] [.int .i64 x.kind, .string x.space, .string x.channel, .string x.user, .string x.text, .string x.toSpace, .string x.to, .int .i64 x.frm, .int .i64 x.most]; have q9 := PostsIn.below hq1 hb8; clear hq1; have hq1 := q9; clear q9; clear hR hb8; revert h8 hq1; generalize ((((X1.alloc (.cells #[.int .i64 0, .int .i64 0] 23)).alloc (.cells #[.int .i64 0, .string ⟨#[]⟩, .string ⟨#[]⟩, .string ⟨#[]⟩, .string ⟨#[]⟩, .string ⟨#[]⟩, .string ⟨#[]⟩, .int .i64 0, .int .i64 0] 25)).setRow X1.heap.size ([.int .i64 i.session, .int .i64 i.seq] : List Value).toArray).setRow (X1.heap.size + 1) ([.int .i64 x.kind, .string x.space, .string x.channel, .string x.user, .string x.text, .string x.toSpace, .string x.to, .int .i64 x.frm, .int .i64 x.most] : List Value).toArray) = Z; generalize X1.heap.size = g1; intro hR hq1)
            | (go_at_call 11; refine (HA.out _ _ hR).mono ?_; rintro e X6 ⟨rfl, hb6⟩)
            | (refine hR.load (i := 2) rfl 23 (.tmp 3) rfl rfl rfl Try.underlying23 rfl (by exact i2) ?_)
            | (refine hR.load (i := 1) rfl 25 (.tmp 4) rfl rfl rfl Try.underlying25 rfl (by exact i9) ?_)
            | (refine hR.load (i := 0) rfl 39 (.tmp 5) rfl rfl rfl Try.underlying39 rfl (by exact i3) ?_)
            | (refine hR.load (i := 4) rfl 23 (.tmp 3) rfl rfl rfl Try.underlying23 rfl (by exact i2) ?_)
            | (refine hR.load (i := 3) rfl 25 (.tmp 4) rfl rfl rfl Try.underlying25 rfl (by exact i9) ?_)
            | (refine hR.load (i := 2) rfl 39 (.tmp 5) rfl rfl rfl Try.underlying39 rfl (by exact i3) ?_)
            | (refine hR.load (i := 1) rfl 23 (.tmp 16) rfl rfl rfl Try.underlying23 rfl (by exact i2) ?_)
            | (refine hR.load (i := 0) rfl 25 (.tmp 17) rfl rfl rfl Try.underlying25 rfl (by exact i9) ?_))
            go_ret
            exact ⟨rfl, hb6⟩
        · rcases HE3 with hE2 | hE2
          · subst hE hE2
            go_wp2_with (first
            | (go_at_call 9; refine (short_c x _).mono ?_; rintro e X7 ⟨rfl, hb⟩; rw [hsb]; have q9 := PostsIn.below hq1 hb; clear hq1; have hq1 := q9; clear q9; have h9 := hR.call hb; clear hR hb; have hR := h9; clear h9)
            | (go_at_call 15; refine (H1.out _).mono ?_; rintro e X7 ⟨rfl, hb⟩; have q9 := PostsIn.below hq1 hb; clear hq1; have hq1 := q9; clear q9; have h9 := hR.call hb; clear hR hb; have hR := h9; clear h9)
            | (go_at_call 16; refine (H2.out _).mono ?_; rintro e X7 ⟨rfl, hb⟩; have q9 := PostsIn.below hq1 hb; clear hq1; have hq1 := q9; clear q9; have h9 := hR.call hb; clear hR hb; have hR := h9; clear h9)
            | (go_at_call 17; refine (H3b.out _ hq1).mono ?_; rintro e X7 ⟨rfl, hb⟩; have q9 := PostsIn.below hq1 hb; clear hq1; have hq1 := q9; clear q9; have h9 := hR.call hb; clear hR hb; have hR := h9; clear h9)
            | (go_at_call 18; refine (H4.out _ hq1).mono ?_; rintro e X7 ⟨rfl, hb⟩; have q9 := PostsIn.below hq1 hb; clear hq1; have hq1 := q9; clear q9; have h9 := hR.call hb; clear hR hb; have hR := h9; clear h9)
            | (go_at_call 20; refine (H6b.out (by first | trivial | rfl) _).mono ?_; rintro e X4 ⟨⟨p4, c4, rfl, hq4⟩, hb⟩; have q9 := PostsIn.below hq1 hb; clear hq1; have hq1 := q9; clear q9; have h9 := hR.call hb; clear hR hb; have hR := h9; clear h9)
            | (refine wpList_store_row rfl 23 (.tmp 19) (.tmp 123) rfl X4.heap.size ([.int .i64 i.session, .int .i64 i.seq] : List Value).toArray rfl rfl 23 _ (alloc2_at X4 _ _ _ _).1 (by exact i2) rfl (by exact IdD.one _) ?_)
            | (refine wpList_store_row rfl 39 (.tmp 20) (.tmp 124) rfl (X4.heap.size + 1) ([.int .i64 r.err, .int .i64 r.at_, .slice p4 k c4] : List Value).toArray rfl rfl 39 _ (new2_mid X4 _ _ _ _ _) (by exact i3) rfl (by exact RepD.oneC _ _ _) ?_; have hb8 := new2_below X4 #[.int .i64 0, .int .i64 0] #[.int .i64 0, .int .i64 0, .slice none 0 0] ([.int .i64 i.session, .int .i64 i.seq] : List Value).toArray ([.int .i64 r.err, .int .i64 r.at_, .slice p4 k c4] : List Value).toArray 23 39; have h8 := hR.new2 #[.int .i64 0, .int .i64 0] #[.int .i64 0, .int .i64 0, .slice none 0 0] 23 39 [.int .i64 i.session, .int .i64 i.seq] [.int .i64 r.err, .int .i64 r.at_, .slice p4 k c4]; have q9 := PostsIn.below hq1 hb8; clear hq1; have hq1 := q9; clear q9; have q9 := PostsIn.below hq4 hb8; clear hq4; have hq4 := q9; clear q9; clear hR hb8; revert h8 hq1 hq4; generalize ((((X4.alloc (.cells #[.int .i64 0, .int .i64 0] 23)).alloc (.cells #[.int .i64 0, .int .i64 0, .slice none 0 0] 39)).setRow X4.heap.size ([.int .i64 i.session, .int .i64 i.seq] : List Value).toArray).setRow (X4.heap.size + 1) ([.int .i64 r.err, .int .i64 r.at_, .slice p4 k c4] : List Value).toArray) = Z; generalize X4.heap.size = g4; intro hR hq1 hq4)
            | (go_at_call 21; refine (HSb.out _ _ _ _ _ hq4 hq1).mono ?_; rintro e X5 ⟨rfl, hb⟩; have q9 := PostsIn.below hq1 hb; clear hq1; have hq1 := q9; clear q9; have h9 := hR.call hb; clear hR hb; have hR := h9; clear h9)
            | (go_at_call 11; refine (HA.out _ _ hR).mono ?_; rintro e X6 ⟨rfl, hb6⟩)
            | (refine hR.load (i := 2) rfl 23 (.tmp 3) rfl rfl rfl Try.underlying23 rfl (by exact i2) ?_)
            | (refine hR.load (i := 1) rfl 25 (.tmp 4) rfl rfl rfl Try.underlying25 rfl (by exact i9) ?_)
            | (refine hR.load (i := 0) rfl 39 (.tmp 5) rfl rfl rfl Try.underlying39 rfl (by exact i3) ?_)
            | (refine hR.load (i := 4) rfl 23 (.tmp 3) rfl rfl rfl Try.underlying23 rfl (by exact i2) ?_)
            | (refine hR.load (i := 3) rfl 25 (.tmp 4) rfl rfl rfl Try.underlying25 rfl (by exact i9) ?_)
            | (refine hR.load (i := 2) rfl 39 (.tmp 5) rfl rfl rfl Try.underlying39 rfl (by exact i3) ?_)
            | (refine hR.load (i := 1) rfl 23 (.tmp 19) rfl rfl rfl Try.underlying23 rfl (by exact i2) ?_)
            | (refine hR.load (i := 0) rfl 39 (.tmp 20) rfl rfl rfl Try.underlying39 rfl (by exact i3) ?_))
            go_ret
            exact ⟨rfl, hb6⟩
          · subst hE hE2
            go_wp2_with (first
            | (go_at_call 9; refine (short_c x _).mono ?_; rintro e X7 ⟨rfl, hb⟩; rw [hsb]; have q9 := PostsIn.below hq1 hb; clear hq1; have hq1 := q9; clear q9; have h9 := hR.call hb; clear hR hb; have hR := h9; clear h9)
            | (go_at_call 15; refine (H1.out _).mono ?_; rintro e X7 ⟨rfl, hb⟩; have q9 := PostsIn.below hq1 hb; clear hq1; have hq1 := q9; clear q9; have h9 := hR.call hb; clear hR hb; have hR := h9; clear h9)
            | (go_at_call 16; refine (H2.out _).mono ?_; rintro e X7 ⟨rfl, hb⟩; have q9 := PostsIn.below hq1 hb; clear hq1; have hq1 := q9; clear q9; have h9 := hR.call hb; clear hR hb; have hR := h9; clear h9)
            | (go_at_call 17; refine (H3b.out _ hq1).mono ?_; rintro e X7 ⟨rfl, hb⟩; have q9 := PostsIn.below hq1 hb; clear hq1; have hq1 := q9; clear q9; have h9 := hR.call hb; clear hR hb; have hR := h9; clear h9)
            | (go_at_call 18; refine (H4.out _ hq1).mono ?_; rintro e X7 ⟨rfl, hb⟩; have q9 := PostsIn.below hq1 hb; clear hq1; have hq1 := q9; clear q9; have h9 := hR.call hb; clear hR hb; have hR := h9; clear h9)
            | (go_at_call 11; refine (HA.out _ _ hR).mono ?_; rintro e X6 ⟨rfl, hb6⟩)
            | (refine hR.load (i := 2) rfl 23 (.tmp 3) rfl rfl rfl Try.underlying23 rfl (by exact i2) ?_)
            | (refine hR.load (i := 1) rfl 25 (.tmp 4) rfl rfl rfl Try.underlying25 rfl (by exact i9) ?_)
            | (refine hR.load (i := 0) rfl 39 (.tmp 5) rfl rfl rfl Try.underlying39 rfl (by exact i3) ?_))
            go_ret
            exact ⟨rfl, hb6⟩

theorem walk (i : IdD) (x : OpD) (r : RepD) (c : Nat) (w : World) (bi : i.Ok) (bx : x.Ok) (b : RepIn w r) :
    Calls Try.prog 4 #[.agg i.cells.toArray, .agg x.cells.toArray, .agg (r.cellsC c).toArray] w fun e w' => e = .returned (.bool true) ∧ Below w.heap.size w w' := by
  obtain ⟨⟨h0, h1, h2⟩, hin, hl⟩ := b
  have hok : r.posts.length ≤ 71 → r.Ok := fun h => ⟨h0, h1, h2, by omega⟩
  have hl9 : r.posts.length < 9223372036854775808 := by unfold maxLen at hl; omega
  have hE : ∀ x : Option (List UInt8), putE x = 0 ∨ putE x = 1 := fun x => by
    cases x with
    | none => exact .inr rfl
    | some _ => exact .inl rfl
  refine main i x r c w (putS ⟨#[81]⟩ (Cm.enc (i.pss.flatten ++ x.pss.flatten))) (putS ⟨#[65]⟩ (Cm.enc (i.pss.flatten ++ r.pss.flatten))) (putE (Cm.enc (i.pss.flatten ++ x.pss.flatten))) (putE (Cm.enc (i.pss.flatten ++ r.pss.flatten))) (hE _) (hE _) hin (fun X => (PutAsk_c i x bi bx X).mono fun e w' ⟨a, b⟩ => ⟨by rw [a, putO_eq], b⟩) (fun X => (rPutAsk_c i x X).mono fun e w' ⟨a, b⟩ => ⟨by rw [a, putO_eq], b⟩) (fun h X hX => (PutAnswer_c i r c bi (hok h) X hX).mono fun e w' ⟨a, b⟩ => ⟨by rw [a, putO_eq], b⟩) (fun X hX => (rPutAnswer_c i r c X hX hl9).mono fun e w' ⟨a, b⟩ => ⟨by rw [a, putO_eq], b⟩) (fun he X => ?_) (fun he h X => ?_)
  · cases hq : Cm.enc (i.pss.flatten ++ x.pss.flatten) with
    | none => rw [hq] at he; exact absurd he (by decide)
    | some bs => exact FromAsk_put i x hq X
  · cases hq : Cm.enc (i.pss.flatten ++ r.pss.flatten) with
    | none => rw [hq] at he; exact absurd he (by decide)
    | some bs => exact FromW_put i r hq (by omega) X

theorem laidOut : laidOutB Try.prog = true := by kernel_rfl

theorem own : ownKnob Try.prog.godebug = none := by kernel_rfl

set_option maxRecDepth 100000 in
theorem lifted (os : Os) (started : os.Started) (H : Type) (enc : TypeId × Value → H) :
    ReturnsInHanded {} Try.checked os 4 .any (Rows.commandAsksSpec.pre6 enc Try.prog Try.f4 Rows.commandAsksRow.domain false) (Rows.commandAsksSpec.post enc Try.prog Try.f4 false true false false) := by
  refine returnsInHanded_of_change_sized (C := Try.checked) own started (by kernel_rfl) Try.func4
    (ChangeSpec.witness6 (enc := enc) (C := Try.checked) false ⟨#[], #[.agg #[.int .i64 0, .int .i64 0], .agg #[.int .i64 0, .string ByteArray.empty, .string ByteArray.empty, .string ByteArray.empty, .string ByteArray.empty, .string ByteArray.empty, .string ByteArray.empty, .int .i64 0, .int .i64 0], .agg #[.int .i64 0, .int .i64 0, .slice none 0 0]], []⟩ 8 (by kernel_rfl) (by kernel_rfl) (by kernel_rfl) (by kernel_rfl)) ?_
  intro W base args ds gs before hval0 hW _ hsz0 _
  have hsz : (DataW.weightsEach Try.prog (Try.f4.params.toList ++ Rows.commandAsksSpec.plain.varTypes Try.prog) (ds ++ gs)).all (· ≤ reachBytes) = true := hsz0
  have hval : ∀ (j : Nat) t v, Try.f4.params[j]? = some t → args[j]? = some v → Value.okWide Try.prog W .any base t v := hval0
  have hW' := hW
  obtain ⟨p, q, hA0, hV, rfl, hfz, hnd⟩ := hW
  have hA : DataW.TrodAll enc Try.prog W 0 (fun _ => true) true Try.f4.params.toList args.toList ds p := hA0
  rw [Try.params4] at hA hval hsz
  obtain ⟨v0, vs0, d0, ds0, p0, q0, hargs, rfl, rfl, h0, r0⟩ := trodAll_cons hA
  obtain ⟨v1, vs1, d1, ds1, p1, q1, rfl, rfl, rfl, h1, r1⟩ := trodAll_cons r0
  obtain ⟨v2, vs2, d2, ds2, p2, q2, rfl, rfl, rfl, h2, r2⟩ := trodAll_cons r1
  obtain ⟨rfl, rfl, rfl⟩ := trodAll_nil r2
  obtain rfl : args = #[v0, v1, v2] := by cases args; simp_all
  obtain ⟨rfl, rfl⟩ := trodVars_none hV
  have k0 := h0
  have lt0 : ∀ x ∈ p0, x.block < W.heap.size := by obtain ⟨m, hm⟩ := k0; exact DataW.trod_lt m _ _ _ hm
  obtain ⟨a0, rfl, b0⟩ := open_id12 (hval 0 23 v0 rfl rfl) h0
  have k1 := h1
  have lt1 : ∀ x ∈ p1, x.block < W.heap.size := by obtain ⟨m, hm⟩ := k1; exact DataW.trod_lt m _ _ _ hm
  obtain ⟨a1, rfl, b1⟩ := open_op12 (hval 1 25 v1 rfl rfl) h1
  have k2 := h2
  have lt2 : ∀ x ∈ p2, x.block < W.heap.size := by obtain ⟨m, hm⟩ := k2; exact DataW.trod_lt m _ _ _ hm
  obtain ⟨a2, c2, rfl, b2⟩ := open_rep12 (hval 2 39 v2 rfl rfl) h2
  clear hA0 hval0 hsz0
  refine (walk a0 a1 a2 c2 W b0 b1 b2).mono fun e W' ⟨he, bel⟩ => ?_
  subst he
  exact ⟨_, rfl, _, _, _, [], _, [], hW', trodAll_mk1 (shut_bool Try.underlying4 _), (trodAll_cons_mk (Below.trod laidOut (by kernel_rfl) (of_decide_eq_true (by kernel_rfl)) k0 bel lt0) (trodAll_cons_mk (Below.trod laidOut (by kernel_rfl) (of_decide_eq_true (by kernel_rfl)) k1 bel lt1) (trodAll_cons_mk (Below.trod laidOut (by kernel_rfl) (of_decide_eq_true (by kernel_rfl)) k2 bel lt2) trodAll_mk0))), rfl, bel.frame _, fun h => by cases h⟩

theorem over : Rows.commandAsksRow.holds Try.pinned (OpenSpec.ofChange Rows.commandAsksSpec) :=
  OpenClaim.holds_of_wide 4 Try.f4 rfl rfl rfl rfl rfl rfl rfl ⟨rfl, rfl, rfl, rfl, rfl⟩ rfl rfl rfl rfl rfl (by kernel_rfl) Try.func4 (by kernel_rfl)
    (of_decide_eq_true (by kernel_rfl)) (by unfold Func.isWrapper; first | (rw [if_pos (by decide +kernel)]; kernel_rfl) | (rw [if_neg (by decide +kernel)]; exact ⟨rfl, rfl⟩))
    (fun os started H enc _ => lifted os started H enc)


end Go.Proofs.Ytgkcchbignakcaa.commandAsks
namespace Go.Proofs.Ytgkcchbignakcaa
/-- The statement. -/
theorem commandAsks_holds : Rows.CommandAsksSaid := commandAsks.over
end Go.Proofs.Ytgkcchbignakcaa
