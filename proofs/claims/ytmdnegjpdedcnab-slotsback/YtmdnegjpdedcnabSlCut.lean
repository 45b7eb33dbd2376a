/-
  strings.CutPrefix of "S".
-/
import Derived.Test.YtmdnegjpdedcnabSlFrom
import Derived.Test.YtmdnegjpdedcnabSlAwake
namespace Go.Proofs.Ytmdnegjpdedcnab
open Go.RowKit

theorem cutS_empty (w : World) : Calls Try.prog 33 #[.string ⟨#[]⟩, .string ⟨#[83]⟩] w fun e w' => e = .returned (.tuple #[.string ⟨#[]⟩, .bool false]) ∧ w' = w := by
  go_enter Try.func33, Try.ntmps33
  go_wp2
  go_ret2
  exact ⟨rfl, rfl⟩

theorem head_one (s : ByteArray) (h : 0 < s.size) : (s.extract 0 1).toList = [s[0]] := by
  rw [ByteArray.toList_eq]
  have e : (s.extract 0 1).data = s.data.extract 0 1 := by simp [ByteArray.data_extract]
  rw [e, Array.toList_extract]
  have h' : 0 < s.data.toList.length := by simpa using h
  simp [List.extract]
  rw [toL_cons s h]
  rfl

theorem cutS_yes (s : ByteArray) (h : 0 < s.size) (hs : s.size ≤ 140737488351232) (h83 : s[0] = 83) (w : World) : Calls Try.prog 33 #[.string s, .string ⟨#[83]⟩] w fun e w' => e = .returned (.tuple #[.string (s.extract 1 s.size), .bool true]) ∧ w' = w := by
  have h1 : 1 ≤ s.size := h
  have hq : ((s.extract 0 1).toList == [83]) = true := by rw [head_one s h, h83]; rfl
  clear h83 h
  go_enter Try.func33, Try.ntmps33
  go_wp2
  go_ret2
  exact ⟨rfl, rfl⟩
theorem cutS_no (s : ByteArray) (h : 0 < s.size) (hs : s.size ≤ 140737488351232) (h83 : s[0] ≠ 83) (w : World) : Calls Try.prog 33 #[.string s, .string ⟨#[83]⟩] w fun e w' => e = .returned (.tuple #[.string s, .bool false]) ∧ w' = w := by
  have h1 : 1 ≤ s.size := h
  have hq : ((s.extract 0 1).toList == [83]) = false := by rw [head_one s h]; simpa using h83
  clear h83 h
  go_enter Try.func33, Try.ntmps33
  go_wp2
  go_ret2
  exact ⟨rfl, rfl⟩

theorem frm_nil : Sl.frm [] = none := rfl
theorem frm_not {s : ByteArray} (h : 0 < s.size) (h83 : s[0] ≠ 83) : Sl.frm s.data.toList = none := by
  rw [toL_cons s h]
  show (if s[0] = 83 then _ else none) = none
  rw [if_neg h83]
theorem frm_if {s : ByteArray} (h : 0 < s.size) (h83 : s[0] = 83) : (Sl.rdTo (s.data.toList.drop 1) 16 = none → Sl.frm s.data.toList = none) ∧ (∀ xs, Sl.rdTo (s.data.toList.drop 1) 16 = some (xs, []) → Sl.frm s.data.toList = some (Sl.ofL xs)) ∧ (∀ xs a l, Sl.rdTo (s.data.toList.drop 1) 16 = some (xs, a :: l) → Sl.frm s.data.toList = none) := by
  have key : Sl.frm (s[0] :: s.data.toList.drop 1) = Sl.frm s.data.toList := by rw [← toL_cons s h]
  rw [← key]
  refine ⟨fun e => ?_, fun xs e => ?_, fun xs a l e => ?_⟩
  all_goals
    unfold Sl.frm
    dsimp only
    rw [if_pos h83, e]

/-- What From answers. -/
def FromS (w : World) (s : ByteArray) (e : Ending) (w' : World) : Prop := Below w.heap.size w w' ∧ match Sl.frm s.data.toList with
  | none => e = .returned (.tuple #[.pointer none, .int .i64 140])
  | some t => ∃ B, e = .returned (.tuple #[.pointer (some ⟨B, 0, none⟩), .int .i64 0]) ∧ Sn w w' B t

theorem FromS.no {w w' : World} {s : ByteArray} (h : Sl.frm s.data.toList = none) (hb : Below w.heap.size w w') : FromS w s (.returned (.tuple #[.pointer none, .int .i64 140])) w' := ⟨hb, by rw [h]⟩
theorem FromS.yes {w w' : World} {s : ByteArray} {t : Sl.St} {B : Nat} (h : Sl.frm s.data.toList = some t) (hn : Sn w w' B t) : FromS w s (.returned (.tuple #[.pointer (some ⟨B, 0, none⟩), .int .i64 0])) w' := ⟨hn.old, by rw [h]; exact ⟨B, rfl, hn⟩⟩

theorem ofL_snoc (xs : List (Nat × Nat)) (p : Nat × Nat) (i : Nat) (h : i < xs.length) : (Sl.ofL (xs ++ [p])).O i = (Sl.ofL xs).O i ∧ (Sl.ofL (xs ++ [p])).E i = (Sl.ofL xs).E i := by
  have e : (xs ++ [p]).getD i (0, 0) = xs.getD i (0, 0) := by simp [List.getD, List.getElem?_append_left h]
  show ((xs ++ [p]).getD i (0, 0)).1 = (xs.getD i (0, 0)).1 ∧ ((xs ++ [p]).getD i (0, 0)).2 = (xs.getD i (0, 0)).2
  rw [e]
  exact ⟨rfl, rfl⟩
theorem ofL_last (xs : List (Nat × Nat)) (g e : Nat) : (Sl.ofL (xs ++ [(g, e)])).O xs.length = g ∧ (Sl.ofL (xs ++ [(g, e)])).E xs.length = e := by
  have e1 : (xs ++ [(g, e)]).getD xs.length (0, 0) = (g, e) := by simp [List.getD]
  show ((xs ++ [(g, e)]).getD xs.length (0, 0)).1 = g ∧ ((xs ++ [(g, e)]).getD xs.length (0, 0)).2 = e
  rw [e1]
  exact ⟨rfl, rfl⟩

set_option maxHeartbeats 1600000 in
set_option maxRecDepth 20000 in
theorem FromS_c (s : ByteArray) (hs : s.size ≤ 140737488351232) (w : World) : Calls Try.prog 13 #[.string s] w fun e w' => FromS w s e w' := by
  by_cases h0 : s.size = 0
  · have e0 : s = ⟨#[]⟩ := by
      apply ByteArray.ext
      exact Array.eq_empty_of_size_eq_zero h0
    subst e0
    have HE : Hid (FromS w ⟨#[]⟩ (.returned (.tuple #[.pointer none, .int .i64 140])) w) := FromS.no (w := w) (s := ⟨#[]⟩) frm_nil (Below.refl _ _)
    have HC : Hid _ := cutS_empty w
    clear h0 hs
    go_enter Try.func13, Try.ntmps13
    go_wp2_with fail
    refine Calls.mono HC.out ?_
    rintro e w2 ⟨rfl, h2⟩
    subst h2
    go_wp2
    go_ret2
    exact HE.out
  · have hlt : 0 < s.size := by omega
    by_cases h83 : s[0] = 83
    · have HC : Hid _ := cutS_yes s hlt hs h83 w
      obtain ⟨t, ht⟩ : ∃ t, t = s.extract 1 s.size := ⟨_, rfl⟩
      rw [← ht] at HC
      have htl : t.size ≤ 140737488351232 := by rw [ht, size_cut s 1 (by omega)]; omega
      have HT : Hid (t.data.toList = s.data.toList.drop 1) := by rw [ht]; exact toL_cut s 1 (by omega)
      have HF : Hid _ := frm_if hlt h83
      have HE : Hid (∀ w', Sl.frm s.data.toList = none → Below w.heap.size w w' → FromS w s (.returned (.tuple #[.pointer none, .int .i64 140])) w') := fun w' h hb => FromS.no h hb
      have HO : Hid (∀ (r : ByteArray) (X : World), r.size ≤ 140737488351232 → Calls Try.prog 34 #[.string r] X fun e w' => e = ownO r.data.toList ∧ Below X.heap.size X w') := fun r X hr => firstOwner_c r hr X
      have HB0 : Hid _ := Sf.begin (Sl.ofL []) (Below.refl w.heap.size w)
      obtain ⟨B, hB⟩ : ∃ B, B = w.heap.size := ⟨_, rfl⟩
      obtain ⟨W, hW⟩ : ∃ W, W = w.alloc (.cells newCells10 73) := ⟨_, rfl⟩
      have HB0 : Hid (Sf w W B (Sl.ofL []) 0) := by rw [hB, hW]; exact HB0.out
      have HR0 : Hid (Sl.rdTo (s.data.toList.drop 1) 0 = some ([], t.data.toList)) := by rw [HT.out]; rfl
      clear h0 hs ht hlt h83
      go_enter Try.func13, Try.ntmps13
      go_wp2_with fail
      refine Calls.mono HC.out ?_
      rintro e w2 ⟨rfl, h2⟩
      have h2 := h2.symm
      subst h2
      go_wp2_with (refine wpList_build10 rfl rfl ?_)
      rw [← hW, ← hB]
      clear hW hB HC HT
      go_loopw [4, 20] (fun rv x wr => ∃ (n : Nat) (r : ByteArray) (xs : List (Nat × Nat)), x = .int .i64 (n : Int) ∧ n ≤ 16 ∧ rv = .string r ∧ r.size ≤ 140737488351232 ∧ Hid (xs.length = n) ∧ Hid (Sl.rdTo (s.data.toList.drop 1) n = some (xs, r.data.toList)) ∧ Hid (Sf w wr B (Sl.ofL xs) n)) (fun _ x _ => 16 - (intOf x).toNat)
      case atStart => exact ⟨0, t, [], rfl, by omega, rfl, htl, rfl, HR0, HB0⟩
      case round =>
        clear HB0 HR0
        obtain ⟨n, r, xs, rfl, hn, rfl, hrl, HXl, HRd, HS⟩ := hrel
        by_cases hn16 : n < 16
        · cases hown : Sl.own1 r.data.toList with
          | none =>
            have hO : ownO r.data.toList = .returned (.tuple #[.agg #[.int .i64 0, .int .i64 0], .int .i64 0, .bool false]) := by unfold ownO; rw [hown]
            have HOr : Hid _ := HO.out r wr hrl
            rw [hO] at HOr
            have HN : Hid (Sl.frm s.data.toList = none) := HF.out.1 (Sl.rdTo_stop HRd.out hown hn16)
            have HOld : Hid (Below w.heap.size w wr) := HS.out.old
            clear hown hO
            go_wp2_with fail
            refine Calls.mono HOr.out ?_
            rintro e w3 ⟨rfl, h3⟩
            have H3 : Hid (∀ o, Below w.heap.size w (w3.alloc o)) := fun o => (HOld.out.trans (h3.mono HOld.out.size)).trans ((below_alloc w3 o).mono (Nat.le_trans HOld.out.size h3.size))
            clear h3
            go_wp2
            go_ret2
            exact HE.out _ HN.out (H3.out _)
          | some q =>
            obtain ⟨g, en, k⟩ := q
            obtain ⟨o1, o2, o3, o4, o5, o6, o7⟩ := Sl.own1_some hown
            have hkl : k ≤ r.size := by simpa using o6
            have hO : ownO r.data.toList = .returned (.tuple #[.agg #[.int .i64 (g : Int), .int .i64 (en : Int)], .int .i64 (k : Int), .bool true]) := by unfold ownO; rw [hown]
            have HOr : Hid _ := HO.out r wr hrl
            rw [hO] at HOr
            have HRd2 : Hid (Sl.rdTo (s.data.toList.drop 1) (n + 1) = some (xs ++ [(g, en)], (r.extract k r.size).data.toList)) := by
              show _ = _
              rw [Sl.rdTo_more HRd.out hown, toL_cut r k hkl]
            have hrl2 : (r.extract k r.size).size ≤ 140737488351232 := by rw [size_cut r k hkl]; omega
            have HXl2 : Hid ((xs ++ [(g, en)]).length = n + 1) := by show _ = _; rw [List.length_append, HXl.out]; rfl
            have HPut : Hid (∀ X, Sf w X B (Sl.ofL xs) n → Sf w ((X.setCell ⟨B, n * 2, none⟩ (.int .i64 (g : Int))).setCell ⟨B, n * 2 + 1, none⟩ (.int .i64 (en : Int))) B (Sl.ofL (xs ++ [(g, en)])) (n + 1)) := fun X hX => by
              have := hX.put hn16 (s' := Sl.ofL (xs ++ [(g, en)])) (fun i hi => ofL_snoc xs (g, en) i (by rw [HXl.out]; exact hi))
              rw [← HXl.out, (ofL_last xs g en).1, (ofL_last xs g en).2] at this
              rw [← HXl.out]
              exact this
            clear hown hO o1 o2 o3 o4 o5 o6
            go_wp2_with fail
            refine Calls.mono HOr.out ?_
            rintro e w3 ⟨rfl, h3⟩
            have HS3 : Hid (Sf w w3 B (Sl.ofL xs) n) := HS.out.below h3
            obtain ⟨u, hu⟩ : ∃ u, u = w3.alloc (.cells #[.int .i64 (g : Int), .int .i64 (en : Int)] 70) := ⟨_, rfl⟩
            obtain ⟨bo, hbo⟩ : ∃ bo, bo = w3.heap.size := ⟨_, rfl⟩
            have c0 : u.cell? ⟨bo, 0, none⟩ = some (.int .i64 (g : Int)) := by rw [hu, hbo]; exact World.cell?_alloc_mark w3 _ _ _ 0
            have c1 : u.cell? ⟨bo, 1, none⟩ = some (.int .i64 (en : Int)) := by rw [hu, hbo]; exact World.cell?_alloc_mark w3 _ _ _ 1
            have hSu : Sf w u B (Sl.ofL xs) n := HS3.out.below (by rw [hu]; exact below_alloc _ _)
            have HSu : Hid (Sf w u.drew B (Sl.ofL xs) n) := hSu.below (below_drew u)
            have z0 := hSu.z (n * 2) (by omega) (by omega)
            have z1 := hSu.z (n * 2 + 1) (by omega) (by omega)
            have f0 := hSu.f (n * 2) (by omega)
            have f1 := hSu.f (n * 2 + 1) (by omega)
            have HNext : Hid _ := HPut.out _ HSu.out
            clear h3 hSu
            go_wp2
            rw [← hu]
            try rw [← hbo]
            clear hu hbo
            go_region
            go_wp2
            go_roundw
            case rel => exact ⟨n + 1, r.extract k r.size, xs ++ [(g, en)], by go_num, by omega, rfl, hrl2, HXl2, HRd2, HNext⟩
            case measure => simp [intOf]; omega
        · obtain rfl : n = 16 := by omega
          by_cases hr0 : r.size = 0
          · have e0 : r = ⟨#[]⟩ := by
              apply ByteArray.ext
              exact Array.eq_empty_of_size_eq_zero hr0
            subst e0
            have HN : Hid (Sl.frm s.data.toList = some (Sl.ofL xs)) := HF.out.2.1 xs HRd.out
            have HSn : Hid (Sn w wr B (Sl.ofL xs)) := ⟨HS.out.whole (Sl.frm_some HN.out).1, HS.out.old, HS.out.new⟩
            go_wp2
            go_ret2
            exact FromS.yes HN.out HSn.out
          · have hem : r.toList.isEmpty = false := by
              rw [ByteArray.toList_eq]
              cases hd : r.data.toList with
              | nil => exact absurd (by show r.data.size = 0; rw [← Array.length_toList, hd]; rfl) hr0
              | cons a l => rfl
            have HN : Hid (Sl.frm s.data.toList = none) := by
              cases hd : r.data.toList with
              | nil => exact absurd (by show r.data.size = 0; rw [← Array.length_toList, hd]; rfl) hr0
              | cons a l => exact HF.out.2.2 xs a l (by rw [HRd.out, hd])
            have HOld : Hid (Below w.heap.size w wr) := HS.out.old
            clear hr0
            go_wp2
            go_ret2
            exact HE.out _ HN.out HOld.out
    · have HC : Hid _ := cutS_no s hlt hs h83 w
      have HE : Hid (FromS w s (.returned (.tuple #[.pointer none, .int .i64 140])) w) := FromS.no (w := w) (s := s) (frm_not hlt h83) (Below.refl _ _)
      clear h0 hs hlt h83
      go_enter Try.func13, Try.ntmps13
      go_wp2_with fail
      refine Calls.mono HC.out ?_
      rintro e w2 ⟨rfl, h2⟩
      have h2 := h2.symm
      subst h2
      go_wp2
      go_ret2
      exact HE.out

end Go.Proofs.Ytmdnegjpdedcnab
