/-
  What cut leaves: a file's first bytes, in the row that they lay in or in a new one; and Trim.
-/
import Derived.Test.YtpfnkjfbhcffiaaDkSmall
namespace Go.Proofs.Ytpfnkjfbhcffiaa
open Go.RowKit

theorem OwnB.mono {w : World} {base base' : Nat} {u8 : TypeId} {v : Value} {l : List UInt8} (h : OwnB w base u8 v l) (hb : base' ≤ base) : OwnB w base' u8 v l := by
  obtain ⟨h1, h2 | ⟨g, cap, cur, hv, hg, r⟩⟩ := h
  · exact ⟨h1, .inl h2⟩
  · exact ⟨h1, .inr ⟨g, cap, cur, hv, Nat.le_trans hb hg, r⟩⟩

theorem OwnB.take {w : World} {base g n cap : Nat} {u8 : TypeId} {l : List UInt8} (h : OwnB w base u8 (.slice (some ⟨g, 0, none⟩) n cap) l) {m : Nat} (hm : m ≤ l.length) : OwnB w base u8 (.slice (some ⟨g, 0, none⟩) m cap) (l.take m) := by
  obtain ⟨h1, ⟨h2, _⟩ | ⟨g', cap', cur, hv, hg, hh, hn, hc, hs, ht⟩⟩ := h
  · cases h2
  · injection hv with e1 e2 e3
    injection e1 with e1
    injection e1 with e1
    subst e1 e3
    have hl : (l.take m).length = m := by simp; omega
    refine ⟨by simp [Lib.byteCells], .inr ⟨g, cap, cur, by rw [hl], hg, hh, by rw [hl]; omega, hc, hs, ?_⟩⟩
    rw [hl, Nat.mul_one]
    rw [Nat.mul_one] at ht
    have : cur.toList.take m = (cur.toList.take l.length).take m := by rw [List.take_take, Nat.min_eq_left hm]
    rw [this, ht]
    simp [Lib.byteCells]

/-- File i has been turned: no block but b and the file's own row has. -/
theorem DkV.turn {w w' : World} {b room : Nat} {A : Nat → List UInt8} {S : Nat → Nat} {own : Nat → Prop} {V : Nat → Value} (h : DkV w b room A S own V) {i : Nat} (hi : i < 256)
    {v' : Value} {l' : List UInt8} {s' : Nat} (hk : Kept b (fun k => (V i).ownBlock = some k) w w') (hrow : OwnB w' (b + 1) 5 v' l')
    (hown : ∀ k, v'.ownBlock = some k → (V i).ownBlock = some k ∨ w.heap.size ≤ k)
    (hs : s' ≤ l'.length) (hfit : tot (upd A i l') ≤ room)
    (hc : ∀ o, o < 514 → w'.cell? ⟨b, o, none⟩ = if o = 1 then some (.int .i64 (tot (upd A i l') : Int)) else if o = 2 + i * 2 then some v' else if o = 2 + i * 2 + 1 then some (.int .i64 (s' : Int)) else w.cell? ⟨b, o, none⟩)
    (hf : ∀ o, o < 514 → w'.frozen? ⟨b, o, none⟩ = false) :
    Dk w' b room (upd A i l') (upd S i s') (since own w) ∧ Kept b own w w' := by
  have hbl := h.lt
  have hlt : ∀ j, j < 256 → ∀ k, (V j).ownBlock = some k → b < k ∧ k < w.heap.size := fun j hj k hk => by have := (h.row j hj).block hk; omega
  refine ⟨⟨upd V i v', ?_, ?_, ?_, hf, ?_, ?_, ?_, ?_, ?_, ?_, hfit, h.big⟩, ?_⟩
  · have := hk.size; omega
  · rw [hc 0 (by omega), if_neg (by omega), if_neg (by omega), if_neg (by omega)]; exact h.roomC
  · rw [hc 1 (by omega), if_pos rfl]
  · intro j hj
    rw [hc _ (by omega), if_neg (by omega)]
    by_cases e : j = i
    · subst e; rw [if_pos rfl, upd_same]
    · rw [if_neg (by omega), if_neg (by omega), upd_other V v' e]; exact h.bytes j hj
  · intro j hj
    rw [hc _ (by omega), if_neg (by omega), if_neg (by omega)]
    by_cases e : j = i
    · subst e; rw [if_pos rfl, upd_same]
    · rw [if_neg (by omega), upd_other S s' e]; exact h.sure j hj
  · intro j hj
    by_cases e : j = i
    · subst e
      rw [upd_same, upd_same]
      exact hrow
    · rw [upd_other A l' e, upd_other V v' e]
      refine (h.row j hj).carry fun k hk2 => ?_
      have hk3 := hlt j hj k hk2
      exact hk.block k hk3.2 (by omega) (fun q => h.apart j i hj hi e k hk2 q)
  · have hx : ∀ j, j < 256 → j ≠ i → ∀ k, (V j).ownBlock = some k → v'.ownBlock = some k → False := by
      intro j hj e k hk hk'
      rcases hown k hk' with q | q
      · exact h.apart j i hj hi e k hk q
      · have := hlt j hj k hk; omega
    intro j j' hj hj' e k hq hq'
    by_cases e1 : j = i
    · subst e1
      rw [upd_same] at hq
      rw [upd_other V v' (fun q => e q.symm)] at hq'
      exact hx j' hj' (fun q => e q.symm) k hq' hq
    · rw [upd_other V v' e1] at hq
      by_cases e2 : j' = i
      · subst e2
        rw [upd_same] at hq'
        exact hx j hj e1 k hq hq'
      · rw [upd_other V v' e2] at hq'
        exact h.apart j j' hj hj' e k hq hq'
  · intro j hj k hk
    by_cases e : j = i
    · subst e
      rw [upd_same] at hk
      rcases hown k hk with q | q
      · exact .inl (h.mine j hj k q)
      · exact .inr q
    · rw [upd_other V v' e] at hk
      exact .inl (h.mine j hj k hk)
  · intro j hj
    by_cases e : j = i
    · subst e; rw [upd_same, upd_same]; exact hs
    · rw [upd_other A l' e, upd_other S s' e]; exact h.leSure j hj
  · exact ⟨hk.os, hk.tape, hk.output, hk.size, fun k h1 h2 h3 => hk.block k h1 h2 (fun q => h3 (h.mine i hi k q))⟩

theorem Clone_row {w : World} {base g n cap : Nat} {l : List UInt8} (h : OwnB w base 5 (.slice (some ⟨g, 0, none⟩) n cap) l) (hl : l.length ≤ 16777216) :
    Calls Try.prog 85 #[.slice (some ⟨g, 0, none⟩) n cap] w fun e w' => ∃ v', e = .returned v' ∧ OwnB w' w.heap.size 5 v' l ∧ Below w.heap.size w w' := by
  have hg : g < w.heap.size := (OwnB.block h (k := g) rfl).2
  have hn : n = l.length := by
    obtain ⟨h1, ⟨h2, _⟩ | ⟨g', cap', cur, hv, r⟩⟩ := h
    · cases h2
    · injection hv
  have HO : Hid (OwnB w base 5 (.slice (some ⟨g, 0, none⟩) n cap) l) := h
  have HN : Hid (n = l.length) := hn
  have hnil : (binOp .eql 60 (.slice (some ⟨g, 0, none⟩) n cap) (.slice none 0 0)).run Try.prog w = .ok (.bool false) w := by kernel_rfl
  clear h hn
  go_enter Try.func85, Try.ntmps85
  go_wp2_with (at_builtin; refine wpList_append_bytes rfl (.tmp 5) (.tmp 6) 60 60 5 rfl Try.underlying60 (by kernel_rfl) w.heap.size (.slice (some ⟨w.heap.size, 0, none⟩) 0 0) [] rfl ?qown (.slice (some ⟨g, 0, none⟩) n cap) l rfl ?qsrc ?qlen ?qbase ?qnext)
  case qown => exact ⟨rfl, .inr ⟨w.heap.size, 0, #[], rfl, Nat.le_refl _, heap_alloc_new w _, Nat.le_refl _, by unfold maxLen; omega, rfl, rfl⟩⟩
  case qsrc =>
    rw [← HN.out]
    refine Src.ofSlice _ Try.underlying60 _ _ _ _ (by rw [HN.out]; simp [Lib.byteCells]) ?_ (by intro u hu; simp [Lib.byteCells] at hu; obtain ⟨x, _, rfl⟩ := hu; rfl)
    intro j u hu
    have hc := World.ownsRow.cells HO.out (g := g) rfl j u hu
    rw [World.cell?_alloc_lt]
    · exact hc
    · unfold Addr.add
      split <;> exact hg
  case qlen => simp; omega
  case qbase => simp
  case qnext =>
    intro v' w1 ho hgr _
    have HO' : Hid (OwnB w1 w.heap.size 5 v' l) := by show OwnB w1 w.heap.size 5 v' l; simpa using ho
    have hb : Below w.heap.size w w1 := ((Below.refl _ w).alloc (Nat.le_refl _) _).grown hgr (by simp) (by intro k hk; simp [Value.ownBlock] at hk; omega)
    have HB : Hid (Below w.heap.size w w1) := hb
    obtain ⟨ao', cap', hv'⟩ := OwnB.form HO'.out
    clear ho hgr hb
    subst hv'
    go_wp2
    go_ret
    exact ⟨_, rfl, HO'.out, HB.out⟩

theorem ifs3 {i o : Nat} {x1 x2 x3 r : Option Value} : (if o = 2 + i * 2 + 1 then x3 else if o = 2 + i * 2 then x2 else if o = 1 then x1 else r) = if o = 1 then x1 else if o = 2 + i * 2 then x2 else if o = 2 + i * 2 + 1 then x3 else r := by
  by_cases e1 : o = 1
  · rw [if_neg (by omega), if_neg (by omega), if_pos e1, if_pos e1]
  · rw [if_neg e1, if_neg e1]
    by_cases e2 : o = 2 + i * 2
    · rw [if_neg (by omega), if_pos e2, if_pos e2]
    · rw [if_neg e2, if_neg e2]

/-- What cut leaves where the bytes stay in their row. -/
theorem DkV.cutHere {w : World} {b room : Nat} {A : Nat → List UInt8} {S : Nat → Nat} {own : Nat → Prop} {V : Nat → Value} (h : DkV w b room A S own V) {i : Nat} (hi : i < 256)
    {v' : Value} {l' : List UInt8} {s' : Nat} {t : Int} (ht : t = (tot (upd A i l') : Int)) (hrow : OwnB w (b + 1) 5 v' l') (hown : ∀ k, v'.ownBlock = some k → (V i).ownBlock = some k)
    (hs : s' ≤ l'.length) (hfit : tot (upd A i l') ≤ room) :
    Dk (((w.setCell ⟨b, 1, none⟩ (.int .i64 t)).setCell ⟨b, 2 + i * 2, none⟩ v').setCell ⟨b, 2 + i * 2 + 1, none⟩ (.int .i64 (s' : Int))).drew b room (upd A i l') (upd S i s') (since own w) ∧
    Kept b own w (((w.setCell ⟨b, 1, none⟩ (.int .i64 t)).setCell ⟨b, 2 + i * 2, none⟩ v').setCell ⟨b, 2 + i * 2 + 1, none⟩ (.int .i64 (s' : Int))).drew := by
  subst ht
  have k : Kept b (fun k => (V i).ownBlock = some k) w (((w.setCell ⟨b, 1, none⟩ (.int .i64 (tot (upd A i l') : Int))).setCell ⟨b, 2 + i * 2, none⟩ v').setCell ⟨b, 2 + i * 2 + 1, none⟩ (.int .i64 (s' : Int))) :=
    (((Kept.refl _ _ _).setCell ⟨b, 1, none⟩ (.inl rfl) _).setCell ⟨b, 2 + i * 2, none⟩ (.inl rfl) _).setCell ⟨b, 2 + i * 2 + 1, none⟩ (.inl rfl) _
  have hr : OwnB (((w.setCell ⟨b, 1, none⟩ (.int .i64 (tot (upd A i l') : Int))).setCell ⟨b, 2 + i * 2, none⟩ v').setCell ⟨b, 2 + i * 2 + 1, none⟩ (.int .i64 (s' : Int))) (b + 1) 5 v' l' := by
    refine hrow.carry fun k hk => ?_
    have := (hrow.block hk).1
    rw [Below.heap_setCell _ _ _ _ (by show k ≠ b; omega), Below.heap_setCell _ _ _ _ (by show k ≠ b; omega), Below.heap_setCell _ _ _ _ (by show k ≠ b; omega)]
  obtain ⟨y2, k2⟩ := cell_some h.used (.int .i64 (tot (upd A i l') : Int)) (h.bytes i hi)
  obtain ⟨y3, k3⟩ := cell_some h.used (.int .i64 (tot (upd A i l') : Int)) (h.sure i hi)
  obtain ⟨z3, m3⟩ := cell_some k2 v' k3
  obtain ⟨q1, q2⟩ := h.turn hi k hr (fun k hk => .inl (hown k hk)) hs hfit (by
    intro o _
    rw [cell_set _ m3, cell_set _ k2, cell_set _ h.used]
    exact ifs3) (by
    intro o ho
    rw [World.frozen?_setCell, World.frozen?_setCell, World.frozen?_setCell]
    exact h.froz o ho)
  exact ⟨q1.drew, q2.drew⟩

/-- What cut leaves where the bytes have gone into a new row. -/
theorem DkV.cutNew {w w2 : World} {b room : Nat} {A : Nat → List UInt8} {S : Nat → Nat} {own : Nat → Prop} {V : Nat → Value} (h : DkV w b room A S own V) {i : Nat} (hi : i < 256)
    {v' x : Value} {l' : List UInt8} {s' : Nat} {t : Int} (ht : t = (tot (upd A i l') : Int))
    (hb : Below w.heap.size ((w.setCell ⟨b, 1, none⟩ (.int .i64 t)).setCell ⟨b, 2 + i * 2, none⟩ x).drew w2) (hrow : OwnB w2 w.heap.size 5 v' l')
    (hs : s' ≤ l'.length) (hfit : tot (upd A i l') ≤ room) :
    Dk ((w2.setCell ⟨b, 2 + i * 2, none⟩ v').setCell ⟨b, 2 + i * 2 + 1, none⟩ (.int .i64 (s' : Int))) b room (upd A i l') (upd S i s') (since own w) ∧
    Kept b own w ((w2.setCell ⟨b, 2 + i * 2, none⟩ v').setCell ⟨b, 2 + i * 2 + 1, none⟩ (.int .i64 (s' : Int))) := by
  subst ht
  have hbl := h.lt
  have k0 : Kept b (fun k => (V i).ownBlock = some k) w ((w.setCell ⟨b, 1, none⟩ (.int .i64 (tot (upd A i l') : Int))).setCell ⟨b, 2 + i * 2, none⟩ x).drew :=
    (((Kept.refl _ _ _).setCell ⟨b, 1, none⟩ (.inl rfl) _).setCell ⟨b, 2 + i * 2, none⟩ (.inl rfl) _).drew
  have k1 : Kept b (fun k => (V i).ownBlock = some k) w w2 := k0.trans (own' := fun k => (V i).ownBlock = some k) ⟨hb.os, hb.tape, hb.output, hb.size, fun k hk _ _ => hb.block k (by simpa [World.setCell] using hk)⟩ (fun _ _ e => e)
  have k : Kept b (fun k => (V i).ownBlock = some k) w ((w2.setCell ⟨b, 2 + i * 2, none⟩ v').setCell ⟨b, 2 + i * 2 + 1, none⟩ (.int .i64 (s' : Int))) := (k1.setCell ⟨b, 2 + i * 2, none⟩ (.inl rfl) _).setCell ⟨b, 2 + i * 2 + 1, none⟩ (.inl rfl) _
  have hr : OwnB ((w2.setCell ⟨b, 2 + i * 2, none⟩ v').setCell ⟨b, 2 + i * 2 + 1, none⟩ (.int .i64 (s' : Int))) (b + 1) 5 v' l' := by
    refine OwnB.mono (OwnB.carry hrow fun k hk => ?_) (base := w.heap.size) (by omega)
    have := (hrow.block hk).1
    rw [Below.heap_setCell _ _ _ _ (by show k ≠ b; omega), Below.heap_setCell _ _ _ _ (by show k ≠ b; omega)]
  obtain ⟨y2, k2⟩ := cell_some h.used (.int .i64 (tot (upd A i l') : Int)) (h.bytes i hi)
  obtain ⟨y3, k3⟩ := cell_some h.used (.int .i64 (tot (upd A i l') : Int)) (h.sure i hi)
  obtain ⟨z3, m3⟩ := cell_some k2 x k3
  obtain ⟨z2, m2⟩ := cell_some k2 x k2
  have hc : ∀ o, w2.cell? ⟨b, o, none⟩ = ((w.setCell ⟨b, 1, none⟩ (.int .i64 (tot (upd A i l') : Int))).setCell ⟨b, 2 + i * 2, none⟩ x).cell? ⟨b, o, none⟩ := fun o => hb.cell (p := ⟨b, o, none⟩) hbl
  have hf : ∀ o, w2.frozen? ⟨b, o, none⟩ = ((w.setCell ⟨b, 1, none⟩ (.int .i64 (tot (upd A i l') : Int))).setCell ⟨b, 2 + i * 2, none⟩ x).frozen? ⟨b, o, none⟩ := fun o => hb.frozen (p := ⟨b, o, none⟩) hbl
  rw [← hc] at m2 m3
  obtain ⟨p3, n3⟩ := cell_some m2 v' m3
  exact h.turn hi k hr (fun k hk => .inr (hrow.block hk).1) hs hfit (by
    intro o _
    rw [cell_set _ n3, cell_set _ m2, hc, cell_set _ k2, cell_set _ h.used]
    by_cases e : o = 2 + i * 2
    · rw [if_neg (by omega), if_pos e, if_neg (by omega), if_pos e]
    · rw [if_neg e, if_neg e, if_neg e]
      by_cases e1 : o = 1
      · rw [if_neg (by omega), if_pos e1, if_pos e1]
      · rw [if_neg e1, if_neg e1]) (by
    intro o ho
    rw [World.frozen?_setCell, World.frozen?_setCell, hf, World.frozen?_setCell, World.frozen?_setCell]
    exact h.froz o ho)

set_option maxHeartbeats 400000 in
set_option maxRecDepth 20000 in
theorem cut_yes {w : World} {b room : Nat} {A : Nat → List UInt8} {S : Nat → Nat} {own : Nat → Prop} (h : Dk w b room A S own) (i size : Nat) (hi : i < 256) (hsz : size ≤ (A i).length) :
    Calls Try.prog 75 #[.pointer (some ⟨b, 0, none⟩), .pointer (some ⟨b, 2 + i * 2, none⟩), .int .i64 (size : Int)] w fun e w' => e = .returned (.tuple #[]) ∧ Dk w' b room (upd A i ((A i).take size)) (upd S i (min (S i) size)) (since own w) ∧ Kept b own w w' := by
  obtain ⟨V, h⟩ := h
  have hl := h.len hi
  have h1 := h.used
  have f1 := h.froz 1 (by omega)
  have f2 := h.froz (2 + i * 2) (by omega)
  have f3 := h.froz (2 + i * 2 + 1) (by omega)
  have h2 := h.bytes i hi
  have h3 := h.sure i hi
  have hft := h.fits
  have hle := le_tot A hi
  obtain ⟨u, hu⟩ : ∃ u, u = tot A := ⟨_, rfl⟩
  obtain ⟨n, hn⟩ : ∃ n, n = (A i).length := ⟨_, rfl⟩
  obtain ⟨s, hs⟩ : ∃ s, s = S i := ⟨_, rfl⟩
  have htu := tot_upd A hi ((A i).take size)
  rw [List.length_take, Nat.min_eq_left hsz] at htu
  rw [← hu] at h1 hft hle htu
  rw [← hn] at hl hle htu hsz
  rw [← hs] at h3
  have HT : Hid (tot (upd A i ((A i).take size)) = u - (n - size)) := by show _ = _; omega
  obtain ⟨mn, hmn⟩ : ∃ mn : Nat, mn = min s size := ⟨_, rfl⟩
  have HMM : Hid (mn = min s size) := hmn
  have hmn2 : mn = min (S i) size := by rw [hmn, hs]
  rw [← hmn2]
  have HM : Hid (mn ≤ size) := by show mn ≤ size; omega
  have HN : Hid (n = (A i).length) := hn
  obtain ⟨L, hL⟩ : ∃ L, L = (A i).take size := ⟨_, rfl⟩
  rw [← hL] at HT ⊢
  have HLL : Hid (L.length = size) := by show L.length = size; rw [hL, List.length_take, ← hn]; omega
  have HL : Hid (L = (A i).take size) := hL
  clear hL hmn2
  have HD : Hid (DkV w b room A S own V) := h
  obtain ⟨hq, ⟨hv, hz⟩ | ⟨g, cap, cur, hv, hbg, hg, hnc, hcm, hcs, htk⟩⟩ := h.row i hi
  · rw [hv] at h2
    have e0 : n = 0 := by rw [hn]; exact hz
    subst e0
    have e1 : size = 0 := by omega
    subst e1
    have Hv : Hid (V i = .slice none 0 0) := hv
    have e2 : mn = 0 := by omega
    subst e2
    clear h hq hv hz hn hs hu htu hmn
    go_enter Try.func75, Try.ntmps75
    go_wp2
    go_region
    go_wp2
    all_goals
      have hx := HD.out.cutHere hi (v' := .slice none 0 0) (l' := L) (s' := 0) (t := (u : Int)) (by rw [HT.out]; simp) (by rw [List.eq_nil_of_length_eq_zero HLL.out]; exact OwnB.nil _ _ _) (by intro k hk; simp [Value.ownBlock] at hk) (Nat.zero_le _) (by rw [HT.out]; omega)
      first
      | exact bodyPost_end (v := .tuple #[]) (by simp [results, Try.results75]) rfl ⟨rfl, hx⟩
      | (obtain rfl : s = 0 := by omega
         exact bodyPost_end (v := .tuple #[]) (by simp [results, Try.results75]) rfl ⟨rfl, hx⟩)
  · rw [hv, ← hn] at h2
    have Hv : Hid (V i = .slice (some ⟨g, 0, none⟩) n cap) := by rw [hn]; exact hv
    have Hr : Hid (OwnB w (b + 1) 5 (.slice (some ⟨g, 0, none⟩) n cap) (A i)) := by rw [hn]; exact ⟨hq, .inr ⟨g, cap, cur, rfl, hbg, hg, hnc, hcm, hcs, htk⟩⟩
    rw [← hn] at hnc
    unfold maxLen at hcm
    clear h hq hv hbg hg hcs htk hn hs hu htu hmn
    by_cases e : size < cap / 4
    · have t1 : decide ((size : Int) < (cap : Int) / 4) = true := by simp; omega
      clear e
      go_enter Try.func75, Try.ntmps75
      go_wp2
      go_region
      go_wp2_with fail
      refine (Clone_row (base := b + 1) (l := L) ?_ ?_).mono ?_
      · rw [HL.out]
        have h0 : OwnB w (b + 1) 5 (.slice (some ⟨g, 0, none⟩) size cap) ((A i).take size) := OwnB.take Hr.out (by rw [← HN.out]; exact hsz)
        refine OwnB.carry h0 fun k hk => ?_
        have := (OwnB.block h0 hk).1
        show ((w.setCell _ _).setCell _ _).heap[k]? = _
        rw [Below.heap_setCell _ _ _ _ (by show k ≠ b; omega), Below.heap_setCell _ _ _ _ (by show k ≠ b; omega)]
      · rw [HLL.out]; omega
      rintro e w2 ⟨v', rfl, ho, hb⟩
      have hsz2 : ((w.setCell ⟨b, 1, none⟩ (.int .i64 ((u : Int) - ((n : Int) - (size : Int))))).setCell ⟨b, 2 + i * 2, none⟩ (.slice (some ⟨g, 0, none⟩) size cap)).drew.heap.size = w.heap.size := by simp [World.setCell]
      rw [hsz2] at ho hb
      clear hsz2
      have HO : Hid (OwnB w2 w.heap.size 5 v' L) := ho
      have HB : Hid _ := hb
      have hblt := HD.out.lt
      have hc : ∀ o, w2.cell? ⟨b, o, none⟩ = ((w.setCell ⟨b, 1, none⟩ (.int .i64 ((u : Int) - ((n : Int) - (size : Int))))).setCell ⟨b, 2 + i * 2, none⟩ (.slice (some ⟨g, 0, none⟩) size cap)).cell? ⟨b, o, none⟩ := fun o => hb.cell (p := ⟨b, o, none⟩) hblt
      have hf : ∀ o, w2.frozen? ⟨b, o, none⟩ = ((w.setCell ⟨b, 1, none⟩ (.int .i64 ((u : Int) - ((n : Int) - (size : Int))))).setCell ⟨b, 2 + i * 2, none⟩ (.slice (some ⟨g, 0, none⟩) size cap)).frozen? ⟨b, o, none⟩ := fun o => hb.frozen (p := ⟨b, o, none⟩) hblt
      obtain ⟨y2, k2⟩ := cell_some h1 (.int .i64 ((u : Int) - ((n : Int) - (size : Int)))) h2
      have d2 : w2.cell? ⟨b, 2 + i * 2, none⟩ = some (.slice (some ⟨g, 0, none⟩) size cap) := by rw [hc, cell_set _ k2, if_pos rfl]
      have d3 : w2.cell? ⟨b, 2 + i * 2 + 1, none⟩ = some (.int .i64 (s : Int)) := by rw [hc, cell_set _ k2, if_neg (by omega), cell_set _ h1, if_neg (by omega), h3]
      have g2 : w2.frozen? ⟨b, 2 + i * 2, none⟩ = false := by rw [hf, World.frozen?_setCell, World.frozen?_setCell, f2]
      have g3 : w2.frozen? ⟨b, 2 + i * 2 + 1, none⟩ = false := by rw [hf, World.frozen?_setCell, World.frozen?_setCell, f3]
      obtain ⟨ao', cap', hv'⟩ := OwnB.form HO.out
      rw [HLL.out] at hv'
      subst hv'
      clear hc hf k2 ho hb
      go_wp2
      all_goals
        have hx := HD.out.cutNew hi (v' := .slice ao' size cap') (l' := L) (s' := mn) (t := (u : Int) - ((n : Int) - (size : Int))) (by rw [HT.out]; omega) HB.out HO.out (by rw [HLL.out]; exact HM.out) (by rw [HT.out]; omega)
        first
        | (have em : mn = size := by have := HMM.out; omega
           rw [em] at hx ⊢
           exact bodyPost_end (v := .tuple #[]) (by simp [results, Try.results75]) rfl ⟨rfl, hx⟩)
        | (have em : mn = s := by have := HMM.out; omega
           rw [em] at hx ⊢
           exact bodyPost_end (v := .tuple #[]) (by simp [results, Try.results75]) rfl ⟨rfl, hx⟩)
    · have t1 : decide ((size : Int) < (cap : Int) / 4) = false := by simp; omega
      clear e
      go_enter Try.func75, Try.ntmps75
      go_wp2
      go_region
      go_wp2
      all_goals
        have hx := HD.out.cutHere hi (v' := .slice (some ⟨g, 0, none⟩) size cap) (l' := L) (s' := mn) (t := (u : Int) - ((n : Int) - (size : Int))) (by rw [HT.out]; omega) (by rw [HL.out]; exact OwnB.take Hr.out (by rw [← HN.out]; exact hsz)) (by intro k hk; rw [Hv.out]; exact hk) (by rw [HLL.out]; exact HM.out) (by rw [HT.out]; omega)
        first
        | (have em : mn = size := by have := HMM.out; omega
           rw [em] at hx ⊢
           exact bodyPost_end (v := .tuple #[]) (by simp [results, Try.results75]) rfl ⟨rfl, hx⟩)
        | (have em : mn = s := by have := HMM.out; omega
           rw [em] at hx ⊢
           exact bodyPost_end (v := .tuple #[]) (by simp [results, Try.results75]) rfl ⟨rfl, hx⟩)

end Go.Proofs.Ytpfnkjfbhcffiaa
