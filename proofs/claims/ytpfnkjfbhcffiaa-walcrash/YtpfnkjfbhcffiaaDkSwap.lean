/-
  What Swap answers: the two files change their places, if all their bytes are sure.
-/
import Derived.Test.YtpfnkjfbhcffiaaDkSmall
namespace Go.Proofs.Ytpfnkjfbhcffiaa
open Go.RowKit

theorem Swap_no (w : World) (d : Value) (k m : Int) (h : NotMade w d) : Calls Try.prog 70 #[d, .int .i64 k, .int .i64 m] w fun e w' => e = .returned (.int .i64 1) ∧ w' = w := by
  have hm := has_no w d k h
  clear h
  go_enter Try.func70, Try.ntmps70
  go_wp2_with fail
  refine hm.mono ?_
  rintro e w' ⟨rfl, rfl⟩
  go_wp2
  go_ret
  exact ⟨rfl, rfl⟩

theorem Swap_out {w : World} {b room : Nat} {A : Nat → List UInt8} {S : Nat → Nat} {own : Nat → Prop} (h : Dk w b room A S own) (k m : Int) (hk : isFile k = false ∨ isFile m = false) : Calls Try.prog 70 #[.pointer (some ⟨b, 0, none⟩), .int .i64 k, .int .i64 m] w fun e w' => e = .returned (.int .i64 1) ∧ w' = w := by
  have hm := has_yes h k
  have hn := has_yes h m
  clear h
  by_cases e : isFile k = false
  · rw [e] at hm
    clear hk e hn
    go_enter Try.func70, Try.ntmps70
    go_wp2_with fail
    refine hm.mono ?_
    rintro e w' ⟨rfl, rfl⟩
    go_wp2
    go_ret
    exact ⟨rfl, rfl⟩
  · rw [show isFile k = true by cases hq : isFile k; exact absurd hq e; rfl] at hm
    rw [show isFile m = false by rcases hk with q | q; exact absurd q e; exact q] at hn
    clear hk e
    have HM : Hid _ := hn
    clear hn
    go_enter Try.func70, Try.ntmps70
    go_wp2_with fail
    refine hm.mono ?_
    rintro e w' ⟨rfl, rfl⟩
    go_wp2_with fail
    refine Calls.mono HM.out ?_
    rintro e w1 ⟨rfl, rfl⟩
    go_wp2
    go_ret
    exact ⟨rfl, rfl⟩

theorem Swap_loose {w : World} {b room : Nat} {A : Nat → List UInt8} {S : Nat → Nat} {own : Nat → Prop} (h : Dk w b room A S own) (i j : Nat) (hi : i < 256) (hj : j < 256) (hl : S i < (A i).length ∨ S j < (A j).length) :
    Calls Try.prog 70 #[.pointer (some ⟨b, 0, none⟩), .int .i64 (i : Int), .int .i64 (j : Int)] w fun e w' => e = .returned (.int .i64 31) ∧ Below w.heap.size w w' := by
  have hm := has_yes h i
  have hn := has_yes h j
  rw [isFile_nat hi] at hm
  rw [isFile_nat hj] at hn
  obtain ⟨V, h⟩ := h
  obtain ⟨ai, ci, hvi⟩ := (h.row i hi).form
  obtain ⟨aj, cj, hvj⟩ := (h.row j hj).form
  have bi := h.bytes i hi
  have bj := h.bytes j hj
  rw [hvi] at bi
  rw [hvj] at bj
  have li := h.len hi
  have lj := h.len hj
  have H1 : ∀ W : World, (∀ o, W.cell? ⟨b, o, none⟩ = w.cell? ⟨b, o, none⟩) → Calls Try.prog 42 #[.pointer (some ⟨b, 2 + i * 2, none⟩)] W fun e w' => e = .returned (.int .i64 (((A i).length - S i : Nat) : Int)) ∧ w' = W.drew :=
    fun W hW => loose_any W b (2 + i * 2) _ ci ai (S i) (by rw [hW]; exact bi) (by rw [hW]; exact h.sure i hi) (h.leSure i hi) (by omega)
  have H2 : ∀ W : World, (∀ o, W.cell? ⟨b, o, none⟩ = w.cell? ⟨b, o, none⟩) → Calls Try.prog 42 #[.pointer (some ⟨b, 2 + j * 2, none⟩)] W fun e w' => e = .returned (.int .i64 (((A j).length - S j : Nat) : Int)) ∧ w' = W.drew :=
    fun W hW => loose_any W b (2 + j * 2) _ cj aj (S j) (by rw [hW]; exact bj) (by rw [hW]; exact h.sure j hj) (h.leSure j hj) (by omega)
  obtain ⟨x, hx⟩ : ∃ x, x = (A i).length - S i := ⟨_, rfl⟩
  obtain ⟨y, hy⟩ : ∃ y, y = (A j).length - S j := ⟨_, rfl⟩
  rw [← hx] at H1
  rw [← hy] at H2
  have hxy : 0 < x ∨ 0 < y := by omega
  have HM : Hid _ := hm
  have HN : Hid _ := hn
  have K1 : Hid _ := H1
  have K2 : Hid _ := H2
  clear h hvi hvj bi bj li lj hx hy hl hm hn H1 H2
  by_cases e : 0 < x
  · have t1 : decide (0 < x) = true := by simpa using e
    clear hxy e
    go_enter Try.func70, Try.ntmps70
    go_wp2_with fail
    refine Calls.mono HM.out ?_
    rintro e w' ⟨rfl, rfl⟩
    go_wp2_with fail
    refine Calls.mono HN.out ?_
    rintro e w1 ⟨rfl, rfl⟩
    go_wp2_with fail
    refine (K1.out _ (fun _ => rfl)).mono ?_
    rintro e w2 ⟨rfl, rfl⟩
    go_wp2
    go_ret
    exact ⟨rfl, (Below.refl _ _).drew⟩
  · have t1 : decide (0 < x) = false := by simpa using e
    have t2 : decide (0 < y) = true := by simp; omega
    clear hxy e
    go_enter Try.func70, Try.ntmps70
    go_wp2_with fail
    refine Calls.mono HM.out ?_
    rintro e w' ⟨rfl, rfl⟩
    go_wp2_with fail
    refine Calls.mono HN.out ?_
    rintro e w1 ⟨rfl, rfl⟩
    go_wp2_with fail
    refine (K1.out _ (fun _ => rfl)).mono ?_
    rintro e w2 ⟨rfl, rfl⟩
    go_wp2_with fail
    refine (K2.out _ (fun _ => by simp)).mono ?_
    rintro e w2 ⟨rfl, rfl⟩
    go_wp2
    go_ret
    exact ⟨rfl, (Below.refl _ _).drew.drew⟩

/-- f with i and j in each other's places. -/
def swp {α : Type} (f : Nat → α) (i j : Nat) : Nat → α := fun k => if k = i then f j else if k = j then f i else f k
theorem swp_self {α : Type} (f : Nat → α) (i : Nat) : swp f i i = f := by funext k; unfold swp; split <;> simp_all
theorem swp_eq {α : Type} (f : Nat → α) {i j : Nat} (h : i ≠ j) : swp f i j = upd (upd f i (f j)) j (f i) := by
  funext k
  unfold swp upd
  by_cases e : k = i
  · subst e; simp [h]
  · by_cases e2 : k = j
    · subst e2; simp [e]
    · simp [e, e2]
theorem tot_swp (A : Nat → List UInt8) {i j : Nat} (hi : i < 256) (hj : j < 256) : tot (swp A i j) = tot A := by
  by_cases h : i = j
  · subst h; rw [swp_self]
  · rw [swp_eq A h]
    have h1 := tot_upd A hi (A j)
    have h2 := tot_upd (upd A i (A j)) hj (A i)
    rw [upd_other A (A j) (fun e => h e.symm)] at h2
    omega
/-- The file that stands in k's place. -/
def swi (i j k : Nat) : Nat := if k = i then j else if k = j then i else k
theorem swp_at {α : Type} (f : Nat → α) (i j k : Nat) : swp f i j k = f (swi i j k) := by unfold swp swi; split; rfl; split <;> rfl
theorem swi_lt {i j k : Nat} (hi : i < 256) (hj : j < 256) (hk : k < 256) : swi i j k < 256 := by unfold swi; split; exact hj; split; exact hi; exact hk
theorem swi_ne {i j k m : Nat} (h : k ≠ m) : swi i j k ≠ swi i j m := by unfold swi; intro e; split at e <;> split at e <;> (try split at e) <;> (try split at e) <;> omega

theorem DkV.swap {w w' : World} {b room : Nat} {A : Nat → List UInt8} {S : Nat → Nat} {own : Nat → Prop} {V : Nat → Value} (h : DkV w b room A S own V) {i j : Nat} (hi : i < 256) (hj : j < 256)
    (hg : w.grownBy w' (some b)) (hr : w'.cell? ⟨b, 0, none⟩ = w.cell? ⟨b, 0, none⟩) (hu : w'.cell? ⟨b, 1, none⟩ = w.cell? ⟨b, 1, none⟩)
    (hc : ∀ k, k < 256 → w'.cell? ⟨b, 2 + k * 2, none⟩ = some (V (swi i j k)) ∧ w'.cell? ⟨b, 2 + k * 2 + 1, none⟩ = some (.int .i64 (S (swi i j k) : Int)))
    (hf : ∀ o, o < 514 → w'.frozen? ⟨b, o, none⟩ = false) : DkV w' b room (swp A i j) (swp S i j) own (swp V i j) := by
  refine ⟨Nat.lt_of_lt_of_le h.lt hg.size, by rw [hr]; exact h.roomC, by rw [hu, tot_swp A hi hj]; exact h.used, hf, fun k hk => by rw [swp_at]; exact (hc k hk).1, fun k hk => by rw [swp_at]; exact (hc k hk).2, ?_, ?_, ?_, ?_, by rw [tot_swp A hi hj]; exact h.fits, h.big⟩
  · intro k hk
    rw [swp_at, swp_at]
    have hq := swi_lt hi hj hk
    refine (h.row _ hq).carry fun m hm => ?_
    have := ((h.row _ hq).block hm).1
    exact hg.block m ((h.row _ hq).block hm).2 (by intro q; injection q; omega)
  · intro k m hk hm e x hx hx'
    rw [swp_at] at hx hx'
    exact h.apart _ _ (swi_lt hi hj hk) (swi_lt hi hj hm) (swi_ne e) x hx hx'
  · intro k hk x hx
    rw [swp_at] at hx
    exact h.mine _ (swi_lt hi hj hk) x hx
  · intro k hk
    rw [swp_at, swp_at]
    exact h.leSure _ (swi_lt hi hj hk)

theorem swap_cells {w : World} {b p q : Nat} (x1 x2 x3 x4 : Value) {u1 u2 u3 u4 : Value} (h1 : w.cell? ⟨b, p, none⟩ = some u1) (h2 : w.cell? ⟨b, p + 1, none⟩ = some u2) (h3 : w.cell? ⟨b, q, none⟩ = some u3) (h4 : w.cell? ⟨b, q + 1, none⟩ = some u4) (o : Nat) :
    ((((w.setCell ⟨b, p, none⟩ x1).setCell ⟨b, p + 1, none⟩ x2).setCell ⟨b, q, none⟩ x3).setCell ⟨b, q + 1, none⟩ x4).cell? ⟨b, o, none⟩ =
      if o = q + 1 then some x4 else if o = q then some x3 else if o = p + 1 then some x2 else if o = p then some x1 else w.cell? ⟨b, o, none⟩ := by
  obtain ⟨y2, k2⟩ := cell_some h1 x1 h2
  obtain ⟨y3, k3⟩ := cell_some h1 x1 h3
  obtain ⟨y4, k4⟩ := cell_some h1 x1 h4
  obtain ⟨z3, m3⟩ := cell_some k2 x2 k3
  obtain ⟨z4, m4⟩ := cell_some k2 x2 k4
  obtain ⟨t4, n4⟩ := cell_some m3 x3 m4
  rw [cell_set x4 n4, cell_set x3 m3, cell_set x2 k2, cell_set x1 h1]
theorem swap_grown (w : World) (b p q : Nat) (x1 x2 x3 x4 : Value) : w.grownBy ((((w.setCell ⟨b, p, none⟩ x1).setCell ⟨b, p + 1, none⟩ x2).setCell ⟨b, q, none⟩ x3).setCell ⟨b, q + 1, none⟩ x4) (some b) :=
  grown_trans (grown_trans (grown_trans (grown_set _ _ _ _) (grown_set _ _ _ _)) (grown_set _ _ _ _)) (grown_set _ _ _ _)

theorem DkV.swapped {w : World} {b room : Nat} {A : Nat → List UInt8} {S : Nat → Nat} {own : Nat → Prop} {V : Nat → Value} (h : DkV w b room A S own V) {i j : Nat} (hi : i < 256) (hj : j < 256) :
    DkV ((((w.setCell ⟨b, 2 + i * 2, none⟩ (V j)).setCell ⟨b, 2 + i * 2 + 1, none⟩ (.int .i64 (S j : Int))).setCell ⟨b, 2 + j * 2, none⟩ (V i)).setCell ⟨b, 2 + j * 2 + 1, none⟩ (.int .i64 (S i : Int))) b room (swp A i j) (swp S i j) own (swp V i j) := by
  have hc := swap_cells (V j) (.int .i64 (S j : Int)) (V i) (.int .i64 (S i : Int)) (h.bytes i hi) (h.sure i hi) (h.bytes j hj) (h.sure j hj)
  refine h.swap hi hj (swap_grown _ _ _ _ _ _ _ _) ?_ ?_ ?_ ?_
  · rw [hc, if_neg (by omega), if_neg (by omega), if_neg (by omega), if_neg (by omega)]
  · rw [hc, if_neg (by omega), if_neg (by omega), if_neg (by omega), if_neg (by omega)]
  · intro k hk
    by_cases e1 : k = j
    · subst e1
      have e : swi i k k = i := by unfold swi; split <;> simp_all
      rw [e]
      refine ⟨?_, ?_⟩
      · rw [hc, if_neg (by omega), if_pos rfl]
      · rw [hc, if_pos rfl]
    · by_cases e2 : k = i
      · subst e2
        have e : swi k j k = j := by simp [swi]
        rw [e]
        refine ⟨?_, ?_⟩
        · rw [hc, if_neg (by omega), if_neg (by omega), if_neg (by omega), if_pos rfl]
        · rw [hc, if_neg (by omega), if_neg (by omega), if_pos rfl]
      · have e : swi i j k = k := by simp [swi, e1, e2]
        rw [e]
        refine ⟨?_, ?_⟩
        · rw [hc, if_neg (by omega), if_neg (by omega), if_neg (by omega), if_neg (by omega)]; exact h.bytes k hk
        · rw [hc, if_neg (by omega), if_neg (by omega), if_neg (by omega), if_neg (by omega)]; exact h.sure k hk
  · intro o ho
    rw [World.frozen?_setCell, World.frozen?_setCell, World.frozen?_setCell, World.frozen?_setCell]
    exact h.froz o ho

set_option maxHeartbeats 400000 in
set_option maxRecDepth 20000 in
theorem Swap_yes {w : World} {b room : Nat} {A : Nat → List UInt8} {S : Nat → Nat} {own : Nat → Prop} (h : Dk w b room A S own) (i j : Nat) (hi : i < 256) (hj : j < 256) (hl : S i = (A i).length ∧ S j = (A j).length) (hne : i ≠ j) :
    Calls Try.prog 70 #[.pointer (some ⟨b, 0, none⟩), .int .i64 (i : Int), .int .i64 (j : Int)] w fun e w' => e = .returned (.int .i64 0) ∧ Dk w' b room (swp A i j) (swp S i j) own ∧ Kept b own w w' := by
  have hm := has_yes h i
  have hn := has_yes h j
  rw [isFile_nat hi] at hm
  rw [isFile_nat hj] at hn
  obtain ⟨V, h⟩ := h
  obtain ⟨ai, ci, hvi⟩ := (h.row i hi).form
  obtain ⟨aj, cj, hvj⟩ := (h.row j hj).form
  have bi := h.bytes i hi
  have bj := h.bytes j hj
  have si := h.sure i hi
  have sj := h.sure j hj
  rw [hvi] at bi
  rw [hvj] at bj
  have li := h.len hi
  have lj := h.len hj
  have H1 : ∀ W : World, (∀ o, W.cell? ⟨b, o, none⟩ = w.cell? ⟨b, o, none⟩) → Calls Try.prog 42 #[.pointer (some ⟨b, 2 + i * 2, none⟩)] W fun e w' => e = .returned (.int .i64 0) ∧ w' = W.drew := by
    intro W hW
    have := loose_any W b (2 + i * 2) _ ci ai (S i) (by rw [hW]; exact bi) (by rw [hW]; exact si) (h.leSure i hi) (by omega)
    rw [hl.1, Nat.sub_self] at this
    exact this
  have H2 : ∀ W : World, (∀ o, W.cell? ⟨b, o, none⟩ = w.cell? ⟨b, o, none⟩) → Calls Try.prog 42 #[.pointer (some ⟨b, 2 + j * 2, none⟩)] W fun e w' => e = .returned (.int .i64 0) ∧ w' = W.drew := by
    intro W hW
    have := loose_any W b (2 + j * 2) _ cj aj (S j) (by rw [hW]; exact bj) (by rw [hW]; exact sj) (h.leSure j hj) (by omega)
    rw [hl.2, Nat.sub_self] at this
    exact this
  have f1 := h.froz (2 + i * 2) (by omega)
  have f2 := h.froz (2 + j * 2) (by omega)
  have f3 := h.froz (2 + i * 2 + 1) (by omega)
  have f4 := h.froz (2 + j * 2 + 1) (by omega)
  have HM : Hid _ := hm
  have HN : Hid _ := hn
  have K1 : Hid _ := H1
  have K2 : Hid _ := H2
  have HD : Hid (DkV w b room A S own V) := h
  obtain ⟨ni, hni⟩ : ∃ n, n = (A i).length := ⟨_, rfl⟩
  obtain ⟨nj, hnj⟩ : ∃ n, n = (A j).length := ⟨_, rfl⟩
  obtain ⟨ui, hui⟩ : ∃ n, n = S i := ⟨_, rfl⟩
  obtain ⟨uj, huj⟩ : ∃ n, n = S j := ⟨_, rfl⟩
  rw [← hni] at bi
  rw [← hnj] at bj
  rw [← hui] at si
  rw [← huj] at sj
  have Vi : Hid (V i = .slice ai ni ci ∧ V j = .slice aj nj cj ∧ ui = S i ∧ uj = S j) := ⟨by rw [hni]; exact hvi, by rw [hnj]; exact hvj, hui, huj⟩
  have n1 : ¬ (i * 2 = j * 2) := by omega
  clear h hvi hvj li lj hl hm hn H1 H2 hni hnj hui huj
  go_enter Try.func70, Try.ntmps70
  go_wp2_with fail
  refine Calls.mono HM.out ?_
  rintro e w' ⟨rfl, rfl⟩
  go_wp2_with fail
  refine Calls.mono HN.out ?_
  rintro e w1 ⟨rfl, rfl⟩
  go_wp2_with fail
  refine (K1.out _ (fun _ => rfl)).mono ?_
  rintro e w2 ⟨rfl, rfl⟩
  go_wp2_with fail
  refine (K2.out _ (fun _ => by simp)).mono ?_
  rintro e w2 ⟨rfl, rfl⟩
  go_wp2
  go_region
  go_wp2
  go_ret
  obtain ⟨e1, e2, e3, e4⟩ := Vi.out
  rw [← e1, ← e2, e3, e4]
  refine ⟨rfl, (Dk.drew (Dk.drew (Dk.drew ⟨swp V i j, HD.out.swapped hi hj⟩))), ?_⟩
  exact ((Kept.refl b own _).grown (swap_grown _ _ _ _ _ _ _ _) (fun k hk => .inl (by injection hk with e; exact e.symm))).drew.drew.drew

end Go.Proofs.Ytpfnkjfbhcffiaa
