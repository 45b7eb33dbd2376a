/-
  A map of slots in memory: its block; what of the world stays as it was while it is used; its small functions.
-/
import Derived.Test.YtepbmfjimppgcaaRows
import Derived.Test.YtepbmfjimppgcaaRlRow
import Derived.Test.YtepbmfjimppgcaaSlMath
import Derived.BigRegion
import Derived.Deep.Cut
namespace Go.Proofs.Ytepbmfjimppgcaa
open Go.RowKit

/-- What is neither block b nor owned is as it was. -/
structure KeptB (b : Nat) (own : Nat → Prop) (w w' : World) : Prop where
  os : w'.os = w.os
  tape : w'.tape = w.tape
  output : w'.output = w.output
  size : w.heap.size ≤ w'.heap.size
  block : ∀ k, k < w.heap.size → k ≠ b → ¬ own k → w'.heap[k]? = w.heap[k]?

theorem KeptB.refl (b : Nat) (own : Nat → Prop) (w : World) : KeptB b own w w := ⟨rfl, rfl, rfl, Nat.le_refl _, fun _ _ _ _ => rfl⟩
theorem KeptB.trans {b : Nat} {own own' : Nat → Prop} {a w w' : World} (h : KeptB b own a w) (k : KeptB b own' w w') (ho : ∀ k, k < a.heap.size → own' k → own k) : KeptB b own a w' :=
  ⟨k.os.trans h.os, k.tape.trans h.tape, k.output.trans h.output, Nat.le_trans h.size k.size, fun i hi hb hn => (k.block i (Nat.lt_of_lt_of_le hi h.size) hb (fun e => hn (ho i hi e))).trans (h.block i hi hb hn)⟩
theorem KeptB.ofBelow {b : Nat} {own : Nat → Prop} {w w' : World} (h : Below w.heap.size w w') : KeptB b own w w' := ⟨h.os, h.tape, h.output, h.size, fun k hk _ _ => h.block k hk⟩
theorem KeptB.below {b B : Nat} {own : Nat → Prop} {w w' : World} (h : KeptB b own w w') (hb : B ≤ b) (ho : ∀ k, own k → B ≤ k) (hB : B ≤ w.heap.size) : Below B w w' :=
  ⟨h.os, h.tape, h.output, h.size, fun k hk => h.block k (by omega) (by omega) (fun e => by have := ho k e; omega)⟩
theorem KeptB.setCell {b : Nat} {own : Nat → Prop} {a w : World} (h : KeptB b own a w) (p : Addr) (hp : p.block = b ∨ own p.block ∨ a.heap.size ≤ p.block) (u : Value) : KeptB b own a (w.setCell p u) :=
  ⟨h.os, h.tape, h.output, by simpa [World.setCell] using h.size, fun k hk hb hn => by
    rw [Below.heap_setCell _ _ _ _ (by rintro rfl; rcases hp with e | e | e; exact hb e; exact hn e; omega)]
    exact h.block k hk hb hn⟩
theorem KeptB.grown {b : Nat} {own : Nat → Prop} {a w w' : World} {row : Option Nat} (h : KeptB b own a w) (hg : w.grownBy w' row) (hr : ∀ k, row = some k → k = b ∨ own k ∨ a.heap.size ≤ k) : KeptB b own a w' :=
  ⟨hg.os.trans h.os, hg.tape.trans h.tape, hg.output.trans h.output, Nat.le_trans h.size hg.size, fun k hk hb hn => by
    rw [hg.block k (Nat.lt_of_lt_of_le hk h.size) (fun e => by rcases hr k e.symm with q | q | q; exact hb q; exact hn q; omega)]
    exact h.block k hk hb hn⟩

theorem sl_cell_set6 {w : World} {b o : Nat} {y : Value} (x : Value) (h : w.cell? ⟨b, o, none⟩ = some y) (q : Nat) : (w.setCell ⟨b, o, none⟩ x).cell? ⟨b, q, none⟩ = if q = o then some x else w.cell? ⟨b, q, none⟩ := by
  by_cases e : q = o
  · subst e; rw [if_pos rfl]; exact World.cell?_setCell_same _ _ _ h
  · rw [if_neg e]; exact World.cell?_setCell_other _ _ _ _ (by intro q; injection q; omega)
theorem sl_size_set6 (w : World) (p : Addr) (x : Value) : (w.setCell p x).heap.size = w.heap.size := by simp [World.setCell]
theorem sl_below_drewN (w : World) (n : Nat) : Below w.heap.size w (w.drewN n) := ⟨rfl, rfl, rfl, Nat.le_refl _, fun _ _ => rfl⟩
theorem below_drew (w : World) : Below w.heap.size w w.drew := ⟨rfl, rfl, rfl, Nat.le_refl _, fun _ _ => rfl⟩
theorem sl_below_alloc (w : World) (o : Obj) : Below w.heap.size w (w.alloc o) := (Below.refl _ _).alloc (Nat.le_refl _) o

/-- Block B holds a map. -/
structure Sm (w : World) (B : Nat) (s : Sl.St) : Prop where
  lt : B < w.heap.size
  o : ∀ i, i < 16 → w.cell? ⟨B, i * 2, none⟩ = some (.int .i64 (s.O i : Int))
  e : ∀ i, i < 16 → w.cell? ⟨B, i * 2 + 1, none⟩ = some (.int .i64 (s.E i : Int))
  f : ∀ j, j < 32 → w.frozen? ⟨B, j, none⟩ = false
  ok : Sl.Ok s

theorem Sm.carry {w w' : World} {B : Nat} {s : Sl.St} (h : Sm w B s) (hs : w.heap.size ≤ w'.heap.size) (hb : w'.heap[B]? = w.heap[B]?) : Sm w' B s :=
  ⟨Nat.lt_of_lt_of_le h.lt hs, fun i hi => (World.cell?_of_block (a := ⟨B, i * 2, none⟩) hb).trans (h.o i hi), fun i hi => (World.cell?_of_block (a := ⟨B, i * 2 + 1, none⟩) hb).trans (h.e i hi), fun j hj => (World.frozen?_of_block (a := ⟨B, j, none⟩) hb).trans (h.f j hj), h.ok⟩
theorem Sm.below {w w' : World} {B : Nat} {s : Sl.St} (h : Sm w B s) (hb : Below w.heap.size w w') : Sm w' B s := h.carry hb.size (hb.block B h.lt)

/-- What a call that may change the map leaves. -/
def AftS (w w' : World) (B : Nat) (s : Sl.St) : Prop := Sm w' B s ∧ KeptB B (fun _ => False) w w'

section
variable {w : World} {B : Nat} {s : Sl.St}

theorem isGroup_c (g : Int) (w : World) : Calls Try.prog 31 #[.int .i64 g] w fun e w' => e = .returned (.bool (decide (1 ≤ g) && decide (g ≤ 8))) ∧ w' = w := by
  go_enter Try.func31, Try.ntmps31
  go_wp2
  all_goals
    go_ret
    exact ⟨ret_bool (by simp; try omega), rfl⟩

theorem isMadeS_c (h : Sm w B s) : Calls Try.prog 50 #[.pointer (some ⟨B, 0, none⟩)] w fun e w' => e = .returned (.bool true) ∧ w' = w := by
  have h1 := h.e 0 (by omega)
  obtain ⟨n, hn⟩ : ∃ n, n = s.E 0 := ⟨_, rfl⟩
  have h2 : 0 < n := by have := h.ok 0 (by omega); omega
  rw [← hn] at h1
  simp only [Nat.zero_mul, Nat.zero_add] at h1
  clear h hn
  go_enter Try.func50, Try.ntmps50
  go_wp2
  all_goals
    go_ret
    exact ⟨ret_bool (by simp; try omega), rfl⟩

def isSlot (a : Int) : Bool := decide (0 ≤ a ∧ a < 16)

theorem hasS_c (h : Sm w B s) (a : Int) : Calls Try.prog 32 #[.pointer (some ⟨B, 0, none⟩), .int .i64 a] w fun e w' => e = .returned (.bool (isSlot a)) ∧ w' = w := by
  have hm := isMadeS_c h
  clear h
  go_enter Try.func32, Try.ntmps32
  go_wp2_with fail
  refine hm.mono ?_
  rintro e w' ⟨rfl, rfl⟩
  go_wp2
  all_goals
    go_ret
    exact ⟨ret_bool (by unfold isSlot; simp; try omega), rfl⟩

theorem OwnerS_out (h : Sm w B s) (a : Int) (ha : isSlot a = false) : Calls Try.prog 19 #[.pointer (some ⟨B, 0, none⟩), .int .i64 a] w fun e w' => e = .returned (.tuple #[.int .i64 0, .int .i64 0, .int .i64 1]) ∧ w' = w := by
  have hm := hasS_c h a
  rw [ha] at hm
  clear h ha
  go_enter Try.func19, Try.ntmps19
  go_wp2_with fail
  refine hm.mono ?_
  rintro e w' ⟨rfl, rfl⟩
  go_wp2
  go_ret3
  exact ⟨rfl, rfl⟩

theorem isSlot_nat {i : Nat} (h : i < 16) : isSlot (i : Int) = true := by unfold isSlot; simp; omega

theorem OwnerS_yes (h : Sm w B s) (i : Nat) (hi : i < 16) : Calls Try.prog 19 #[.pointer (some ⟨B, 0, none⟩), .int .i64 (i : Int)] w fun e w' => e = .returned (.tuple #[.int .i64 (s.O i : Int), .int .i64 (s.E i : Int), .int .i64 0]) ∧ Below w.heap.size w w' := by
  have hm := hasS_c h i
  rw [isSlot_nat hi] at hm
  have h1 := h.o i hi
  have h2 := h.e i hi
  clear h
  go_enter Try.func19, Try.ntmps19
  go_wp2_with fail
  refine hm.mono ?_
  rintro e w' ⟨rfl, rfl⟩
  go_wp2
  go_region
  go_wp2
  go_ret3
  exact ⟨rfl, (sl_below_alloc _ _).drew⟩

theorem Sm.put (h : Sm w B s) {i g : Nat} (hi : i < 16) (hg : 1 ≤ g ∧ g ≤ 8) (he : s.E i ≠ 2147483647) {w' : World}
    (h1 : w' = (w.setCell ⟨B, i * 2, none⟩ (.int .i64 (g : Int))).setCell ⟨B, i * 2 + 1, none⟩ (.int .i64 ((s.E i : Int) + 1))) : AftS w w' B (Sl.put s i g) := by
  subst h1
  have e1 := h.o i hi
  have e2 := h.e i hi
  have e3 : (w.setCell ⟨B, i * 2, none⟩ (.int .i64 (g : Int))).cell? ⟨B, i * 2 + 1, none⟩ = some (.int .i64 (s.E i : Int)) := by
    rw [sl_cell_set6 _ e1, if_neg (by omega)]
    exact e2
  refine ⟨⟨by rw [sl_size_set6, sl_size_set6]; exact h.lt, fun j hj => ?_, fun j hj => ?_, fun j hj => by rw [World.frozen?_setCell, World.frozen?_setCell]; exact h.f j hj, Sl.put_ok h.ok hg he hi⟩, ((KeptB.refl B _ w).setCell _ (.inl rfl) _).setCell _ (.inl rfl) _⟩
  · rw [sl_cell_set6 _ e3, if_neg (by omega), sl_cell_set6 _ e1]
    show _ = some (Value.int .i64 (((if j = i then g else s.O j : Nat)) : Int))
    by_cases e : j = i
    · subst e
      rw [if_pos rfl, if_pos rfl]
    · rw [if_neg (by omega), if_neg e]
      exact h.o j hj
  · rw [sl_cell_set6 _ e3]
    show _ = some (Value.int .i64 (((if j = i then s.E i + 1 else s.E j : Nat)) : Int))
    by_cases e : j = i
    · subst e
      rw [if_pos rfl, if_pos rfl]
      rfl
    · rw [if_neg (by omega), if_neg e, sl_cell_set6 _ e1, if_neg (by omega)]
      exact h.e j hj

theorem GiveS_c (h : Sm w B s) (a g : Int) : Calls Try.prog 44 #[.pointer (some ⟨B, 0, none⟩), .int .i64 a, .int .i64 g] w fun e w' => e = .returned (.int .i64 (Sl.giveE s a g : Int)) ∧ AftS w w' B (Sl.give s a g) := by
  have hm := hasS_c h a
  have HG : Hid (∀ X, Calls Try.prog 31 #[.int .i64 g] X fun e w' => e = .returned (.bool (decide (1 ≤ g) && decide (g ≤ 8))) ∧ w' = X) := fun X => isGroup_c g X
  have HS : Hid (AftS w w B s) := ⟨h, KeptB.refl _ _ _⟩
  cases ha : isSlot a with
  | false =>
    rw [ha] at hm
    have he : Sl.giveE s a g = 1 := by
      unfold isSlot at ha
      simp at ha
      unfold Sl.giveE
      rw [if_neg (by omega)]
    have hs : Sl.give s a g = s := by unfold Sl.give; rw [he]; rfl
    rw [he, hs]
    clear h ha he hs HG
    go_enter Try.func44, Try.ntmps44
    go_wp2_with fail
    refine hm.mono ?_
    rintro e w' ⟨rfl, rfl⟩
    go_wp2
    go_ret
    exact ⟨rfl, HS.out⟩
  | true =>
    rw [ha] at hm
    have ha' : 0 ≤ a ∧ a < 16 := by simpa [isSlot] using ha
    clear ha
    obtain ⟨i, rfl⟩ : ∃ i : Nat, a = (i : Int) := ⟨a.toNat, by omega⟩
    have hi : i < 16 := by omega
    have h1 := h.o i hi
    have h2 := h.e i hi
    have f1 := h.f (i * 2) (by omega)
    have f2 := h.f (i * 2 + 1) (by omega)
    have hk := h.ok i hi
    by_cases hg : 1 ≤ g ∧ g ≤ 8
    · obtain ⟨q, rfl⟩ : ∃ q : Nat, g = (q : Int) := ⟨g.toNat, by omega⟩
      have hq1 : decide ((1 : Int) ≤ (q : Int)) = true := by simp; omega
      have hq2 : decide ((q : Int) ≤ 8) = true := by simp; omega
      have hH : Hid (Sl.giveE s i q = if s.O i = q then 90 else if s.E i = 2147483647 then 1 else 0) := by
        show _ = _
        unfold Sl.giveE
        rw [if_pos (by omega), Int.toNat_natCast]
        by_cases e : s.O i = q
        · rw [if_pos (by omega), if_pos e]
        · rw [if_neg (by omega), if_neg e]
      have HP : Hid (s.E i ≠ 2147483647 → ∀ w', w' = (w.setCell ⟨B, i * 2, none⟩ (.int .i64 (q : Int))).setCell ⟨B, i * 2 + 1, none⟩ (.int .i64 ((s.E i : Int) + 1)) → AftS w w' B (Sl.put s i q)) := fun he w' hw => h.put hi (by omega) he hw
      have HE : Hid (s.E i ≠ 2147483647 → s.O i ≠ q → Sl.give s i q = Sl.put s i q) := fun e1 e2 => by
        unfold Sl.give
        rw [hH.out, if_neg e2, if_neg e1, if_pos rfl, Int.toNat_natCast, Int.toNat_natCast]
      have HN : Hid (s.E i = 2147483647 ∨ s.O i = q → Sl.give s i q = s) := fun e => by
        unfold Sl.give
        rw [hH.out]
        rcases e with e | e
        · by_cases e2 : s.O i = q
          · rw [if_pos e2]; rfl
          · rw [if_neg e2, if_pos e]; rfl
        · rw [if_pos e]; rfl
      obtain ⟨o, ho⟩ : ∃ o, o = s.O i := ⟨_, rfl⟩
      obtain ⟨n, hn⟩ : ∃ n, n = s.E i := ⟨_, rfl⟩
      rw [← ho] at h1 hH HE HN hk
      rw [← hn] at h2 hH HP HE HN hk
      clear h ha' hg
      have hk4 := hk.2.2.2
      clear hk ho hn
      by_cases e1 : o = q
      · subst e1
        rw [hH.out, HN.out (.inr rfl), if_pos rfl]
        go_enter Try.func44, Try.ntmps44
        go_wp2_with fail
        refine hm.mono ?_
        rintro e w' ⟨rfl, rfl⟩
        go_wp2_with fail
        refine (HG.out _).mono ?_
        rintro e w' ⟨rfl, rfl⟩
        go_wp2
        go_ret
        exact ⟨rfl, HS.out⟩
      · have e1' : ((o : Int) == (q : Int)) = false := by simpa using fun h : (o : Int) = (q : Int) => e1 (by omega)
        by_cases e2 : n = 2147483647
        · subst e2
          rw [hH.out, HN.out (.inl rfl), if_neg e1, if_pos rfl]
          go_enter Try.func44, Try.ntmps44
          go_wp2_with fail
          refine hm.mono ?_
          rintro e w' ⟨rfl, rfl⟩
          go_wp2_with fail
          refine (HG.out _).mono ?_
          rintro e w' ⟨rfl, rfl⟩
          go_wp2
          go_ret
          exact ⟨rfl, HS.out⟩
        · have e2' : ((n : Int) == 2147483647) = false := by simpa using fun h : (n : Int) = 2147483647 => e2 (by omega)
          rw [hH.out, HE.out e2 e1, if_neg e1, if_neg e2]
          have HP2 : Hid _ := HP.out e2
          clear HP HE HN hH e2
          go_enter Try.func44, Try.ntmps44
          go_wp2_with fail
          refine hm.mono ?_
          rintro e w' ⟨rfl, rfl⟩
          go_wp2_with fail
          refine (HG.out _).mono ?_
          rintro e w' ⟨rfl, rfl⟩
          go_wp2
          go_ret
          exact ⟨rfl, HP2.out _ rfl⟩
    · have he : Sl.giveE s i g = 1 := by
        unfold Sl.giveE
        rw [if_neg (by omega)]
      have hs : Sl.give s i g = s := by unfold Sl.give; rw [he]; rfl
      rw [he, hs]
      have hq : (decide (1 ≤ g) && decide (g ≤ 8)) = false := by simp; omega
      clear h ha' he hs h1 h2 f1 f2 hk hg
      go_enter Try.func44, Try.ntmps44
      go_wp2_with fail
      refine hm.mono ?_
      rintro e w' ⟨rfl, rfl⟩
      go_wp2_with fail
      refine (HG.out _).mono ?_
      rintro e w' ⟨rfl, rfl⟩
      go_wp2
      go_ret
      exact ⟨rfl, HS.out⟩
end
end Go.Proofs.Ytepbmfjimppgcaa
