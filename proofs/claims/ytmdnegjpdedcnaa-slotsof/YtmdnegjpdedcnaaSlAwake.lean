/-
  A map of the call's own; and what must come, whatever the arguments are, comes (layer 10); a map that nobody made.
-/
import Derived.Test.YtmdnegjpdedcnaaSlRng
namespace Go.Proofs.Ytmdnegjpdedcnaa
open Go.RowKit

/-- A map that was made in this call. -/
structure Sn (w X : World) (B : Nat) (s : Sl.St) : Prop where
  sm : Sm X B s
  old : Below w.heap.size w X
  new : w.heap.size ≤ B

theorem Sn.below {w X Y : World} {B : Nat} {s : Sl.St} (h : Sn w X B s) (hb : Below X.heap.size X Y) : Sn w Y B s := ⟨h.sm.below hb, h.old.trans (hb.mono h.old.size), h.new⟩
theorem Sn.aft {w X Y : World} {B : Nat} {s s' : Sl.St} (h : Sn w X B s) (ha : AftS X Y B s') : Sn w Y B s' :=
  ⟨ha.1, h.old.trans (ha.2.below h.new (fun _ e => e.elim) h.old.size), h.new⟩
theorem Sn.set {w X : World} {B : Nat} {s : Sl.St} (h : Sn w X B s) (b o : Nat) (hb : b ≠ B) (hw : w.heap.size ≤ b) (v : Value) : Sn w (X.setCell ⟨b, o, none⟩ v) B s :=
  ⟨h.sm.carry (by rw [size_set6]; exact Nat.le_refl _) (Below.heap_setCell _ _ _ _ (fun e => hb e.symm)), h.old.setCell hw _, h.new⟩

theorem NewS_sn (w X : World) (h0 : Below w.heap.size w X) (k : Nat) (h : 1 ≤ k ∧ k ≤ 8) : Calls Try.prog 14 #[.int .i64 (k : Int)] X fun e w' => e = .returned (.tuple #[.pointer (some ⟨X.heap.size, 0, none⟩), .int .i64 0]) ∧ Sn w w' X.heap.size (Sl.new k) ∧ Below X.heap.size X w' := by
  refine (NewS_yes X k h).mono ?_
  rintro e w' ⟨rfl, h1, h2⟩
  exact ⟨rfl, ⟨h1, h0.trans (h2.mono h0.size), h0.size⟩, h2⟩

theorem aw_g1 : Sl.giveE (Sl.new 2) 8 2 = 90 := by decide
theorem aw_s1 : Sl.give (Sl.new 2) 8 2 = Sl.new 2 := by unfold Sl.give; rw [aw_g1]; rfl
theorem aw_g2 : Sl.giveE (Sl.new 2) 8 1 = 0 := by decide
def awS : Sl.St := Sl.put (Sl.new 2) 8 1
theorem aw_s2 : Sl.give (Sl.new 2) 8 1 = awS := by unfold Sl.give; rw [aw_g2]; rfl
theorem aw_o : awS.O 8 = 1 := by decide
theorem aw_e : awS.E 8 = 2 := by decide
theorem aw_r : (Sl.rng awS.O 16).length = 2 := by decide +kernel

set_option maxHeartbeats 800000 in
set_option maxRecDepth 20000 in
theorem awake_c (w : World) : Calls Try.prog 13 #[] w fun e w' => e = .returned (.bool true) ∧ Below w.heap.size w w' := by
  have HNew : Hid _ := NewS_sn w w (Below.refl _ _) 2 (by omega)
  obtain ⟨B, hB⟩ : ∃ B, B = w.heap.size := ⟨_, rfl⟩
  have HG1 : Hid (∀ X, Sn w X B (Sl.new 2) → Calls Try.prog 17 #[.pointer (some ⟨B, 0, none⟩), .int .i64 8, .int .i64 2] X fun e w' => e = .returned (.int .i64 90) ∧ Sn w w' B (Sl.new 2)) := fun X h => by
    have := GiveS_c h.sm 8 2
    rw [aw_g1, aw_s1] at this
    refine this.mono ?_
    rintro e w' ⟨rfl, h1⟩
    exact ⟨rfl, h.aft h1⟩
  have HG2 : Hid (∀ X, Sn w X B (Sl.new 2) → Calls Try.prog 17 #[.pointer (some ⟨B, 0, none⟩), .int .i64 8, .int .i64 1] X fun e w' => e = .returned (.int .i64 0) ∧ Sn w w' B awS) := fun X h => by
    have := GiveS_c h.sm 8 1
    rw [aw_g2, aw_s2] at this
    refine this.mono ?_
    rintro e w' ⟨rfl, h1⟩
    exact ⟨rfl, h.aft h1⟩
  have HO : Hid (∀ X, Sn w X B awS → Calls Try.prog 23 #[.pointer (some ⟨B, 0, none⟩), .int .i64 8] X fun e w' => e = .returned (.tuple #[.int .i64 1, .int .i64 2, .int .i64 0]) ∧ Sn w w' B awS) := fun X h => by
    have := OwnerS_yes h.sm 8 (by omega)
    rw [aw_o, aw_e] at this
    refine this.mono ?_
    rintro e w' ⟨rfl, h1⟩
    exact ⟨rfl, h.below h1⟩
  have HR : Hid (∀ X, Sn w X B awS → Calls Try.prog 22 #[.pointer (some ⟨B, 0, none⟩)] X fun e w' => ∃ p c, e = .returned (.slice p 2 c) ∧ Below w.heap.size w w') := fun X h => by
    refine (RangesS_c h.sm).mono ?_
    rintro e w' ⟨v, rfl, h1⟩
    obtain ⟨p, c, hv, _⟩ := h1.row.form
    rw [aw_r] at hv
    exact ⟨p, c, by rw [hv], h.old.trans (h1.old.mono h.old.size)⟩
  go_enter Try.func13, Try.ntmps13
  go_wp2_with fail
  refine Calls.mono HNew.out ?_
  rintro e w1 ⟨rfl, h1, -⟩
  rw [← hB] at h1 ⊢
  have H1 : Hid (Sn w w1 B (Sl.new 2)) := h1
  have HB : Hid (B = w.heap.size) := hB
  clear h1 hB HNew
  go_wp2_with fail
  refine (HG1.out _ H1.out).mono ?_
  rintro e w2 ⟨rfl, h2⟩
  have H2 : Hid (Sn w w2 B (Sl.new 2)) := h2
  clear h2
  go_wp2_with fail
  refine (HG2.out _ H2.out).mono ?_
  rintro e w3 ⟨rfl, h3⟩
  have H3 : Hid (Sn w w3 B awS) := h3
  clear h3
  go_wp2_with fail
  refine (HO.out _ H3.out).mono ?_
  rintro e w4 ⟨rfl, h4⟩
  have H4 : Hid (Sn w w4 B awS) := h4
  clear h4
  go_wp2_with fail
  refine (HR.out _ H4.out).mono ?_
  rintro e w5 ⟨p, c, rfl, h5⟩
  have H5 : Hid _ := h5
  clear h5
  go_wp2
  go_ret
  exact ⟨rfl, H5.out⟩

/-- No map, or one that New and From did not give. -/
def NoM (w : World) (v : Value) : Prop := v = .pointer none ∨ ∃ B, v = .pointer (some ⟨B, 0, none⟩) ∧ w.cell? ⟨B, 1, none⟩ = some (.int .i64 0)
theorem NoM.below {w w' : World} {v : Value} (h : NoM w v) (hb : Below w.heap.size w w') : NoM w' v := by
  rcases h with h | ⟨B, h1, h2⟩
  · exact .inl h
  · exact .inr ⟨B, h1, (hb.cell (World.block_lt_of_cell? _ _ h2)).trans h2⟩

section
variable {w : World} {v : Value}

theorem isMade_noM (h : NoM w v) : Calls Try.prog 38 #[v] w fun e w' => e = .returned (.bool false) ∧ w' = w := by
  rcases h with h | ⟨B, h1, h2⟩
  · subst h
    go_enter Try.func38, Try.ntmps38
    go_wp2
    go_ret
    exact ⟨rfl, rfl⟩
  · subst h1
    go_enter Try.func38, Try.ntmps38
    go_wp2
    go_ret
    exact ⟨rfl, rfl⟩
theorem has_noM (h : NoM w v) (a : Int) : Calls Try.prog 32 #[v, .int .i64 a] w fun e w' => e = .returned (.bool false) ∧ w' = w := by
  have HM : Hid _ := isMade_noM h
  clear h
  go_enter Try.func32, Try.ntmps32
  go_wp2_with fail
  refine Calls.mono HM.out ?_
  rintro e w1 ⟨rfl, hw⟩
  subst hw
  go_wp2
  go_ret
  exact ⟨rfl, rfl⟩
theorem Owner_noM (h : NoM w v) (a : Int) : Calls Try.prog 23 #[v, .int .i64 a] w fun e w' => e = .returned (.tuple #[.int .i64 0, .int .i64 0, .int .i64 1]) ∧ w' = w := by
  have HM : Hid _ := has_noM h a
  clear h
  go_enter Try.func23, Try.ntmps23
  go_wp2_with fail
  refine Calls.mono HM.out ?_
  rintro e w1 ⟨rfl, hw⟩
  subst hw
  go_wp2
  go_ret3
  exact ⟨rfl, rfl⟩
theorem Give_noM (h : NoM w v) (a b : Int) : Calls Try.prog 17 #[v, .int .i64 a, .int .i64 b] w fun e w' => e = .returned (.int .i64 1) ∧ w' = w := by
  have HM : Hid _ := has_noM h a
  clear h
  go_enter Try.func17, Try.ntmps17
  go_wp2_with fail
  refine Calls.mono HM.out ?_
  rintro e w1 ⟨rfl, hw⟩
  subst hw
  go_wp2
  go_ret
  exact ⟨rfl, rfl⟩
theorem Ranges_noM (h : NoM w v) : Calls Try.prog 22 #[v] w fun e w' => e = .returned (.slice none 0 0) ∧ w' = w := by
  have HM : Hid _ := isMade_noM h
  clear h
  go_enter Try.func22, Try.ntmps22
  go_wp2_with fail
  refine Calls.mono HM.out ?_
  rintro e w1 ⟨rfl, hw⟩
  subst hw
  go_wp2
  go_ret
  exact ⟨rfl, rfl⟩
theorem Bytes_noM (h : NoM w v) : Calls Try.prog 21 #[v] w fun e w' => e = .returned (.tuple #[.string ⟨#[]⟩, .int .i64 1]) ∧ w' = w := by
  have HM : Hid _ := isMade_noM h
  clear h
  go_enter Try.func21, Try.ntmps21
  go_wp2_with fail
  refine Calls.mono HM.out ?_
  rintro e w1 ⟨rfl, hw⟩
  subst hw
  go_wp2
  go_ret2
  exact ⟨rfl, rfl⟩
end
end Go.Proofs.Ytmdnegjpdedcnaa
