/-
  A map of the call's own; and what must come, whatever the arguments are, comes (layer 10); a map that nobody made.
-/
import Derived.Test.YtepbmfjimppgcaaSlRng
namespace Go.Proofs.Ytepbmfjimppgcaa
open Go.RowKit

/-- A map that was made in this call. -/
structure Sn (w X : World) (B : Nat) (s : Sl.St) : Prop where
  sm : Sm X B s
  old : Below w.heap.size w X
  new : w.heap.size ≤ B

theorem Sn.below {w X Y : World} {B : Nat} {s : Sl.St} (h : Sn w X B s) (hb : Below X.heap.size X Y) : Sn w Y B s := ⟨h.sm.below hb, h.old.trans (hb.mono h.old.size), h.new⟩
theorem Sn.aft {w X Y : World} {B : Nat} {s s' : Sl.St} (h : Sn w X B s) (ha : AftS X Y B s') : Sn w Y B s' :=
  ⟨ha.1, h.old.trans (ha.2.below h.new (fun _ e => e.elim) h.old.size), h.new⟩
theorem Sn.set {w X : World} {B : Nat} {s : Sl.St} (h : Sn w X B s) (b o : Nat) (hb : b ≠ B) (hw : w.heap.size ≤ b) (v : Value) : Sn w (X.setCell ⟨b, o, none⟩ v) B s :=
  ⟨h.sm.carry (by rw [sl_size_set6]; exact Nat.le_refl _) (Below.heap_setCell _ _ _ _ (fun e => hb e.symm)), h.old.setCell hw _, h.new⟩

theorem NewS_sn (w X : World) (h0 : Below w.heap.size w X) (k : Nat) (h : 1 ≤ k ∧ k ≤ 8) : Calls Try.prog 16 #[.int .i64 (k : Int)] X fun e w' => e = .returned (.tuple #[.pointer (some ⟨X.heap.size, 0, none⟩), .int .i64 0]) ∧ Sn w w' X.heap.size (Sl.new k) ∧ Below X.heap.size X w' := by
  refine (NewS_yes X k h).mono ?_
  rintro e w' ⟨rfl, h1, h2⟩
  exact ⟨rfl, ⟨h1, h0.trans (h2.mono h0.size), h0.size⟩, h2⟩

theorem aw_g1 : Sl.giveE (Sl.new 2) 8 2 = 90 := by decide
theorem aw_s1 : Sl.give (Sl.new 2) 8 2 = Sl.new 2 := by unfold Sl.give; rw [aw_g1]; rfl
theorem aw_g2 : Sl.giveE (Sl.new 2) 8 1 = 0 := by decide
def awS : Sl.St := Sl.put (Sl.new 2) 8 1
theorem aw_s2 : Sl.give (Sl.new 2) 8 1 = awS := by unfold Sl.give; rw [aw_g2]; rfl
theorem aw_o : awS.O 8 = 1 := by decide
theorem aw_e : awS.E 8 = 2 := by decide
theorem aw_r : (Sl.rng awS.O 16).length = 2 := by decide +kernel


/-- No map, or one that New and From did not give. -/
def sl_NoM (w : World) (v : Value) : Prop := v = .pointer none ∨ ∃ B, v = .pointer (some ⟨B, 0, none⟩) ∧ w.cell? ⟨B, 1, none⟩ = some (.int .i64 0)
theorem sl_NoM.below {w w' : World} {v : Value} (h : sl_NoM w v) (hb : Below w.heap.size w w') : sl_NoM w' v := by
  rcases h with h | ⟨B, h1, h2⟩
  · exact .inl h
  · exact .inr ⟨B, h1, (hb.cell (World.block_lt_of_cell? _ _ h2)).trans h2⟩

section
variable {w : World} {v : Value}

theorem isMade_noM (h : sl_NoM w v) : Calls Try.prog 50 #[v] w fun e w' => e = .returned (.bool false) ∧ w' = w := by
  rcases h with h | ⟨B, h1, h2⟩
  · subst h
    go_enter Try.func50, Try.ntmps50
    go_wp2
    go_ret
    exact ⟨rfl, rfl⟩
  · subst h1
    go_enter Try.func50, Try.ntmps50
    go_wp2
    go_ret
    exact ⟨rfl, rfl⟩
theorem has_noM (h : sl_NoM w v) (a : Int) : Calls Try.prog 32 #[v, .int .i64 a] w fun e w' => e = .returned (.bool false) ∧ w' = w := by
  have HM : Hid _ := isMade_noM h
  clear h
  go_enter Try.func32, Try.ntmps32
  go_wp2_with fail
  refine Calls.mono HM.out ?_
  rintro e w1 ⟨rfl, hw⟩
  subst hw
  go_wp2
  go_ret
  exact ⟨rfl, rfl⟩
theorem Owner_noM (h : sl_NoM w v) (a : Int) : Calls Try.prog 19 #[v, .int .i64 a] w fun e w' => e = .returned (.tuple #[.int .i64 0, .int .i64 0, .int .i64 1]) ∧ w' = w := by
  have HM : Hid _ := has_noM h a
  clear h
  go_enter Try.func19, Try.ntmps19
  go_wp2_with fail
  refine Calls.mono HM.out ?_
  rintro e w1 ⟨rfl, hw⟩
  subst hw
  go_wp2
  go_ret3
  exact ⟨rfl, rfl⟩
theorem Give_noM (h : sl_NoM w v) (a b : Int) : Calls Try.prog 44 #[v, .int .i64 a, .int .i64 b] w fun e w' => e = .returned (.int .i64 1) ∧ w' = w := by
  have HM : Hid _ := has_noM h a
  clear h
  go_enter Try.func44, Try.ntmps44
  go_wp2_with fail
  refine Calls.mono HM.out ?_
  rintro e w1 ⟨rfl, hw⟩
  subst hw
  go_wp2
  go_ret
  exact ⟨rfl, rfl⟩
end
end Go.Proofs.Ytepbmfjimppgcaa
