/-
  A table that was made in this call; the law package's own 'awake'.
-/
import Derived.Test.YtnfjfhjhofaodaaSePut
namespace Go.Proofs.Ytnfjfhjhofaodaa
open Go.RowKit

/-- Block B holds a table made since w, whose map is block mb. -/
structure Ts (w X : World) (B mb : Nat) (s : Se.St) : Prop where
  old : Below w.heap.size w X
  tb : Tb X B mb s
  new : w.heap.size ≤ mb

section
variable {w X Y : World} {B mb : Nat} {s : Se.St}
theorem Ts.below (h : Ts w X B mb s) (hb : Below X.heap.size X Y) : Ts w Y B mb s := ⟨h.old.trans (hb.mono h.old.size), h.tb.below hb, h.new⟩
theorem NewT_fresh (w : World) {w0 : World} (h0 : Below w0.heap.size w0 w) : Calls Try.prog 9 #[] w fun e w' => e = .returned (.pointer (some ⟨w.heap.size + 1, 0, none⟩)) ∧ Ts w0 w' (w.heap.size + 1) w.heap.size [] ∧ Below w.heap.size w w' := by
  refine (NewT_c w).mono ?_
  rintro e w' ⟨rfl, h1, h2⟩
  exact ⟨rfl, ⟨h0.trans (h2.mono h0.size), h1, h0.size⟩, h2⟩
theorem Ts.grown (h : Ts w X B mb s) {s' : Se.St} (hY : Tb Y B mb s') (hg : X.grownBy Y (some mb)) : Ts w Y B mb s' :=
  ⟨⟨hg.os.trans h.old.os, hg.tape.trans h.old.tape, hg.output.trans h.old.output, Nat.le_trans h.old.size hg.size, fun k hk => (hg.block k (Nat.lt_of_lt_of_le hk h.old.size) (by intro e; injection e with e; have := h.new; omega)).trans (h.old.block k hk)⟩, hY, h.new⟩
theorem Ts.put (h : Ts w X B mb s) (a b : Int) (r : Mo.Re) {pv : Value} (hp : PoR X pv r.posts) (hsz : ∀ p ∈ r.posts, p.user.size ≤ 140737488351232 ∧ p.text.size ≤ 140737488351232) :
    Calls Try.prog 11 #[.pointer (some ⟨B, 0, none⟩), .agg #[.int .i64 a, .int .i64 b], .agg #[.int .i64 r.err, .int .i64 r.at_, pv]] X fun e Y => e = .returned (.int .i64 (Se.putE s a b r)) ∧ Ts w Y B mb (Se.put s a b r) ∧ X.grownBy Y (some mb) ∧ ∀ lo, lo ≤ X.heap.size → Far lo X mb → Far lo Y mb := by
  refine (Put_c h.tb a b r hp hsz).mono ?_
  rintro e Y ⟨rfl, h1, h2, h3⟩
  exact ⟨rfl, h.grown h1 h2, h2, h3⟩
/-- .. of a reply without posts. -/
theorem Ts.put0 (h : Ts w X B mb s) (a b er at_ : Int) :
    Calls Try.prog 11 #[.pointer (some ⟨B, 0, none⟩), .agg #[.int .i64 a, .int .i64 b], .agg #[.int .i64 er, .int .i64 at_, .slice none 0 0]] X fun e Y => e = .returned (.int .i64 (Se.putE s a b ⟨er, at_, []⟩)) ∧ Ts w Y B mb (Se.put s a b ⟨er, at_, []⟩) ∧ X.grownBy Y (some mb) := by
  refine (h.put a b ⟨er, at_, []⟩ (PoR.nil _) (fun p hp => by cases hp)).mono ?_
  rintro e Y ⟨rfl, h1, h2, _⟩
  exact ⟨rfl, h1, h2⟩
/-- What Find answers. -/
theorem Ts.find (h : Ts w X B mb s) (a b : Int) {re : Mo.Re} {c : Int} (hf : Se.find s a b = (re, c)) :
    Calls Try.prog 10 #[.pointer (some ⟨B, 0, none⟩), .agg #[.int .i64 a, .int .i64 b]] X fun e Y => ∃ p cc, e = .returned (.tuple #[.agg #[.int .i64 re.err, .int .i64 re.at_, .slice p re.posts.length cc], .int .i64 c]) ∧ RowC Y 2 (.slice p re.posts.length cc) re.posts.length (poCells re.posts) ∧ (∀ k, cBlk (.slice p re.posts.length cc) = some k → X.heap.size ≤ k) ∧ Below X.heap.size X Y ∧ Ts w Y B mb s := by
  refine (Find_c h.tb a b).mono ?_
  rintro e Y ⟨pv, rfl, h1, h2, h3⟩
  rw [hf] at h1 ⊢
  obtain ⟨p, cc, hv, _⟩ := h1.form
  subst hv
  exact ⟨p, cc, rfl, h1, h2, h3, h.below h3⟩
theorem Ts.lenC (h : Ts w X B mb s) : Calls Try.prog 13 #[.pointer (some ⟨B, 0, none⟩)] X fun e Y => e = .returned (.int .i64 (s.length : Int)) ∧ Y = X := LenT_c h.tb
theorem Ts.ne (h : Ts w X B mb s) {k o : Nat} {x : Value} (hx : X.cell? ⟨k, o, none⟩ = some x) : k ≠ mb := h.tb.ne hx
theorem Ts.cell (h : Ts w X B mb s) (hg : X.grownBy Y (some mb)) {k o : Nat} {x : Value} (hx : X.cell? ⟨k, o, none⟩ = some x) : Y.cell? ⟨k, o, none⟩ = some x := h.tb.cell hg hx
end

def aw1 : Se.St := [(5, ⟨1, ⟨0, 1, []⟩⟩)]
def aw3 : Se.St := [(5, ⟨3, ⟨0, 3, []⟩⟩)]

set_option maxHeartbeats 1000000 in
theorem awake_c (w : World) : Calls Try.prog 12 #[] w fun e w' => e = .returned (.bool true) ∧ Below w.heap.size w w' := by
  have HNew : Hid _ := NewT_fresh w (Below.refl _ w)
  obtain ⟨B, hB⟩ : ∃ B, B = w.heap.size + 1 := ⟨_, rfl⟩
  obtain ⟨mb, hmb⟩ : ∃ mb, mb = w.heap.size := ⟨_, rfl⟩
  rw [← hB, ← hmb] at HNew
  have HP1 : Hid (∀ X, Ts w X B mb [] → Calls Try.prog 11 #[.pointer (some ⟨B, 0, none⟩), .agg #[.int .i64 5, .int .i64 1], .agg #[.int .i64 0, .int .i64 1, .slice none 0 0]] X fun e Y => e = .returned (.int .i64 0) ∧ Ts w Y B mb aw1) := fun X h => by
    refine (h.put0 5 1 0 1).mono ?_
    rintro e Y ⟨rfl, h1, _⟩
    exact ⟨rfl, h1⟩
  have HP2 : Hid (∀ X, Ts w X B mb aw1 → Calls Try.prog 11 #[.pointer (some ⟨B, 0, none⟩), .agg #[.int .i64 5, .int .i64 3], .agg #[.int .i64 0, .int .i64 3, .slice none 0 0]] X fun e Y => e = .returned (.int .i64 0) ∧ Ts w Y B mb aw3) := fun X h => by
    refine (h.put0 5 3 0 3).mono ?_
    rintro e Y ⟨rfl, h1, _⟩
    exact ⟨rfl, h1⟩
  have HF1 : Hid (∀ X, Ts w X B mb aw3 → Calls Try.prog 10 #[.pointer (some ⟨B, 0, none⟩), .agg #[.int .i64 5, .int .i64 1]] X fun e Y => ∃ p cc, e = .returned (.tuple #[.agg #[.int .i64 0, .int .i64 0, .slice p 0 cc], .int .i64 110]) ∧ Below X.heap.size X Y ∧ Ts w Y B mb aw3) := fun X h => by
    refine (h.find 5 1 (re := Se.zero) (c := 110) rfl).mono ?_
    rintro e Y ⟨p, cc, rfl, _, _, h1, h2⟩
    exact ⟨p, cc, rfl, h1, h2⟩
  have HF3 : Hid (∀ X, Ts w X B mb aw3 → Calls Try.prog 10 #[.pointer (some ⟨B, 0, none⟩), .agg #[.int .i64 5, .int .i64 3]] X fun e Y => ∃ p cc, e = .returned (.tuple #[.agg #[.int .i64 0, .int .i64 3, .slice p 0 cc], .int .i64 0]) ∧ Below X.heap.size X Y ∧ Ts w Y B mb aw3) := fun X h => by
    refine (h.find 5 3 (re := ⟨0, 3, []⟩) (c := 0) rfl).mono ?_
    rintro e Y ⟨p, cc, rfl, _, _, h1, h2⟩
    exact ⟨p, cc, rfl, h1, h2⟩
  have HF4 : Hid (∀ X, Ts w X B mb aw3 → Calls Try.prog 10 #[.pointer (some ⟨B, 0, none⟩), .agg #[.int .i64 5, .int .i64 4]] X fun e Y => ∃ p cc, e = .returned (.tuple #[.agg #[.int .i64 0, .int .i64 0, .slice p 0 cc], .int .i64 3]) ∧ Below X.heap.size X Y ∧ Ts w Y B mb aw3) := fun X h => by
    refine (h.find 5 4 (re := Se.zero) (c := 3) rfl).mono ?_
    rintro e Y ⟨p, cc, rfl, _, _, h1, h2⟩
    exact ⟨p, cc, rfl, h1, h2⟩
  have HL : Hid (∀ X, Ts w X B mb aw3 → Calls Try.prog 13 #[.pointer (some ⟨B, 0, none⟩)] X fun e Y => e = .returned (.int .i64 1) ∧ Y = X) := fun X h => h.lenC
  clear hB hmb
  go_enter Try.func12, Try.ntmps12
  go_wp2_with fail
  refine Calls.mono HNew.out ?_
  rintro e w1 ⟨rfl, hl, _⟩
  have H1 : Hid (Ts w w1 B mb []) := hl
  clear hl
  go_wp2_with fail
  refine (HP1.out _ H1.out).mono ?_
  rintro e w2 ⟨rfl, hl⟩
  have H2 : Hid (Ts w w2 B mb aw1) := hl
  clear hl
  go_wp2_with fail
  refine (HP2.out _ H2.out).mono ?_
  rintro e w3 ⟨rfl, hl⟩
  have H3 : Hid (Ts w w3 B mb aw3) := hl
  clear hl
  go_wp2_with fail
  refine (HF1.out _ H3.out).mono ?_
  rintro e w4 ⟨p4, c4, rfl, hb, hl⟩
  have H4 : Hid (∀ o, Ts w (w4.alloc o) B mb aw3) := fun o => hl.below (below_alloc _ _)
  clear hl hb
  go_wp2_with fail
  refine (HF3.out _ (H4.out _)).mono ?_
  rintro e w5 ⟨p5, c5, rfl, hb, hl⟩
  clear hb
  obtain ⟨w6, hw6⟩ : ∃ w6, w6 = w5.alloc (.cells #[.int .i64 0, .int .i64 3, .slice p5 0 c5] 31) := ⟨_, rfl⟩
  obtain ⟨b6, hb6⟩ : ∃ b6, b6 = w5.heap.size := ⟨_, rfl⟩
  have H6 : Hid (Ts w w6 B mb aw3) := by rw [hw6]; exact hl.below (below_alloc _ _)
  have c6 : w6.cell? ⟨b6, 1, none⟩ = some (.int .i64 3) := by rw [hw6, hb6]; exact World.cell?_alloc_mark w5 _ _ _ 1
  have HC6 : Hid (b6 < w6.heap.size ∧ w6.cell? ⟨b6, 1, none⟩ = some (.int .i64 3)) := ⟨by rw [hw6, hb6]; simp, c6⟩
  clear hl c6
  go_wp2_with fail
  rw [← hw6, ← hb6]
  clear hw6 hb6
  refine (HF4.out _ H6.out).mono ?_
  rintro e w7 ⟨p7, c7, rfl, hb, hl⟩
  have c7 : (w7.alloc (.cells #[.int .i64 0, .int .i64 0, .slice p7 0 c7] 31)).cell? ⟨b6, 1, none⟩ = some (.int .i64 3) := by
    have h7 : b6 < w7.heap.size := Nat.lt_of_lt_of_le HC6.out.1 hb.size
    rw [World.cell?_alloc_lt _ _ _ h7, hb.cell (p := ⟨b6, 1, none⟩) HC6.out.1]
    exact HC6.out.2
  have H7 : Hid (∀ o, Ts w (w7.alloc o) B mb aw3) := fun o => hl.below (below_alloc _ _)
  clear hl hb
  go_wp2_with fail
  refine (HL.out _ (H7.out _)).mono ?_
  rintro e w8 ⟨rfl, hw⟩
  subst hw
  go_wp2
  go_ret
  exact ⟨rfl, (H7.out _).old⟩

end Go.Proofs.Ytnfjfhjhofaodaa
