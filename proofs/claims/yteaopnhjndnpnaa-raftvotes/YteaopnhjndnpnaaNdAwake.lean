/-
  The law's own 'awake': a node alone leads behind ten ticks, and commits what is proposed.
-/
import Derived.Test.YteaopnhjndnpnaaNdProp
import Derived.Test.YteaopnhjndnpnaaNdSaved2
namespace Go.Proofs.Yteaopnhjndnpnaa
open Go.RowKit

/-- A node of the call's own. -/
def Aw (w X : World) (B : Nat) (st : N.St) : Prop := ∃ own, Nd X B st own ∧ Below w.heap.size w X ∧ w.heap.size ≤ B ∧ ∀ k, own k → w.heap.size ≤ k
theorem Aw.below {w X Y : World} {B : Nat} {st : N.St} (h : Aw w X B st) (hb : Below X.heap.size X Y) : Aw w Y B st := by
  obtain ⟨own, h1, h2, h3, h4⟩ := h
  exact ⟨own, h1.below hb, h2.trans (hb.mono h2.size), h3, h4⟩
theorem Aw.old {w X : World} {B : Nat} {st : N.St} (h : Aw w X B st) : Below w.heap.size w X := by obtain ⟨_, _, h, _⟩ := h; exact h
theorem Aw.use {w X : World} {B : Nat} {st : N.St} (h : Aw w X B st) : ∃ own, Nd X B st own ∧ ∀ Y st' own', AftN own X Y B st' own' → Aw w Y B st' := by
  obtain ⟨own, h1, h2, h3, h4⟩ := h
  refine ⟨own, h1, fun Y st' own' ha => ⟨own', ha.1, h2.trans (ha.2.1.below h3 h4 h2.size), h3, fun k hk => ?_⟩⟩
  have := h2.size
  rcases ha.2.2 k hk with q | q
  · exact h4 k q
  · omega

def frSv : N.Sv := ⟨0, -1, 0, 0, ⟨#[]⟩, []⟩

theorem fresh_c (w : World) : Calls Try.prog 25 #[] w fun e w' => e = .returned (svV frSv (.slice none 0 0)) ∧ Below w.heap.size w w' := by
  go_enter Try.func25, Try.ntmps25
  go_wp2
  have hc : ∀ j, (w.alloc (.cells #[.int .i64 0, .int .i64 (-1), .int .i64 0, .int .i64 0, .string ⟨#[]⟩, .slice none 0 0] 44)).cell? ⟨w.heap.size, j, none⟩ = (#[.int .i64 0, .int .i64 (-1), .int .i64 0, .int .i64 0, .string ⟨#[]⟩, .slice none 0 0] : Array Value)[j]? := fun j => World.cell?_alloc_mark w _ _ _ j
  have z0 := hc 0
  have z1 := hc 1
  have z2 := hc 2
  have z3 := hc 3
  have z4 := hc 4
  have z5 := hc 5
  refine bodyPost_ret (v := svV frSv (.slice none 0 0)) ?qres rfl ?qpost
  case qres => simp [results, Try.results25, go_sem, z0, z1, z2, z3, z4, z5, svV, frSv]
  case qpost => exact ⟨rfl, below_alloc _ _⟩

theorem frOk : SvOk frSv := ⟨by decide, by decide, by decide, by decide, fun k x hx => by simp [frSv] at hx, by decide⟩

theorem New_fresh (w : World) (id nodes : Nat) (draw : Int) (hi : id < nodes) (hn : nodes ≤ 7) (hd : 0 ≤ draw) :
    Calls Try.prog 24 #[.int .i64 0, .int .i64 (id : Int), .int .i64 (nodes : Int), svV frSv (.slice none 0 0), .int .i64 draw] w fun e w' => ∃ B, e = .returned (.tuple #[.pointer (some ⟨B, 0, none⟩), .int .i64 0]) ∧ Aw w w' B (N.new 0 id nodes frSv draw) := by
  refine (New_c w 0 id nodes frSv (.slice none 0 0) draw ⟨by decide, by decide⟩ hi hn frOk ⟨by decide, by show (-1 : Int) < _; omega⟩ hd ?_).mono ?_
  · exact ⟨none, 0, rfl, Nat.le_refl _, by unfold maxLen; omega, fun k x hx => by simp [frSv] at hx⟩
  · rintro e w' ⟨B, rfl, h1, h2, h3⟩
    exact ⟨B, rfl, _, h2, h3, by omega, fun k hk => by omega⟩

def aw0 : N.St := N.new 0 0 1 frSv 0
def aw1 : N.St := N.tickS { aw0 with left := 1 } 3
def aw2 : N.St := propS aw1 ⟨#[120]⟩

theorem aw1_is : aw1.role = 3 ∧ aw1.term = 1 ∧ aw1.nodes = 1 ∧ aw1.id = 0 ∧ G.appE aw1.log (aw1.term, ⟨#[120]⟩) = 0 ∧ G.last aw1.log = 1 ∧ aw1.recs.length = 2 := by decide
theorem aw2_is : aw2.role = 3 ∧ aw2.commit = 2 ∧ aw2.log.ents.length = 2 ∧ aw2.recs.length = 3 := by decide

theorem aw0_may : MayStand aw0 := ⟨by decide, by decide, by decide⟩
theorem aw0_role : ¬ aw0.role = 3 := by decide

theorem aw_tick {w X : World} {B : Nat} (k : Nat) (hk : k < 10) (h : Aw w X B { aw0 with left := 10 - (k : Int) }) :
    Calls Try.prog 18 #[.pointer (some ⟨B, 0, none⟩), .int .i64 3] X fun e w' => e = .returned (.slice none 0 0) ∧ Aw w w' B (if k = 9 then aw1 else { aw0 with left := 10 - ((k + 1 : Nat) : Int) }) := by
  obtain ⟨own, h1, h2⟩ := h.use
  refine (Tick_one h1 ⟨rfl, rfl⟩ 3 (by dsimp only; omega) (fun _ _ => ⟨aw0_may.t, aw0_may.app, aw0_may.recs⟩)).mono ?_
  rintro e w' ⟨rfl, own', ha⟩
  refine ⟨rfl, ?_⟩
  have := h2 _ _ _ ha
  by_cases c : k = 9
  · subst c
    rw [if_pos rfl]
    exact this
  · rw [if_neg c]
    have e : N.tickS { aw0 with left := 10 - (k : Int) } 3 = { aw0 with left := 10 - ((k + 1 : Nat) : Int) } := by
      unfold N.tickS
      rw [if_neg aw0_role, if_pos (by dsimp only; omega)]
      have : (10 : Int) - (k : Int) - 1 = 10 - ((k + 1 : Nat) : Int) := by omega
      dsimp only
      rw [this]
    rw [e] at this
    exact this

set_option maxHeartbeats 1600000 in
set_option maxRecDepth 20000 in
theorem awake_c (w : World) : Calls Try.prog 9 #[] w fun e w' => e = .returned (.bool true) ∧ Below w.heap.size w w' := by
  have HN : Hid (∀ X, Below w.heap.size w X → Calls Try.prog 24 #[.int .i64 0, .int .i64 0, .int .i64 1, svV frSv (.slice none 0 0), .int .i64 0] X fun e w' => ∃ B, e = .returned (.tuple #[.pointer (some ⟨B, 0, none⟩), .int .i64 0]) ∧ Aw w w' B aw0) := fun X hX => by
    refine (New_fresh X 0 1 0 (by decide) (by decide) (by decide)).mono ?_
    rintro e w' ⟨B, rfl, own, h1, h2, h3, h4⟩
    have := hX.size
    exact ⟨B, rfl, own, h1, hX.trans (h2.mono hX.size), by omega, fun k hk => by have := h4 k hk; omega⟩
  have HL : Hid (∀ X B, Aw w X B aw0 → Calls Try.prog 22 #[.pointer (some ⟨B, 0, none⟩)] X (fun e w' => e = .returned (.int .i64 10) ∧ w' = X) ∧ Calls Try.prog 11 #[.pointer (some ⟨B, 0, none⟩)] X (fun e w' => e = .returned (.int .i64 1) ∧ w' = X)) := fun X B h => by
    obtain ⟨own, h1, _⟩ := h
    exact ⟨Left_c h1, Role_c h1⟩
  have HT : Hid (∀ (k : Nat) X B, k < 10 → Aw w X B { aw0 with left := 10 - (k : Int) } → Calls Try.prog 18 #[.pointer (some ⟨B, 0, none⟩), .int .i64 3] X fun e w' => e = .returned (.slice none 0 0) ∧ Aw w w' B (if k = 9 then aw1 else { aw0 with left := 10 - ((k + 1 : Nat) : Int) })) := fun k X B hk h => aw_tick k hk h
  have HP : Hid (∀ X B, Aw w X B aw1 → Calls Try.prog 16 #[.pointer (some ⟨B, 0, none⟩), .string ⟨#[120]⟩] X fun e w' => e = .returned (.tuple #[.int .i64 2, .int .i64 1, .slice none 0 0, .int .i64 0]) ∧ Aw w w' B aw2) := fun X B h => by
    obtain ⟨own, h1, h2⟩ := h.use
    obtain ⟨a1, a2, a3, a4, a5, a6, a7⟩ := aw1_is
    refine (Propose_one h1 ⟨a3, a4⟩ ⟨#[120]⟩ a1 (by decide) a5 (by omega)).mono ?_
    rintro e w' ⟨rfl, own', ha⟩
    exact ⟨by rw [a6, a2]; rfl, h2 _ _ _ ha⟩
  have HS : Hid (∀ X B, Aw w X B aw2 → Calls Try.prog 15 #[.pointer (some ⟨B, 0, none⟩)] X fun e w' => ∃ t v b bt d p c, e = .returned (.agg #[.int .i64 t, .int .i64 v, .int .i64 b, .int .i64 bt, .string d, .slice p 2 c]) ∧ Aw w w' B aw2) := fun X B h => by
    obtain ⟨own, h1, h2⟩ := h.use
    refine (Saved_c h1).mono ?_
    rintro e w' ⟨p, n, c, rfl, hb, he⟩
    obtain ⟨p', c', hv, _, _⟩ := he.1.form
    injection hv with q1 q2 q3
    refine ⟨_, _, _, _, _, p, c, by rw [q2, aw2_is.2.2.1]; rfl, h.below hb⟩
  have HE : Hid (∀ X B, Aw w X B aw2 → Calls Try.prog 11 #[.pointer (some ⟨B, 0, none⟩)] X (fun e w' => e = .returned (.int .i64 3) ∧ w' = X) ∧ Calls Try.prog 12 #[.pointer (some ⟨B, 0, none⟩)] X (fun e w' => e = .returned (.int .i64 2) ∧ w' = X) ∧ Calls Try.prog 19 #[.pointer (some ⟨B, 0, none⟩)] X (fun e w' => ∃ p c, e = .returned (.slice p 3 c) ∧ Below w.heap.size w w')) := fun X B h => by
    obtain ⟨own, h1, h2⟩ := h.use
    refine ⟨?_, ?_, ?_⟩
    · have := Role_c h1; rw [aw2_is.1] at this; exact this
    · have := Commit_c h1; rw [aw2_is.2.1] at this; exact this
    · refine (Records_c h1).mono ?_
      rintro e w' ⟨p, c, own', rfl, ha, _⟩
      exact ⟨p, c, by rw [aw2_is.2.2.2], (h2 _ _ _ ha).old⟩
  go_enter Try.func9, Try.ntmps9
  go_wp2_with fail
  refine Calls.mono (fresh_c _) ?_
  rintro e w1 ⟨rfl, hb1⟩
  have HB1 : Hid _ := hb1
  clear hb1
  go_wp2_with fail
  refine Calls.mono (HN.out _ HB1.out) ?_
  rintro e w2 ⟨B, rfl, h2⟩
  have HA2 : Hid _ := h2
  have HL2 : Hid _ := (HL.out _ _ h2).1
  have HL3 : Hid _ := (HL.out _ _ h2).2
  clear h2
  go_wp2_with fail
  refine Calls.mono HL2.out ?_
  rintro e w3 ⟨rfl, hw⟩
  subst hw
  go_wp2_with fail
  refine Calls.mono HL3.out ?_
  rintro e w4 ⟨rfl, hw⟩
  subst hw
  go_wp2
  go_loopw [3] (fun x wr => ∃ k : Nat, x = .int .i64 (k : Int) ∧ k ≤ 10 ∧ Hid (Aw w wr B (if k = 10 then aw1 else { aw0 with left := 10 - (k : Int) }))) (fun x _ => 10 - (intOf x).toNat)
  case atStart => exact ⟨0, rfl, by omega, HA2.out⟩
  case round =>
    clear HA2 HL2 HL3
    obtain ⟨k, rfl, hk, HAk⟩ := hrel
    by_cases hlt : k < 10
    · have hAk := HAk.out
      rw [if_neg (by omega)] at hAk
      have HTk : Hid _ := HT.out k wr B hlt hAk
      clear hAk
      go_wp2_with fail
      refine Calls.mono HTk.out ?_
      rintro e w5 ⟨rfl, h5⟩
      have HA5 : Hid (Aw w w5 B (if k + 1 = 10 then aw1 else { aw0 with left := 10 - ((k + 1 : Nat) : Int) })) := by
        have e : (k + 1 = 10) = (k = 9) := by simp
        simp only [e]
        exact h5
      clear h5
      go_wp2
      go_roundw
      case rel => exact ⟨k + 1, by go_num, by omega, HA5⟩
      case measure => simp [intOf]; omega
    · obtain rfl : k = 10 := by omega
      have hAk : Aw w wr B aw1 := HAk.out
      have HPk : Hid _ := HP.out _ _ hAk
      clear hAk HAk
      go_wp2_with fail
      refine Calls.mono HPk.out ?_
      rintro e w5 ⟨rfl, h5⟩
      have HS5 : Hid _ := HS.out _ _ h5
      clear h5
      go_wp2_with fail
      refine Calls.mono HS5.out ?_
      rintro e w6 ⟨t, v, b, bt, d, p, c, rfl, h6⟩
      have HA6 : Hid _ := h6
      clear h6
      obtain ⟨Z, hZ⟩ : ∃ Z, Z = w6.alloc (.cells #[.int .i64 t, .int .i64 v, .int .i64 b, .int .i64 bt, .string d, .slice p 2 c] 44) := ⟨_, rfl⟩
      have hAZ : Aw w Z B aw2 := by rw [hZ]; exact Aw.below HA6.out (below_alloc _ _)
      obtain ⟨r1, r2, r3⟩ := HE.out _ _ hAZ
      have HR1 : Hid _ := r1
      have HR2 : Hid _ := r2
      have HR3 : Hid _ := r3
      have z5 : Z.cell? ⟨w6.heap.size, 5, none⟩ = some (.slice p 2 c) := by rw [hZ]; exact World.cell?_alloc_mark w6 _ _ _ 5
      clear hAZ r1 r2 r3
      go_wp2_with fail
      rw [← hZ]
      clear hZ
      refine Calls.mono HR1.out ?_
      rintro e w7 ⟨rfl, hw⟩
      subst hw
      go_wp2_with fail
      refine Calls.mono HR2.out ?_
      rintro e w8 ⟨rfl, hw⟩
      subst hw
      go_wp2_with fail
      refine Calls.mono HR3.out ?_
      rintro e w9 ⟨p9, c9, rfl, hb⟩
      have HB9 : Hid _ := hb
      clear hb
      go_wp2
      go_ret
      exact ⟨rfl, HB9.out⟩

end Go.Proofs.Yteaopnhjndnpnaa
