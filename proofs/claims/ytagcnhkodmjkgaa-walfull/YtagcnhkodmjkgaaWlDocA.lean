/-
  The law's told: does a log tell what all groups' records make? The document's All, of no records. One group's place among what all groups' records make is set anew.
-/
import Derived.Test.YtagcnhkodmjkgaaWlSame
import Derived.Deep.RegionHeld
import Derived.Test.YtagcnhkodmjkgaaWlDocF
namespace Go.Proofs.Ytagcnhkodmjkgaa
open Go.RowKit

/-- What nine groups' records make lies in block g. -/
structure AllV (w : World) (v : Value) (g : Nat) (S : Nat → W.Sv) (E : Nat → Value) : Prop where
  form : ∃ c, v = .slice (some ⟨g, 0, none⟩) 9 c ∧ 9 ≤ c ∧ c ≤ maxLen
  lt : g < w.heap.size
  cell : ∀ i, i < 9 → w.cell? ⟨g, i * 6, none⟩ = some (.int .i64 (S i).term) ∧ w.cell? ⟨g, i * 6 + 1, none⟩ = some (.int .i64 (S i).vote) ∧ w.cell? ⟨g, i * 6 + 2, none⟩ = some (.int .i64 (S i).base) ∧ w.cell? ⟨g, i * 6 + 3, none⟩ = some (.int .i64 (S i).bterm) ∧ w.cell? ⟨g, i * 6 + 4, none⟩ = some (.string (S i).data) ∧ w.cell? ⟨g, i * 6 + 5, none⟩ = some (E i)
  ent : ∀ i, i < 9 → EntR w (E i) (S i).ents
  sep : ∀ i, i < 9 → readBlk (E i) ≠ some g
  free : ∀ j, w.frozen? ⟨g, j, none⟩ = false

theorem AllV.below {w w' : World} {v : Value} {g : Nat} {S : Nat → W.Sv} {E : Nat → Value} (h : AllV w v g S E) (hb : Below w.heap.size w w') : AllV w' v g S E := by
  have hc : ∀ j, w'.cell? ⟨g, j, none⟩ = w.cell? ⟨g, j, none⟩ := fun j => hb.cell (p := ⟨g, j, none⟩) h.lt
  refine ⟨h.form, Nat.lt_of_lt_of_le h.lt hb.size, fun i hi => ?_, fun i hi => EntR.below (h.ent i hi) hb, h.sep, fun j => (hb.frozen (p := ⟨g, j, none⟩) h.lt).trans (h.free j)⟩
  rw [hc, hc, hc, hc, hc, hc]
  exact h.cell i hi

/-- What told answers. -/
def ToldOut (w : World) (s : St) (S : Nat → W.Sv) (e : Ending) (w' : World) : Prop := ∃ b, e = .returned (.bool b) ∧ ((∀ i, i < 9 → s.gs i = S i) → b = true) ∧ Below w.heap.size w w'

set_option maxHeartbeats 1600000 in
set_option maxRecDepth 20000 in
theorem told_c {w : World} {p : Pl} {s : St} {own : Nat → Prop} (h : Lg w p s own) {v : Value} {g : Nat} {S : Nat → W.Sv} {E : Nat → Value} (ha : AllV w v g S E) :
    Calls Try.prog 21 #[.pointer (some ⟨p.L, 0, none⟩), v] w (ToldOut w s S) := by
  have HO0 : Hid (∀ u i, i < 9 → s.gs i ≠ S i → Below w.heap.size w u → ToldOut w s S (.returned (.bool false)) u) := fun u i hi hne hu => ⟨false, rfl, fun hx => absurd (hx i hi) hne, hu⟩
  have HO1 : Hid (∀ u, Below w.heap.size w u → ToldOut w s S (.returned (.bool true)) u) := fun u hu => ⟨true, rfl, fun _ => rfl, hu⟩
  generalize ToldOut w s S = Q at HO0 HO1 ⊢
  have HL : Hid (∀ u, Below w.heap.size w u → Lg u p s own) := fun u hu => h.below hu
  have HV : Hid (∀ u, Below w.heap.size w u → AllV u v g S E) := fun u hu => ha.below hu
  obtain ⟨c, hv, hc1, hc2⟩ := ha.form
  subst hv
  obtain ⟨L, hL⟩ : ∃ L, L = p.L := ⟨_, rfl⟩
  have HS : Hid (∀ u i, i < 9 → Below w.heap.size w u → Calls Try.prog 23 #[.pointer (some ⟨L, 0, none⟩), .int .i64 ((i : Nat) : Int)] u fun e w' => ∃ pa ca, e = .returned (.tuple #[.agg #[.int .i64 (s.gs i).term, .int .i64 (s.gs i).vote, .int .i64 (s.gs i).base, .int .i64 (s.gs i).bterm, .string (s.gs i).data, .slice pa (s.gs i).ents.length ca], .int .i64 0]) ∧ EntR w' (.slice pa (s.gs i).ents.length ca) (s.gs i).ents ∧ Below u.heap.size u w') := by
    intro u i hi hu
    rw [hL]
    refine (Saved_c (HL.out u hu) i hi).mono ?_
    rintro e w' ⟨v', rfl, h4, h5, _⟩
    obtain ⟨pa, ca, hv, _⟩ := RowV.form h4
    subst hv
    exact ⟨pa, ca, rfl, h4.read, h5⟩
  have HN : Hid (∀ u (j : Int), W.isGroup j = false → Below w.heap.size w u → Calls Try.prog 23 #[.pointer (some ⟨L, 0, none⟩), .int .i64 j] u fun e w' => e = .returned (.tuple #[.agg #[.int .i64 0, .int .i64 0, .int .i64 0, .int .i64 0, .string ⟨#[]⟩, .slice none 0 0], .int .i64 1]) ∧ Below u.heap.size u w') := fun u j hj hu => by rw [hL]; exact Saved_no (HL.out u hu) j hj
  rw [← hL]
  have hcb : c < 9223372036854775808 := by unfold maxLen at hc2; omega
  clear h ha hc2 hL HL
  go_enter Try.func21, Try.ntmps21
  go_wp2
  go_loopw [5] (fun x wr => ∃ (i : Nat), x = .int .i64 (i : Int) ∧ i ≤ 9 ∧ Hid (Below w.heap.size w wr)) (fun x _ => 9 - (intOf x).toNat)
  case atStart => exact ⟨0, rfl, by omega, Below.refl _ _⟩
  case round =>
    obtain ⟨i, rfl, hi, HB⟩ := hrel
    by_cases hlt : i < 9
    · have hi0 : (0 : Int) ≤ (i : Int) := by omega
      have hi9 : (i : Int) < 9 := by omega
      have HSi : Hid _ := HS.out wr i hlt HB.out
      obtain ⟨sv, hsv⟩ : ∃ sv, sv = s.gs i := ⟨_, rfl⟩
      rw [← hsv] at HSi
      have HSV : Hid (sv = s.gs i) := hsv
      clear hsv
      obtain ⟨t, vt, bs, bt, dd, en⟩ := sv
      dsimp only at HSi
      obtain ⟨ne, hne⟩ : ∃ ne, ne = en.length := ⟨_, rfl⟩
      rw [← hne] at HSi
      have HNE : Hid (ne = en.length) := hne
      clear hne
      go_wp2_with fail
      refine Calls.mono HSi.out ?_
      rintro e w3 ⟨pa, ca, rfl, he3, hb3⟩
      have HE3 : Hid (EntR w3 (.slice pa ne ca) en) := he3
      have HB3 : Hid (Below w.heap.size w w3) := HB.out.trans (hb3.mono HB.out.size)
      have hav := HV.out w3 HB3.out
      have cl := hav.cell i hlt
      have HEi : Hid (EntR w3 (E i) (S i).ents) := hav.ent i hlt
      have g3 := hav.lt
      obtain ⟨sw, hsw⟩ : ∃ sw, sw = S i := ⟨_, rfl⟩
      have HSW : Hid (sw = S i) := hsw
      rw [← hsw] at cl HEi
      obtain ⟨t2, vt2, bs2, bt2, dd2, en2⟩ := sw
      dsimp only at cl HEi
      obtain ⟨c0, c1, c2, c3, c4, c5⟩ := cl
      obtain ⟨pb, cb, hEi, _⟩ := HEi.out
      obtain ⟨nf, hnf⟩ : ∃ nf, nf = en2.length := ⟨_, rfl⟩
      rw [← hnf] at hEi
      rw [hEi] at c5 HEi
      clear hsw hnf hav he3 hb3 hEi
      go_wp2_with fail
      obtain ⟨u, hu⟩ : ∃ u, u = w3.alloc (.cells #[.int .i64 t, .int .i64 vt, .int .i64 bs, .int .i64 bt, .string dd, .slice pa ne ca] 45) := ⟨_, rfl⟩
      obtain ⟨bx, hbx⟩ : ∃ bx, bx = w3.heap.size := ⟨_, rfl⟩
      rw [← hu, ← hbx]
      obtain ⟨bb, hbb⟩ : ∃ bb, bb = svSame ⟨t, vt, bs, bt, dd, en⟩ ⟨t2, vt2, bs2, bt2, dd2, en2⟩ := ⟨_, rfl⟩
      have HBB : Hid (bb = svSame ⟨t, vt, bs, bt, dd, en⟩ ⟨t2, vt2, bs2, bt2, dd2, en2⟩) := hbb
      obtain ⟨R, hR0, hC, hM, hBl⟩ : ∃ R : World → Prop, R u.drew ∧ (∀ X, R X → X.cell? ⟨bx, 0, none⟩ = some (.int .i64 t) ∧ X.cell? ⟨bx, 1, none⟩ = some (.int .i64 vt) ∧ X.cell? ⟨bx, 2, none⟩ = some (.int .i64 bs) ∧ X.cell? ⟨bx, 3, none⟩ = some (.int .i64 bt) ∧ X.cell? ⟨bx, 4, none⟩ = some (.string dd) ∧ X.cell? ⟨bx, 5, none⟩ = some (.slice pa ne ca) ∧ X.cell? ⟨g, i * 6, none⟩ = some (.int .i64 t2) ∧ X.cell? ⟨g, i * 6 + 1, none⟩ = some (.int .i64 vt2) ∧ X.cell? ⟨g, i * 6 + 2, none⟩ = some (.int .i64 bs2) ∧ X.cell? ⟨g, i * 6 + 3, none⟩ = some (.int .i64 bt2) ∧ X.cell? ⟨g, i * 6 + 4, none⟩ = some (.string dd2) ∧ X.cell? ⟨g, i * 6 + 5, none⟩ = some (.slice pb nf cb)) ∧
          (∀ X, R X → Calls Try.prog 42 #[.agg #[.int .i64 t, .int .i64 vt, .int .i64 bs, .int .i64 bt, .string dd, .slice pa ne ca], .agg #[.int .i64 t2, .int .i64 vt2, .int .i64 bs2, .int .i64 bt2, .string dd2, .slice pb nf cb]] X fun e w' => e = .returned (.bool bb) ∧ R w') ∧ (∀ X, R X → Below w.heap.size w X) := by
        have hwu : Below w3.heap.size w3 u.drew := by rw [hu]; exact (below_alloc _ _).drew
        have hus : u.drew.heap.size = w3.heap.size + 1 := by rw [hu]; simp
        have ub : ∀ j, u.drew.cell? ⟨bx, j, none⟩ = (#[.int .i64 t, .int .i64 vt, .int .i64 bs, .int .i64 bt, .string dd, .slice pa ne ca] : Array Value)[j]? := by intro j; rw [hu, hbx]; exact World.cell?_alloc_mark w3 _ _ _ j
        refine ⟨fun X => Below u.drew.heap.size u.drew X, Below.refl _ _, fun X hX => ?_, fun X hX => ?_, fun X hX => ?_⟩
        · have q1 : ∀ j, X.cell? ⟨bx, j, none⟩ = u.drew.cell? ⟨bx, j, none⟩ := fun j => hX.cell (p := ⟨bx, j, none⟩) (by show bx < _; omega)
          have q2 : ∀ j, X.cell? ⟨g, j, none⟩ = w3.cell? ⟨g, j, none⟩ := fun j => (hX.cell (p := ⟨g, j, none⟩) (by show g < _; omega)).trans (hwu.cell (p := ⟨g, j, none⟩) g3)
          rw [q1, q1, q1, q1, q1, q1, q2, q2, q2, q2, q2, q2]
          exact ⟨ub 0, ub 1, ub 2, ub 3, ub 4, ub 5, c0, c1, c2, c3, c4, c5⟩
        · have hx : Below w3.heap.size w3 X := hwu.trans (hX.mono hwu.size)
          have := Same_c (w := X) (a := ⟨t, vt, bs, bt, dd, en⟩) (b := ⟨t2, vt2, bs2, bt2, dd2, en2⟩) (EntR.below HE3.out hx) (EntR.below HEi.out hx)
          rw [← hbb] at this
          refine Calls.mono this ?_
          rintro e w' ⟨rfl, hb⟩
          exact ⟨rfl, hX.trans (hb.mono hX.size)⟩
        · exact HB3.out.trans ((hwu.trans (hX.mono hwu.size)).mono HB3.out.size)
      have KM : Hid _ := hM
      have KC : Hid _ := hC
      have KB : Hid _ := hBl
      clear hM hC hBl hu hbx hbb c0 c1 c2 c3 c4 c5 g3
      cases bb
      case false =>
        go_region_held (fun X => X.cell? ⟨bx, 0, none⟩ = some (.int .i64 t) ∧ X.cell? ⟨bx, 1, none⟩ = some (.int .i64 vt) ∧ X.cell? ⟨bx, 2, none⟩ = some (.int .i64 bs) ∧ X.cell? ⟨bx, 3, none⟩ = some (.int .i64 bt) ∧ X.cell? ⟨bx, 4, none⟩ = some (.string dd) ∧ X.cell? ⟨bx, 5, none⟩ = some (.slice pa ne ca) ∧ X.cell? ⟨g, i * 6, none⟩ = some (.int .i64 t2) ∧ X.cell? ⟨g, i * 6 + 1, none⟩ = some (.int .i64 vt2) ∧ X.cell? ⟨g, i * 6 + 2, none⟩ = some (.int .i64 bs2) ∧ X.cell? ⟨g, i * 6 + 3, none⟩ = some (.int .i64 bt2) ∧ X.cell? ⟨g, i * 6 + 4, none⟩ = some (.string dd2) ∧ X.cell? ⟨g, i * 6 + 5, none⟩ = some (.slice pb nf cb))
          (exact KC.out _ (by assumption))
          (first | (go_at_call 42; refine (KM.out _ ?_).mono ?_; assumption; rintro e w6 ⟨rfl, hg6⟩))
        have HB6 : Hid _ := KB.out _ hg6
        clear hg6 KM KC KB hR0
        go_wp2
        refine HO0.out _ i hlt (fun e => ?_) HB6.out
        rw [← HSV.out, ← HSW.out] at e
        have := HBB.out
        rw [svSame_iff.2 e] at this
        cases this
      case true =>
        go_region_held (fun X => X.cell? ⟨bx, 0, none⟩ = some (.int .i64 t) ∧ X.cell? ⟨bx, 1, none⟩ = some (.int .i64 vt) ∧ X.cell? ⟨bx, 2, none⟩ = some (.int .i64 bs) ∧ X.cell? ⟨bx, 3, none⟩ = some (.int .i64 bt) ∧ X.cell? ⟨bx, 4, none⟩ = some (.string dd) ∧ X.cell? ⟨bx, 5, none⟩ = some (.slice pa ne ca) ∧ X.cell? ⟨g, i * 6, none⟩ = some (.int .i64 t2) ∧ X.cell? ⟨g, i * 6 + 1, none⟩ = some (.int .i64 vt2) ∧ X.cell? ⟨g, i * 6 + 2, none⟩ = some (.int .i64 bs2) ∧ X.cell? ⟨g, i * 6 + 3, none⟩ = some (.int .i64 bt2) ∧ X.cell? ⟨g, i * 6 + 4, none⟩ = some (.string dd2) ∧ X.cell? ⟨g, i * 6 + 5, none⟩ = some (.slice pb nf cb))
          (exact KC.out _ (by assumption))
          (first | (go_at_call 42; refine (KM.out _ ?_).mono ?_; assumption; rintro e w6 ⟨rfl, hg6⟩))
        have HB6 : Hid _ := KB.out _ hg6
        clear hg6 KM KC KB hR0
        go_wp2
        go_roundw
        case rel => exact ⟨i + 1, by go_num, by omega, HB6⟩
        case measure => simp [intOf]; omega
    · obtain rfl : i = 9 := by omega
      have HN9 : Hid _ := HN.out wr 9 (by decide) HB.out
      go_wp2_with fail
      refine Calls.mono HN9.out ?_
      rintro e w3 ⟨rfl, hb3⟩
      have HB3 : Hid (Below w.heap.size w w3) := HB.out.trans (hb3.mono HB.out.size)
      have HN1 : Hid (∀ o, Calls Try.prog 23 #[.pointer (some ⟨L, 0, none⟩), .int .i64 (-1)] (w3.alloc o) fun e w' => e = .returned (.tuple #[.agg #[.int .i64 0, .int .i64 0, .int .i64 0, .int .i64 0, .string ⟨#[]⟩, .slice none 0 0], .int .i64 1]) ∧ Below w.heap.size w w') := by
        intro o
        have hb : Below w.heap.size w (w3.alloc o) := HB3.out.trans ((below_alloc _ _).mono HB3.out.size)
        refine (HN.out (w3.alloc o) (-1) (by decide) hb).mono ?_
        rintro e w' ⟨rfl, h⟩
        exact ⟨rfl, hb.trans (h.mono hb.size)⟩
      clear hb3
      go_wp2_with fail
      refine Calls.mono (HN1.out _) ?_
      rintro e w4 ⟨rfl, hb4⟩
      have HB4 : Hid _ := hb4
      clear hb4
      go_wp2
      exact HO1.out _ (HB4.out.trans ((below_alloc _ _).mono HB4.out.size))

end Go.Proofs.Ytagcnhkodmjkgaa

namespace Go.Proofs.Ytagcnhkodmjkgaa
open Go.RowKit

/-- The cells of what no records make, so many times. -/
def nwCells : Nat → List Value
  | 0 => []
  | k + 1 => nwCells k ++ [.int .i64 0, .int .i64 (-1), .int .i64 0, .int .i64 0, .string ⟨#[]⟩, .slice none 0 0]
theorem nwCells_len : ∀ k, (nwCells k).length = k * 6
  | 0 => rfl
  | k + 1 => by rw [nwCells, List.length_append, nwCells_len k]; simp; omega
theorem nwCells_at : ∀ k i j, i < k → j < 6 → (nwCells k)[i * 6 + j]? = ([.int .i64 0, .int .i64 (-1), .int .i64 0, .int .i64 0, .string ⟨#[]⟩, .slice none 0 0] : List Value)[j]?
  | 0, i, j, h, _ => by omega
  | k + 1, i, j, h, hj => by
    rw [nwCells]
    by_cases e : i = k
    · subst e
      rw [List.getElem?_append_right (by rw [nwCells_len]; omega), nwCells_len]
      congr 1
      omega
    · rw [List.getElem?_append_left (by rw [nwCells_len]; omega)]
      exact nwCells_at k i j (by omega) hj

theorem infoSav : (Try.prog.info? 45).map (fun i => (i.zero, i.size, i.bytes)) = some (some (.agg #[.int .i64 0, .int .i64 0, .int .i64 0, .int .i64 0, .string ⟨#[]⟩, .slice none 0 0]), 6, 72) := by kernel_rfl

set_option maxHeartbeats 800000 in
set_option maxRecDepth 20000 in
theorem All_none (w : World) : Calls Try.prog 12 #[.slice none 0 0] w fun e w' => ∃ v g, e = .returned v ∧ AllV w' v g (fun _ => W.new) (fun _ => .slice none 0 0) ∧ w.heap.size ≤ g ∧ Below w.heap.size w w' := by
  have HN : Hid (∀ u, Calls Try.prog 28 #[] u fun e w' => e = .returned (.agg #[.int .i64 0, .int .i64 (-1), .int .i64 0, .int .i64 0, .string ⟨#[]⟩, .slice none 0 0]) ∧ Below u.heap.size u w') := refNew_c
  go_enter Try.func12, Try.ntmps12
  go_wp2
  go_loopw [3, 4] (fun ov x wr => ∃ (k : Nat) (q : Option Addr) (c : Nat), x = .int .i64 (k : Int) ∧ k ≤ 9 ∧ ov = .slice q k c ∧ Hid (RowV wr 45 6 (.slice q k c) k (nwCells k)) ∧ Hid (Below w.heap.size w wr) ∧ Hid (∀ z, rowBlk (.slice q k c) = some z → w.heap.size ≤ z)) (fun _ x _ => 9 - (intOf x).toNat)
  case atStart => exact ⟨0, none, 0, rfl, by omega, rfl, RowV.nil _ _ _ _, Below.refl _ _, fun z hz => by simp [rowBlk] at hz⟩
  case round =>
    obtain ⟨k, q, c, rfl, hk, rfl, HR, HB, HK⟩ := hrel
    by_cases hlt : k < 9
    · have hk1 : (k : Int) < 9 := by omega
      go_wp2_with fail
      refine Calls.mono (HN.out _) ?_
      rintro e w1 ⟨rfl, hb1⟩
      have hba : Below wr.heap.size wr (w1.alloc (.cells #[.int .i64 0, .int .i64 (-1), .int .i64 0, .int .i64 0, .string ⟨#[]⟩, .slice none 0 0] 45)) := hb1.trans ((below_alloc _ _).mono hb1.size)
      have HBa : Hid (Below w.heap.size w (w1.alloc (.cells #[.int .i64 0, .int .i64 (-1), .int .i64 0, .int .i64 0, .string ⟨#[]⟩, .slice none 0 0] 45))) := HB.out.trans (hba.mono HB.out.size)
      have HRa : Hid (RowV (w1.alloc (.cells #[.int .i64 0, .int .i64 (-1), .int .i64 0, .int .i64 0, .string ⟨#[]⟩, .slice none 0 0] 45)) 45 6 (.slice q k c) k (nwCells k)) := HR.out.carry (fun z hz => hba.block z (HR.out.lt hz))
      have HSrc : Hid (Src Try.prog 6 34 (.slice (some ⟨w1.heap.size, 0, none⟩) 1 1) 1 [.int .i64 0, .int .i64 (-1), .int .i64 0, .int .i64 0, .string ⟨#[]⟩, .slice none 0 0] (w1.alloc (.cells #[.int .i64 0, .int .i64 (-1), .int .i64 0, .int .i64 0, .string ⟨#[]⟩, .slice none 0 0] 45))) := src_new w1 6 34 45 45 Try.underlying34 [.int .i64 0, .int .i64 (-1), .int .i64 0, .int .i64 0, .string ⟨#[]⟩, .slice none 0 0] rfl (by simp [Value.oneCell'])
      have hmx : Hid (k + 1 ≤ maxLen) := by unfold maxLen; show _ ≤ _; omega
      clear hb1 hba HR HB
      go_wp2_with (at_builtin; refine wpList_append_row rfl (.tmp 10) (.tmp 12) 34 34 45 rfl Try.underlying34 _ 6 72 infoSav rfl (.slice q k c) k (nwCells k) rfl HRa.out _ 1 _ rfl HSrc.out (by omega) hmx.out ?qnext)
      case qnext =>
        intro v' w4 ho hg hl
        have HR4 : Hid (RowV w4 45 6 v' (k + 1) (nwCells (k + 1))) := ho
        have HB4 : Hid (Below w.heap.size w w4) := HBa.out.grown hg HBa.out.size HK.out
        have HK4 : Hid (∀ z, rowBlk v' = some z → w.heap.size ≤ z) := by
          intro z hz
          rcases hl z hz with e | e
          · exact HK.out z e
          · have := HBa.out.size
            have e' : (w1.alloc (.cells #[.int .i64 0, .int .i64 (-1), .int .i64 0, .int .i64 0, .string ⟨#[]⟩, .slice none 0 0] 45)).heap.size ≤ z := by simpa using e
            omega
        obtain ⟨q', c4, hv', _⟩ := ho.form
        subst hv'
        clear ho hg hl HBa HRa HSrc hmx HK
        go_wp2
        go_roundw
        case rel => exact ⟨k + 1, q', c4, by go_num, by omega, rfl, HR4, HB4, HK4⟩
        case measure => simp [intOf]; omega
    · obtain rfl : k = 9 := by omega
      have HX : Hid (∃ g, AllV wr (.slice q 9 c) g (fun _ => W.new) (fun _ => .slice none 0 0) ∧ w.heap.size ≤ g) := by
        have hr := HR.out
        obtain ⟨g, c', hv, hrb, h1, h2, hc⟩ := hr.cells (by omega)
        injection hv with e1 e2 e3
        subst e1 e3
        have hz : ∀ i j, i < 9 → j < 6 → wr.cell? ⟨g, i * 6 + j, none⟩ = ([.int .i64 0, .int .i64 (-1), .int .i64 0, .int .i64 0, .string ⟨#[]⟩, .slice none 0 0] : List Value)[j]? := fun i j hi hj => by rw [hc _ (by omega)]; exact nwCells_at 9 i j hi hj
        refine ⟨g, ⟨⟨c, rfl, h1, h2⟩, hr.lt hrb, fun i hi => ⟨hz i 0 hi (by omega), hz i 1 hi (by omega), hz i 2 hi (by omega), hz i 3 hi (by omega), hz i 4 hi (by omega), hz i 5 hi (by omega)⟩, fun i hi => ⟨none, 0, rfl, Nat.le_refl _, by unfold maxLen; omega, .inl rfl⟩, fun i hi => by simp [readBlk], fun j => ?_⟩, HK.out g hrb⟩
        obtain ⟨_, ⟨e, _⟩ | ⟨g', cap, cur, e1, e2, _⟩⟩ := hr
        · omega
        · injection e1 with e1
          injection e1 with e1
          injection e1 with e1
          subst e1
          simp [World.frozen?, e2]
      clear HR HK
      go_wp2
      go_loopw [5] (fun x wr' => x = .int .i64 0 ∧ wr' = wr) (fun _ _ => 0)
      case atStart => exact ⟨rfl, rfl⟩
      case round =>
        obtain ⟨rfl, rfl⟩ := hrel
        go_wp2
        go_ret
        obtain ⟨g, h1, h2⟩ := HX.out
        exact ⟨_, g, rfl, h1, h2, HB.out⟩

end Go.Proofs.Ytagcnhkodmjkgaa

namespace Go.Proofs.Ytagcnhkodmjkgaa
open Go.RowKit

/-- Six cells in a row are set. -/
def set6 (w : World) (g o : Nat) (u0 u1 u2 u3 u4 u5 : Value) : World := (((((w.setCell ⟨g, o, none⟩ u0).setCell ⟨g, o + 1, none⟩ u1).setCell ⟨g, o + 2, none⟩ u2).setCell ⟨g, o + 3, none⟩ u3).setCell ⟨g, o + 4, none⟩ u4).setCell ⟨g, o + 5, none⟩ u5

theorem sc_other (w : World) (g a b : Nat) (v : Value) (h : a ≠ b) : (w.setCell ⟨g, a, none⟩ v).cell? ⟨g, b, none⟩ = w.cell? ⟨g, b, none⟩ := by
  apply World.cell?_setCell_other
  intro e
  injection e with e1 e2
  exact h e2
theorem sc_same (w : World) (g a : Nat) (v : Value) {u : Value} (h : w.cell? ⟨g, a, none⟩ = some u) : (w.setCell ⟨g, a, none⟩ v).cell? ⟨g, a, none⟩ = some v := by
  apply World.cell?_setCell_same
  exact h

theorem set6_out {w : World} {g o : Nat} {u0 u1 u2 u3 u4 u5 : Value} (q : Nat) (h : q < o ∨ o + 6 ≤ q) : (set6 w g o u0 u1 u2 u3 u4 u5).cell? ⟨g, q, none⟩ = w.cell? ⟨g, q, none⟩ := by
  unfold set6
  rw [sc_other _ _ _ _ _ (by omega), sc_other _ _ _ _ _ (by omega), sc_other _ _ _ _ _ (by omega), sc_other _ _ _ _ _ (by omega), sc_other _ _ _ _ _ (by omega), sc_other _ _ _ _ _ (by omega)]

theorem set6_heap {w : World} {g o : Nat} {u0 u1 u2 u3 u4 u5 : Value} {k : Nat} (h : k ≠ g) : (set6 w g o u0 u1 u2 u3 u4 u5).heap[k]? = w.heap[k]? := by
  unfold set6
  rw [Below.heap_setCell _ _ _ _ h, Below.heap_setCell _ _ _ _ h, Below.heap_setCell _ _ _ _ h, Below.heap_setCell _ _ _ _ h, Below.heap_setCell _ _ _ _ h, Below.heap_setCell _ _ _ _ h]

theorem set6_size {w : World} {g o : Nat} {u0 u1 u2 u3 u4 u5 : Value} : (set6 w g o u0 u1 u2 u3 u4 u5).heap.size = w.heap.size := by
  unfold set6
  simp [World.setCell]

theorem set6_in {w : World} {g o : Nat} {u0 u1 u2 u3 u4 u5 x0 x1 x2 x3 x4 x5 : Value} (h0 : w.cell? ⟨g, o, none⟩ = some x0) (h1 : w.cell? ⟨g, o + 1, none⟩ = some x1) (h2 : w.cell? ⟨g, o + 2, none⟩ = some x2) (h3 : w.cell? ⟨g, o + 3, none⟩ = some x3) (h4 : w.cell? ⟨g, o + 4, none⟩ = some x4) (h5 : w.cell? ⟨g, o + 5, none⟩ = some x5) :
    (set6 w g o u0 u1 u2 u3 u4 u5).cell? ⟨g, o, none⟩ = some u0 ∧ (set6 w g o u0 u1 u2 u3 u4 u5).cell? ⟨g, o + 1, none⟩ = some u1 ∧ (set6 w g o u0 u1 u2 u3 u4 u5).cell? ⟨g, o + 2, none⟩ = some u2 ∧ (set6 w g o u0 u1 u2 u3 u4 u5).cell? ⟨g, o + 3, none⟩ = some u3 ∧ (set6 w g o u0 u1 u2 u3 u4 u5).cell? ⟨g, o + 4, none⟩ = some u4 ∧ (set6 w g o u0 u1 u2 u3 u4 u5).cell? ⟨g, o + 5, none⟩ = some u5 := by
  unfold set6
  refine ⟨?_, ?_, ?_, ?_, ?_, ?_⟩
  · rw [sc_other _ _ _ _ _ (by omega), sc_other _ _ _ _ _ (by omega), sc_other _ _ _ _ _ (by omega), sc_other _ _ _ _ _ (by omega), sc_other _ _ _ _ _ (by omega)]
    exact sc_same _ _ _ _ h0
  · rw [sc_other _ _ _ _ _ (by omega), sc_other _ _ _ _ _ (by omega), sc_other _ _ _ _ _ (by omega), sc_other _ _ _ _ _ (by omega)]
    exact sc_same _ _ _ _ (u := x1) (by rw [sc_other _ _ _ _ _ (by omega)]; exact h1)
  · rw [sc_other _ _ _ _ _ (by omega), sc_other _ _ _ _ _ (by omega), sc_other _ _ _ _ _ (by omega)]
    exact sc_same _ _ _ _ (u := x2) (by rw [sc_other _ _ _ _ _ (by omega), sc_other _ _ _ _ _ (by omega)]; exact h2)
  · rw [sc_other _ _ _ _ _ (by omega), sc_other _ _ _ _ _ (by omega)]
    exact sc_same _ _ _ _ (u := x3) (by rw [sc_other _ _ _ _ _ (by omega), sc_other _ _ _ _ _ (by omega), sc_other _ _ _ _ _ (by omega)]; exact h3)
  · rw [sc_other _ _ _ _ _ (by omega)]
    exact sc_same _ _ _ _ (u := x4) (by rw [sc_other _ _ _ _ _ (by omega), sc_other _ _ _ _ _ (by omega), sc_other _ _ _ _ _ (by omega), sc_other _ _ _ _ _ (by omega)]; exact h4)
  · exact sc_same _ _ _ _ (u := x5) (by rw [sc_other _ _ _ _ _ (by omega), sc_other _ _ _ _ _ (by omega), sc_other _ _ _ _ _ (by omega), sc_other _ _ _ _ _ (by omega), sc_other _ _ _ _ _ (by omega)]; exact h5)

theorem AllV.put {w : World} {v : Value} {g : Nat} {S : Nat → W.Sv} {E : Nat → Value} (h : AllV w v g S E) {i : Nat} (hi : i < 9) {s : W.Sv} {e : Value} (he : EntR w e s.ents) (hs : readBlk e ≠ some g) :
    AllV (set6 w g (i * 6) (.int .i64 s.term) (.int .i64 s.vote) (.int .i64 s.base) (.int .i64 s.bterm) (.string s.data) e) v g (upd S i s) (upd E i e) := by
  have hent : ∀ e' l, EntR w e' l → readBlk e' ≠ some g → EntR (set6 w g (i * 6) (.int .i64 s.term) (.int .i64 s.vote) (.int .i64 s.base) (.int .i64 s.bterm) (.string s.data) e) e' l := by
    intro e' l h1 h2
    refine h1.carry (fun k hk => set6_heap ?_)
    intro q
    subst q
    exact h2 hk
  refine ⟨h.form, by rw [set6_size]; exact h.lt, fun j hj => ?_, fun j hj => ?_, fun j hj => ?_, fun j => ?_⟩
  · by_cases q : j = i
    · subst q
      rw [upd_same, upd_same]
      obtain ⟨h0, h1, h2, h3, h4, h5⟩ := h.cell j hj
      exact set6_in h0 h1 h2 h3 h4 h5
    · rw [upd_other _ _ q, upd_other _ _ q, set6_out _ (by omega), set6_out _ (by omega), set6_out _ (by omega), set6_out _ (by omega), set6_out _ (by omega), set6_out _ (by omega)]
      exact h.cell j hj
  · by_cases q : j = i
    · subst q
      rw [upd_same, upd_same]
      exact hent _ _ he hs
    · rw [upd_other _ _ q, upd_other _ _ q]
      exact hent _ _ (h.ent j hj) (h.sep j hj)
  · by_cases q : j = i
    · subst q
      rw [upd_same]
      exact hs
    · rw [upd_other _ _ q]
      exact h.sep j hj
  · unfold set6
    simp only [World.frozen?_setCell]
    exact h.free j

end Go.Proofs.Ytagcnhkodmjkgaa
