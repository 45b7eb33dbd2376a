/-
  For all lists of entries a and b: RlogNewer answers true: of two ends of logs one is as new as the other at the least, both just where they are equal; the arguments read afterwards as before. No condition.
-/
import Derived.Test.YtamoapbbkaagdaaRlTwo
import Derived.ProofKit
import Derived.OpenShut
import Derived.ShutString
import Derived.SizedLaws
import Derived.Deep.RegionHeld
namespace Go.Proofs.Ytamoapbbkaagdaa.rlogNewer
open Go.ChangeShapes Go.WideShapes Go.ChangeAt Go.RowKit
open Go.ChangeMaps (open_string shut_string)

/-- Of two ends one is as new as the other. -/
theorem ends (sx sy : G.L) : (G.newer sx (G.last sy) (G.termAt sy (G.last sy)) = true ∧ G.newer sy (G.last sx) (G.termAt sx (G.last sx)) = false ∧ G.termAt sx (G.last sx) ≠ G.termAt sy (G.last sy)) ∨
    (G.newer sx (G.last sy) (G.termAt sy (G.last sy)) = false ∧ G.newer sy (G.last sx) (G.termAt sx (G.last sx)) = true ∧ G.termAt sx (G.last sx) ≠ G.termAt sy (G.last sy)) ∨
    (G.newer sx (G.last sy) (G.termAt sy (G.last sy)) = true ∧ G.newer sy (G.last sx) (G.termAt sx (G.last sx)) = true ∧ G.termAt sx (G.last sx) = G.termAt sy (G.last sy) ∧ G.last sx = G.last sy) ∨
    (G.newer sx (G.last sy) (G.termAt sy (G.last sy)) = true ∧ G.newer sy (G.last sx) (G.termAt sx (G.last sx)) = false ∧ G.termAt sx (G.last sx) = G.termAt sy (G.last sy) ∧ G.last sx ≠ G.last sy) ∨
    (G.newer sx (G.last sy) (G.termAt sy (G.last sy)) = false ∧ G.newer sy (G.last sx) (G.termAt sx (G.last sx)) = true ∧ G.termAt sx (G.last sx) = G.termAt sy (G.last sy) ∧ G.last sx ≠ G.last sy) := by
  unfold G.newer
  generalize G.termAt sx (G.last sx) = S
  generalize G.termAt sy (G.last sy) = T
  generalize G.last sx = x
  generalize G.last sy = y
  by_cases h1 : S < T
  · left
    refine ⟨by simp [h1], ?_, by omega⟩
    rw [decide_eq_false (by omega), decide_eq_false (by omega)]
    rfl
  · by_cases h2 : T < S
    · right; left
      refine ⟨?_, by simp [h2], by omega⟩
      rw [decide_eq_false (by omega), decide_eq_false (by omega)]
      rfl
    · obtain rfl : S = T := by omega
      right; right
      by_cases h3 : x = y
      · left
        subst h3
        simp
      · right
        by_cases h4 : x ≤ y
        · left
          refine ⟨by simp [h4], ?_, rfl, h3⟩
          rw [decide_eq_false (by omega), decide_eq_false (by omega : ¬ y ≤ x)]
          simp
        · right
          refine ⟨?_, by simp; omega, rfl, h3⟩
          rw [decide_eq_false (by omega), decide_eq_false h4]
          simp

theorem termE_last {s : G.L} : G.termE s (G.last s) = 0 := by
  unfold G.termE
  rw [G.within_zero]
  unfold G.last
  omega

set_option maxHeartbeats 3200000 in
set_option maxRecDepth 20000 in
theorem walk (v0 : Value) (a0 : List (Int × ByteArray)) (v1 : Value) (a1 : List (Int × ByteArray)) (w : World) (b0 : Elems w 2 (fun x : Int × ByteArray => [.int .i64 x.1, .string x.2]) EntIn v0 a0) (b1 : Elems w 2 (fun x : Int × ByteArray => [.int .i64 x.1, .string x.2]) EntIn v1 a1) :
    Calls Try.prog 7 #[v0, v1] w fun e w' => e = .returned (.bool true) ∧ Below w.heap.size w w' := by
  have HA : Hid (∀ u : World, Calls Try.prog 8 #[] u fun e w' => e = .returned (.bool true) ∧ Below u.heap.size u w') := awake_c
  have HN : Hid _ := fun u : World => New_yes u 0 0 (by omega)
  have KA : Hid (∀ X Bx By sx sy (x : Int × ByteArray), Two w X Bx By sx sy → Calls Try.prog 13 #[.pointer (some ⟨Bx, 0, none⟩), .agg #[.int .i64 x.1, .string x.2]] X fun e w' => e = .returned (.tuple #[.int .i64 (G.appA sx x), .int .i64 (G.appE sx x)]) ∧ Two w w' Bx By (G.app sx x) sy) := by
    intro X Bx By sx sy x hX
    obtain ⟨ox, h1, h2⟩ := hX.left
    refine (Append_c h1 x).mono ?_
    rintro e w' ⟨he, ha⟩
    exact ⟨he, h2 _ _ ha⟩
  have KL : Hid (∀ X Bx By sx sy, Two w X Bx By sx sy → Calls Try.prog 16 #[.pointer (some ⟨Bx, 0, none⟩)] X fun e w' => e = .returned (.int .i64 (G.last sx)) ∧ Two w w' Bx By sx sy) := by
    intro X Bx By sx sy hX
    obtain ⟨ox, h1, h2⟩ := hX.left
    refine (Last_c h1).mono ?_
    rintro e w' ⟨he, hw⟩
    exact ⟨he, by rw [hw]; exact hX.below (below_drewN _ 1)⟩
  have KT : Hid (∀ X Bx By sx sy, Two w X Bx By sx sy → Calls Try.prog 18 #[.pointer (some ⟨Bx, 0, none⟩), .int .i64 (G.last sx)] X fun e w' => e = .returned (.tuple #[.int .i64 (G.termAt sx (G.last sx)), .int .i64 0]) ∧ Two w w' Bx By sx sy) := by
    intro X Bx By sx sy hX
    obtain ⟨ox, h1, h2⟩ := hX.left
    refine (Term_c h1 (G.last sx)).mono ?_
    rintro e w' ⟨he, m, hw⟩
    unfold G.termA at he
    rw [termE_last, if_pos rfl] at he
    exact ⟨he, by rw [hw]; exact hX.below (below_drewN _ m)⟩
  have KN : Hid (∀ X Bx By sx sy i t, Two w X Bx By sx sy → Calls Try.prog 19 #[.pointer (some ⟨Bx, 0, none⟩), .int .i64 i, .int .i64 t] X fun e w' => e = .returned (.bool (G.newer sx i t)) ∧ Two w w' Bx By sx sy) := by
    intro X Bx By sx sy i t hX
    obtain ⟨ox, h1, h2⟩ := hX.left
    refine (Newer_c h1 i t).mono ?_
    rintro e w' ⟨he, m, hw⟩
    exact ⟨he, by rw [hw]; exact hX.below (below_drewN _ m)⟩
  obtain ⟨p0, c0, rfl, hc0, hm0, _, k0⟩ := b0
  obtain ⟨p1, c1, rfl, hc1, hm1, _, k1⟩ := b1
  obtain ⟨n0, hn0⟩ : ∃ n, n = a0.length := ⟨_, rfl⟩
  obtain ⟨n1, hn1⟩ : ∃ n, n = a1.length := ⟨_, rfl⟩
  rw [← hn0] at hc0 ⊢
  rw [← hn1] at hc1 ⊢
  have HK0 : Hid _ := k0
  have HK1 : Hid _ := k1
  have HL0 : Hid _ := hn0
  have HL1 : Hid _ := hn1
  clear k0 k1 hn0 hn1 hm0 hm1
  by_cases t0 : n0 ≤ 100
  · by_cases t1 : n1 ≤ 100
    · go_enter Try.func7, Try.ntmps7
      go_wp2_with fail
      refine Calls.mono (HN.out _) ?_
      rintro e w1 ⟨rfl, hl1, hb1⟩
      have H1 : Hid _ := hl1
      have B1 : Hid _ := hb1
      clear hl1 hb1
      go_wp2_with fail
      refine Calls.mono (HN.out _) ?_
      rintro e w2 ⟨rfl, hl2, hb2⟩
      have HT : Hid (Two w w2 w.heap.size w1.heap.size ⟨0, 0, []⟩ ⟨0, 0, []⟩) := Two.make H1.out B1.out hl2 hb2
      clear hl2 hb2 H1 B1
      obtain ⟨Bx, hBx⟩ : ∃ Bx, Bx = w.heap.size := ⟨_, rfl⟩
      obtain ⟨By, hBy⟩ : ∃ By, By = w1.heap.size := ⟨_, rfl⟩
      rw [← hBy, ← hBx] at HT
      go_wp2
      rw [← hBx, ← hBy]
      clear hBx hBy
      go_loopw [9] (fun x wr => ∃ (k : Nat) (sx : G.L), x = .int .i64 (k : Int) ∧ k ≤ n0 ∧ Hid (Two w wr Bx By sx ⟨0, 0, []⟩)) (fun x _ => n0 - (intOf x).toNat)
      case atStart => exact ⟨0, _, rfl, Nat.zero_le _, HT⟩
      case round =>
        clear HT
        obtain ⟨k, sx, rfl, hk2, HT⟩ := hrel
        by_cases hlt : k < n0
        · obtain ⟨x, hx⟩ : ∃ x, a0[k]? = some x := ⟨_, List.getElem?_eq_getElem (by have := HL0.out; omega)⟩
          obtain ⟨g, o, rfl, hg, hcell⟩ : ∃ g o, p0 = some ⟨g, o, none⟩ ∧ g < w.heap.size ∧ ∀ q u, ([.int .i64 x.1, .string x.2] : List Value)[q]? = some u → w.cell? ⟨g, o + k * 2 + q, none⟩ = some u := by
            rcases HK0.out with e | ⟨g, o, h1, h2, h3⟩
            · rw [e] at hx; simp at hx
            · exact ⟨g, o, h1, h2, h3 k x hx⟩
          have y0 : wr.cell? ⟨g, o + k * 2, none⟩ = some (.int .i64 x.1) := (HT.out.old.cell (p := ⟨g, o + k * 2, none⟩) hg).trans (hcell 0 _ rfl)
          have y1 : wr.cell? ⟨g, o + k * 2 + 1, none⟩ = some (.string x.2) := (HT.out.old.cell (p := ⟨g, o + k * 2 + 1, none⟩) hg).trans (hcell 1 _ rfl)
          have HAp : Hid _ := KA.out wr Bx By sx _ x HT.out
          generalize G.app sx x = s' at HAp
          generalize G.appA sx x = i1 at HAp
          generalize G.appE sx x = i2 at HAp
          obtain ⟨t, d⟩ := x
          dsimp only at y0 y1 HAp
          have hk0 : (0 : Int) ≤ (k : Int) := by omega
          have hk1 : (k : Int) < (n0 : Int) := by omega
          clear hcell hg hx
          by_cases hd : d.size ≤ 4096
          · have d1 : decide ((d.size : Int) ≤ 4096) = true := decide_eq_true (by omega)
            clear hd
            go_wp2_with fail
            refine Calls.mono HAp.out ?_
            rintro e w3 ⟨rfl, h3⟩
            have H3 : Hid _ := h3
            clear h3 y0 y1
            go_wp2
            go_roundw
            case rel => exact ⟨k + 1, s', by go_num, by omega, H3⟩
            case measure => simp [intOf]; omega
          · have d1 : decide ((d.size : Int) ≤ 4096) = false := decide_eq_false (by omega)
            clear hd
            go_wp2
            go_roundw
            case rel => exact ⟨k + 1, sx, by go_num, by omega, HT⟩
            case measure => simp [intOf]; omega
        · obtain rfl : k = n0 := by omega
          go_wp2
          clear hlt hk2
          go_loopw [10] (fun x wr => ∃ (k : Nat) (sy : G.L), x = .int .i64 (k : Int) ∧ k ≤ n1 ∧ Hid (Two w wr By Bx sy sx)) (fun x _ => n1 - (intOf x).toNat)
          case atStart => exact ⟨0, _, rfl, Nat.zero_le _, HT.out.swap⟩
          case round =>
            clear HT
            obtain ⟨k, sy, rfl, hk2, HT⟩ := hrel
            by_cases hlt : k < n1
            · obtain ⟨x, hx⟩ : ∃ x, a1[k]? = some x := ⟨_, List.getElem?_eq_getElem (by have := HL1.out; omega)⟩
              obtain ⟨g, o, rfl, hg, hcell⟩ : ∃ g o, p1 = some ⟨g, o, none⟩ ∧ g < w.heap.size ∧ ∀ q u, ([.int .i64 x.1, .string x.2] : List Value)[q]? = some u → w.cell? ⟨g, o + k * 2 + q, none⟩ = some u := by
                rcases HK1.out with e | ⟨g, o, h1, h2, h3⟩
                · rw [e] at hx; simp at hx
                · exact ⟨g, o, h1, h2, h3 k x hx⟩
              have y0 : wr.cell? ⟨g, o + k * 2, none⟩ = some (.int .i64 x.1) := (HT.out.old.cell (p := ⟨g, o + k * 2, none⟩) hg).trans (hcell 0 _ rfl)
              have y1 : wr.cell? ⟨g, o + k * 2 + 1, none⟩ = some (.string x.2) := (HT.out.old.cell (p := ⟨g, o + k * 2 + 1, none⟩) hg).trans (hcell 1 _ rfl)
              have HAp : Hid _ := KA.out wr By Bx sy _ x HT.out
              generalize G.app sy x = s' at HAp
              generalize G.appA sy x = i1 at HAp
              generalize G.appE sy x = i2 at HAp
              obtain ⟨t, d⟩ := x
              dsimp only at y0 y1 HAp
              have hk0 : (0 : Int) ≤ (k : Int) := by omega
              have hk1 : (k : Int) < (n1 : Int) := by omega
              clear hcell hg hx
              by_cases hd : d.size ≤ 4096
              · have d1 : decide ((d.size : Int) ≤ 4096) = true := decide_eq_true (by omega)
                clear hd
                go_wp2_with fail
                refine Calls.mono HAp.out ?_
                rintro e w3 ⟨rfl, h3⟩
                have H3 : Hid _ := h3
                clear h3 y0 y1
                go_wp2
                go_roundw
                case rel => exact ⟨k + 1, s', by go_num, by omega, H3⟩
                case measure => simp [intOf]; omega
              · have d1 : decide ((d.size : Int) ≤ 4096) = false := decide_eq_false (by omega)
                clear hd
                go_wp2
                go_roundw
                case rel => exact ⟨k + 1, sy, by go_num, by omega, HT⟩
                case measure => simp [intOf]; omega
            · obtain rfl : k = n1 := by omega
              clear hlt hk2
              have KL1 : Hid (∀ X, Two w X By Bx sy sx → Calls Try.prog 16 #[.pointer (some ⟨Bx, 0, none⟩)] X fun e w' => e = .returned (.int .i64 (G.last sx)) ∧ Two w w' By Bx sy sx) := by
                intro X hX
                refine (KL.out X Bx By sx sy hX.swap).mono ?_
                rintro e w' ⟨he, h⟩
                exact ⟨he, h.swap⟩
              have KL2 : Hid (∀ X, Two w X By Bx sy sx → Calls Try.prog 16 #[.pointer (some ⟨By, 0, none⟩)] X fun e w' => e = .returned (.int .i64 (G.last sy)) ∧ Two w w' By Bx sy sx) := fun X hX => KL.out X By Bx sy sx hX
              have KT1 : Hid (∀ X, Two w X By Bx sy sx → Calls Try.prog 18 #[.pointer (some ⟨Bx, 0, none⟩), .int .i64 (G.last sx)] X fun e w' => e = .returned (.tuple #[.int .i64 (G.termAt sx (G.last sx)), .int .i64 0]) ∧ Two w w' By Bx sy sx) := by
                intro X hX
                refine (KT.out X Bx By sx sy hX.swap).mono ?_
                rintro e w' ⟨he, h⟩
                exact ⟨he, h.swap⟩
              have KT2 : Hid (∀ X, Two w X By Bx sy sx → Calls Try.prog 18 #[.pointer (some ⟨By, 0, none⟩), .int .i64 (G.last sy)] X fun e w' => e = .returned (.tuple #[.int .i64 (G.termAt sy (G.last sy)), .int .i64 0]) ∧ Two w w' By Bx sy sx) := fun X hX => KT.out X By Bx sy sx hX
              have KN1 : Hid (∀ X, Two w X By Bx sy sx → Calls Try.prog 19 #[.pointer (some ⟨Bx, 0, none⟩), .int .i64 (G.last sy), .int .i64 (G.termAt sy (G.last sy))] X fun e w' => e = .returned (.bool (G.newer sx (G.last sy) (G.termAt sy (G.last sy)))) ∧ Two w w' By Bx sy sx) := by
                intro X hX
                refine (KN.out X Bx By sx sy _ _ hX.swap).mono ?_
                rintro e w' ⟨he, h⟩
                exact ⟨he, h.swap⟩
              have KN2 : Hid (∀ X, Two w X By Bx sy sx → Calls Try.prog 19 #[.pointer (some ⟨By, 0, none⟩), .int .i64 (G.last sx), .int .i64 (G.termAt sx (G.last sx))] X fun e w' => e = .returned (.bool (G.newer sy (G.last sx) (G.termAt sx (G.last sx)))) ∧ Two w w' By Bx sy sx) := fun X hX => KN.out X By Bx sy sx _ _ hX
              have HE : Hid _ := ends sx sy
              generalize G.newer sx (G.last sy) (G.termAt sy (G.last sy)) = pb at KN1 HE
              generalize G.newer sy (G.last sx) (G.termAt sx (G.last sx)) = qb at KN2 HE
              generalize G.termAt sx (G.last sx) = S at KT1 KN2 HE
              generalize G.termAt sy (G.last sy) = T at KT2 KN1 HE
              generalize G.last sx = lx at KL1 KT1 KN2 HE
              generalize G.last sy = ly at KL2 KT2 KN1 HE
              go_wp2_with fail
              refine Calls.mono (KL1.out _ HT.out) ?_
              rintro e w3 ⟨rfl, h3⟩
              have H3 : Hid _ := h3
              clear h3 HT
              go_wp2_with fail
              refine Calls.mono (KT1.out _ H3.out) ?_
              rintro e w4 ⟨rfl, h4⟩
              have H4 : Hid _ := h4
              clear h4 H3
              go_wp2_with fail
              refine Calls.mono (KL2.out _ H4.out) ?_
              rintro e w5 ⟨rfl, h5⟩
              have H5 : Hid _ := h5
              clear h5 H4
              go_wp2_with fail
              refine Calls.mono (KT2.out _ H5.out) ?_
              rintro e w6 ⟨rfl, h6⟩
              have H6 : Hid _ := h6
              clear h6 H5
              go_wp2_with fail
              refine Calls.mono (KL2.out _ H6.out) ?_
              rintro e w7 ⟨rfl, h7⟩
              have H7 : Hid _ := h7
              clear h7 H6
              go_wp2_with fail
              refine Calls.mono (KN1.out _ H7.out) ?_
              rintro e w8 ⟨rfl, h8⟩
              have H8 : Hid _ := h8
              clear h8 H7
              go_wp2_with fail
              refine Calls.mono (KL1.out _ H8.out) ?_
              rintro e w9 ⟨rfl, h9⟩
              have H9 : Hid _ := h9
              clear h9 H8
              go_wp2_with fail
              refine Calls.mono (KN2.out _ H9.out) ?_
              rintro e w10 ⟨rfl, h10⟩
              have H10 : Hid _ := h10
              clear h10 H9
              rcases HE.out with ⟨e1, e2, e3⟩ | ⟨e1, e2, e3⟩ | ⟨e1, e2, e3, e4⟩ | ⟨e1, e2, e3, e4⟩ | ⟨e1, e2, e3, e4⟩
              · subst e1 e2
                have e5 : (S == T) = false := by simpa using e3
                clear e3 HE
                go_wp2_with fail
                refine (HA.out _).mono ?_
                rintro e w11 ⟨rfl, hb3⟩
                have HB3 : Hid (Below w.heap.size w w11) := (Two.old H10.out).trans (hb3.mono (Two.old H10.out).size)
                clear hb3
                go_wp2
                go_ret
                exact ⟨rfl, HB3.out⟩
              · subst e1 e2
                have e5 : (S == T) = false := by simpa using e3
                clear e3 HE
                go_wp2_with fail
                refine (HA.out _).mono ?_
                rintro e w11 ⟨rfl, hb3⟩
                have HB3 : Hid (Below w.heap.size w w11) := (Two.old H10.out).trans (hb3.mono (Two.old H10.out).size)
                clear hb3
                go_wp2
                go_ret
                exact ⟨rfl, HB3.out⟩
              all_goals
                subst e1 e2 e3
                have e5 : (S == S) = true := by simp
                have e6 : (lx == ly) = decide (lx = ly) := by
                  by_cases q : lx = ly
                  · rw [decide_eq_true q, q]; simp
                  · rw [decide_eq_false q]; simpa using q
                first
                  | rw [decide_eq_true e4] at e6
                  | rw [decide_eq_false e4] at e6
                clear e4 HE
                go_wp2_with fail
                refine Calls.mono (KL1.out _ H10.out) ?_
                rintro e w11 ⟨rfl, h11⟩
                have H11 : Hid _ := h11
                clear h11 H10
                go_wp2_with fail
                refine Calls.mono (KL2.out _ H11.out) ?_
                rintro e w12 ⟨rfl, h12⟩
                have H12 : Hid _ := h12
                clear h12 H11
                go_wp2_with fail
                refine (HA.out _).mono ?_
                rintro e w13 ⟨rfl, hb3⟩
                have HB3 : Hid (Below w.heap.size w w13) := (Two.old H12.out).trans (hb3.mono (Two.old H12.out).size)
                clear hb3
                go_wp2
                go_ret
                exact ⟨rfl, HB3.out⟩
    · have t1' : ¬ n1 ≤ 100 := t1
      go_enter Try.func7, Try.ntmps7
      go_wp2_with fail
      refine Calls.mono (HN.out _) ?_
      rintro e w1 ⟨rfl, hl1, hb1⟩
      have H1 : Hid _ := hl1
      have B1 : Hid _ := hb1
      clear hl1 hb1
      go_wp2_with fail
      refine Calls.mono (HN.out _) ?_
      rintro e w2 ⟨rfl, hl2, hb2⟩
      have HB2 : Hid (Below w.heap.size w w2) := B1.out.trans (hb2.mono B1.out.size)
      clear hl2 hb2 H1 B1
      go_wp2_with fail
      refine (HA.out _).mono ?_
      rintro e w3 ⟨rfl, hb3⟩
      have HB3 : Hid (Below w.heap.size w w3) := HB2.out.trans (hb3.mono HB2.out.size)
      clear hb3
      go_wp2
      go_ret
      exact ⟨rfl, HB3.out⟩
  · go_enter Try.func7, Try.ntmps7
    go_wp2_with fail
    refine Calls.mono (HN.out _) ?_
    rintro e w1 ⟨rfl, hl1, hb1⟩
    have H1 : Hid _ := hl1
    have B1 : Hid _ := hb1
    clear hl1 hb1
    go_wp2_with fail
    refine Calls.mono (HN.out _) ?_
    rintro e w2 ⟨rfl, hl2, hb2⟩
    have HB2 : Hid (Below w.heap.size w w2) := B1.out.trans (hb2.mono B1.out.size)
    clear hl2 hb2 H1 B1
    go_wp2_with fail
    refine (HA.out _).mono ?_
    rintro e w3 ⟨rfl, hb3⟩
    have HB3 : Hid (Below w.heap.size w w3) := HB2.out.trans (hb3.mono HB2.out.size)
    clear hb3
    go_wp2
    go_ret
    exact ⟨rfl, HB3.out⟩

theorem laidOut : laidOutB Try.prog = true := by kernel_rfl

theorem own : ownKnob Try.prog.godebug = none := by kernel_rfl

set_option maxRecDepth 100000 in
theorem lifted (os : Os) (started : os.Started) (H : Type) (enc : TypeId × Value → H) :
    ReturnsInHanded {} Try.checked os 7 .any (Rows.rlogNewerSpec.pre6 enc Try.prog Try.f7 Rows.rlogNewerRow.domain false) (Rows.rlogNewerSpec.post enc Try.prog Try.f7 false true false false) := by
  refine returnsInHanded_of_change_sized (C := Try.checked) own started (by kernel_rfl) Try.func7
    (ChangeSpec.witness6 (enc := enc) (C := Try.checked) false ⟨#[], #[.slice none 0 0, .slice none 0 0], []⟩ 8 (by kernel_rfl) (by kernel_rfl) (by kernel_rfl) (by kernel_rfl)) ?_
  intro W base args ds gs before hval0 hW _ hsz0 _
  have hsz : (DataW.weightsEach Try.prog (Try.f7.params.toList ++ Rows.rlogNewerSpec.plain.varTypes Try.prog) (ds ++ gs)).all (· ≤ reachBytes) = true := hsz0
  have hval : ∀ (j : Nat) t v, Try.f7.params[j]? = some t → args[j]? = some v → Value.okWide Try.prog W .any base t v := hval0
  have hW' := hW
  obtain ⟨p, q, hA0, hV, rfl, hfz, hnd⟩ := hW
  have hA : DataW.TrodAll enc Try.prog W 0 (fun _ => true) true Try.f7.params.toList args.toList ds p := hA0
  rw [Try.params7] at hA hval hsz
  obtain ⟨v0, vs0, d0, ds0, p0, q0, hargs, rfl, rfl, h0, r0⟩ := trodAll_cons hA
  obtain ⟨v1, vs1, d1, ds1, p1, q1, rfl, rfl, rfl, h1, r1⟩ := trodAll_cons r0
  obtain ⟨rfl, rfl, rfl⟩ := trodAll_nil r1
  obtain rfl : args = #[v0, v1] := by cases args; simp_all
  obtain ⟨rfl, rfl⟩ := trodVars_none hV
  have k0 := h0
  have lt0 : ∀ x ∈ p0, x.block < W.heap.size := by obtain ⟨m, hm⟩ := k0; exact DataW.trod_lt m _ _ _ hm
  obtain ⟨a0, b0⟩ := open_ents (hval 0 28 v0 rfl rfl) h0
  have k1 := h1
  have lt1 : ∀ x ∈ p1, x.block < W.heap.size := by obtain ⟨m, hm⟩ := k1; exact DataW.trod_lt m _ _ _ hm
  obtain ⟨a1, b1⟩ := open_ents (hval 1 28 v1 rfl rfl) h1
  clear hA0 hval0 hsz0
  refine (walk v0 a0 v1 a1 W b0 b1).mono fun e W' ⟨he, bel⟩ => ?_
  subst he
  exact ⟨_, rfl, _, _, _, [], _, [], hW', trodAll_mk1 (shut_bool Try.underlying4 _), (trodAll_cons_mk (Below.trod laidOut (by kernel_rfl) (of_decide_eq_true (by kernel_rfl)) k0 bel lt0) (trodAll_cons_mk (Below.trod laidOut (by kernel_rfl) (of_decide_eq_true (by kernel_rfl)) k1 bel lt1) trodAll_mk0)), rfl, bel.frame _, fun h => by cases h⟩

theorem over : Rows.rlogNewerRow.holds Try.pinned (OpenSpec.ofChange Rows.rlogNewerSpec) :=
  OpenClaim.holds_of_wide 7 Try.f7 rfl rfl rfl rfl rfl rfl rfl ⟨rfl, rfl, rfl, rfl, rfl⟩ rfl rfl rfl rfl rfl (by kernel_rfl) Try.func7 (by kernel_rfl)
    (of_decide_eq_true (by kernel_rfl)) (by unfold Func.isWrapper; first | (rw [if_pos (by decide +kernel)]; kernel_rfl) | (rw [if_neg (by decide +kernel)]; exact ⟨rfl, rfl⟩))
    (fun os started H enc _ => lifted os started H enc)


end Go.Proofs.Ytamoapbbkaagdaa.rlogNewer
namespace Go.Proofs.Ytamoapbbkaagdaa
/-- The statement. -/
theorem rlogNewer_holds : Rows.RlogNewerSaid := rlogNewer.over
end Go.Proofs.Ytamoapbbkaagdaa
