/-
  For every number and every script of calls: NetPlays answers true: whatever is put, taken, doubled and lost, a net holds what the document's does; the arguments read afterwards as before. No condition.
-/
import Derived.Test.YtpopanfefpehnaaNnPlays
import Derived.ProofKit
import Derived.OpenShut
import Derived.ShutString
import Derived.SizedLaws
import Derived.Deep.RegionHeld
namespace Go.Proofs.Ytpopanfefpehnaa.netPlays
open Go.ChangeShapes Go.WideShapes Go.ChangeAt Go.RowKit
open Go.ChangeMaps (open_string shut_string)

set_option maxHeartbeats 800000 in
theorem walk_out (a0 : Int) (v1 : Value) (w : World) (h : a0 < 1 ∨ a0 > 4096) :
    Calls Try.prog 3 #[.int .i64 a0, v1] w fun e w' => e = .returned (.bool true) ∧ Below w.heap.size w w' := by
  have HN : Hid _ := New_bad a0 h w
  have HR : Hid _ := rNew_bad a0 h w
  have HA : Hid (∀ u : World, Calls Try.prog 11 #[] u fun e w' => e = .returned (.bool true) ∧ Below u.heap.size u w') := awake_c
  clear h
  go_enter Try.func3, Try.ntmps3
  go_wp2_with fail
  refine Calls.mono HN.out ?_
  rintro e w1 ⟨rfl, hw⟩
  have hw := hw.symm
  subst hw
  go_wp2_with fail
  refine Calls.mono HR.out ?_
  rintro e w2 ⟨rfl, hb2⟩
  have HB2 : Hid _ := hb2
  clear hb2
  go_wp2_with fail
  refine (HA.out _).mono ?_
  rintro e w3 ⟨rfl, hb3⟩
  have hb4 : Below w2.heap.size w2 w3 := (below_alloc w2 _).trans (hb3.mono (by simp))
  have HB4 : Hid _ := hb4
  clear hb3 hb4
  go_wp2
  go_ret
  exact ⟨rfl, HB2.out.trans (HB4.out.mono HB2.out.size)⟩

/-- How long the document's list is. -/
def lenAt (X : World) (et : Nat) : Nat := match X.cell? ⟨et, 1, none⟩ with
  | some (.slice _ m _) => m
  | _ => 0
theorem lenAt_of {X : World} {et : Nat} {p : Option Addr} {m c : Nat} (h : X.cell? ⟨et, 1, none⟩ = some (.slice p m c)) : lenAt X et = m := by unfold lenAt; rw [h]

/-- The document's box, and what lay there ahead of the call, as they were. -/
def Kp (et : Nat) (w wr W : World) : Prop := W.heap[et]? = wr.heap[et]? ∧ Below w.heap.size w W ∧ et < W.heap.size
theorem Kp.alloc {et : Nat} {w wr W : World} (h : Kp et w wr W) (o : Obj) : Kp et w wr (W.alloc o) := ⟨((below_alloc W o).block et h.2.2).trans h.1, h.2.1.trans ((below_alloc W o).mono h.2.1.size), Nat.lt_of_lt_of_le h.2.2 (below_alloc W o).size⟩
theorem Kp.fin {et en : Nat} {w wr W : World} (h : Kp et w wr W) (hne : et ≠ en) (hw : w.heap.size ≤ en) (a b : Value) : Kp et w wr ((W.setCell ⟨en, 0, none⟩ a).setCell ⟨en, 1, none⟩ b) := by
  have e := fin2_other (X := W) hne a b
  unfold fin2 at e
  exact ⟨e.trans h.1, (h.2.1.setCell (p := ⟨en, 0, none⟩) hw _).setCell (p := ⟨en, 1, none⟩) hw _, by rw [size_set6, size_set6]; exact h.2.2⟩

set_option maxHeartbeats 2000000 in
set_option maxRecDepth 20000 in
theorem walk_in (most : Int) (hmost : 1 ≤ most ∧ most ≤ 4096) (v1 : Value) (a1 : List Op8) (w : World) (_b1 : Elems w 4 opCells Op8In v1 a1) :
    Calls Try.prog 3 #[.int .i64 most, v1] w fun e w' => e = .returned (.bool true) ∧ Below w.heap.size w w' := by
  have HA : Hid (∀ u : World, Calls Try.prog 11 #[] u fun e w' => e = .returned (.bool true) ∧ Below u.heap.size u w') := awake_c
  obtain ⟨p0, c0, hv0, hc1, hc2, hgood, hcells⟩ := _b1
  obtain ⟨n0, hn0⟩ : ∃ n0, n0 = a1.length := ⟨_, rfl⟩
  rw [← hn0] at hv0 hc1
  have HI : Hid (∀ k, k < n0 → ∃ q g o, Op8In q ∧ p0 = some ⟨g, o, none⟩ ∧ ∀ X, Below w.heap.size w X → X.cell? ⟨g, o + k * 4, none⟩ = some (.int .i64 q.kind) ∧ X.cell? ⟨g, o + k * 4 + 1, none⟩ = some (.int .i64 q.n) ∧ X.cell? ⟨g, o + k * 4 + 2, none⟩ = some (.int .i64 q.m) ∧ X.cell? ⟨g, o + k * 4 + 3, none⟩ = some (.string q.tx)) := by
    intro k hk
    obtain ⟨q, hq⟩ : ∃ q, a1[k]? = some q := ⟨_, List.getElem?_eq_getElem (by omega)⟩
    rcases hcells with h | ⟨g, o, hp, hg, hcs⟩
    · rw [h] at hq
      simp at hq
    · refine ⟨q, g, o, hgood q (List.mem_of_getElem? hq), hp, fun X hX => ?_⟩
      have e : ∀ j, X.cell? ⟨g, j, none⟩ = w.cell? ⟨g, j, none⟩ := fun j => hX.cell (p := ⟨g, j, none⟩) hg
      rw [e, e, e, e]
      exact ⟨hcs k q hq 0 _ rfl, hcs k q hq 1 _ rfl, hcs k q hq 2 _ rfl, hcs k q hq 3 _ rfl⟩
  subst hv0
  have hcm := hc2
  unfold maxLen at hcm
  have HNew : Hid _ := New_fresh most hmost w (Below.refl _ w)
  have HRn : Hid _ := rNew_yes most hmost
  obtain ⟨B, hB⟩ : ∃ B, B = w.heap.size + 1 := ⟨_, rfl⟩
  rw [← hB] at HNew
  clear hn0 hgood hcells hc2 hB hmost
  go_enter Try.func3, Try.ntmps3
  go_wp2_with fail
  refine Calls.mono HNew.out ?_
  rintro e w1 ⟨rfl, hl, _⟩
  have HL : Hid (Nf w w1 B ⟨most, []⟩ 0 (fun _ => False)) := hl.less (fun _ hk => hk.elim)
  clear hl
  go_wp2_with fail
  refine (HRn.out w1).mono ?_
  rintro e w2 ⟨rfl, hb2⟩
  obtain ⟨et, het⟩ : ∃ et, et = w2.heap.size := ⟨_, rfl⟩
  obtain ⟨w3, hw3⟩ : ∃ w3, w3 = w2.alloc (.cells #[.int .i64 most, .slice none 0 0] 29) := ⟨_, rfl⟩
  have HP0 : Hid (Pl w B et ⟨most, []⟩ 0 none 0 0 w3) := by
    have hb3 : Below w2.heap.size w2 w3 := by rw [hw3]; exact below_alloc _ _
    have hs3 : w3.heap.size = et + 1 := by rw [hw3, het]; simp
    have hc : ∀ j, w3.cell? ⟨et, j, none⟩ = (#[.int .i64 most, .slice none 0 0] : Array Value)[j]? ∧ w3.frozen? ⟨et, j, none⟩ = false := fun j => by rw [hw3]; exact cell_new w2 _ _ het.symm j
    have hg := (HL.out.below hb2).grow hb3
    refine ⟨⟨⟨_, ⟨hg, RowC.nil _ _ _, fun k hk => by simp [cBlk] at hk⟩, .inr ⟨by omega, by omega⟩⟩, ?_, by simp [cBlk], ⟨_, _, (hc 0).1, (hc 1).1⟩, fun j => (hc j).2, rfl⟩, (hc 0).1, (hc 1).1⟩
    have := (HL.out.below hb2).old.size
    omega
  clear hb2 HNew HRn HL
  go_wp2
  rw [← hw3, ← het]
  clear hw3 het
  go_loopw [9] (fun iv wr => ∃ (i m c : Nat) (s : Q.St) (p : Option Addr), iv = .int .i64 (i : Int) ∧ i ≤ n0 ∧ i ≤ 300 ∧ s.most = most ∧ Hid (Pl w B et s i p m c wr)) (fun iv _ => 300 - (intOf iv).toNat)
  case atStart => exact ⟨0, 0, 0, _, none, rfl, Nat.zero_le _, Nat.zero_le _, rfl, HP0⟩
  case round =>
    clear HP0
    obtain ⟨i, m, c, s, p, rfl, hin, hi3, hms, HP⟩ := hrel
    have q0 := HP.out.q0
    rw [hms] at q0
    have q1 := HP.out.q1
    by_cases hlt : i < n0
    · by_cases hlt3 : i < 300
      · obtain ⟨q, g, o, hq, hp0, hX⟩ := HI.out i hlt
        subst hp0
        obtain ⟨r0, r1, r2, r3⟩ := hX wr HP.out.nx.old
        have hi0 : (0 : Int) ≤ (i : Int) := Int.natCast_nonneg i
        have hi1 : (i : Int) < (n0 : Int) := by omega
        have hi2 : (i : Int) < 300 := by omega
        by_cases hz1 : 4096 < q.tx.size
        · have hz1' : (4096 : Int) < (q.tx.size : Int) := by omega
          by_cases hz2 : q.tx.size ≤ 1048576
          · have hz2' : (q.tx.size : Int) ≤ 1048576 := by omega
            clear HI
            go_wp2_with fail
            refine (HA.out _).mono ?_
            rintro e w3 ⟨rfl, hb3⟩
            have HB3 : Hid _ := hb3
            clear hb3
            go_wp2
            go_ret
            exact ⟨rfl, HP.out.nx.old.trans (HB3.out.mono HP.out.nx.old.size)⟩
          · have hz2' : ¬ (q.tx.size : Int) ≤ 1048576 := by omega
            have hbd : Below wr.heap.size wr wr.drew := (Below.refl _ _).drew
            have hPd := HP.out.below hbd
            have hBe := does_behind hPd (by omega) q hq
            have hAh := does_ahead hPd (by omega) q hq 29
            rw [hms] at hBe hAh
            have hetl := HP.out.nx.et_lt
            have HK0 : Hid (Kp et w wr wr.drew) := ⟨rfl, HP.out.nx.old.drew, hetl⟩
            have HKa : Hid (Kp et w wr (wr.alloc (.cells #[.int .i64 0, .slice none 0 0] 29)).drew) := Kp.alloc (W := wr.drew) HK0.out _
            have HSw : Hid (∀ W, Kp et w wr W → W.cell? ⟨et, 0, none⟩ = some (.int .i64 most) ∧ W.cell? ⟨et, 1, none⟩ = some (.slice p m c) ∧ W.cell? ⟨g, o + i * 4, none⟩ = some (.int .i64 q.kind) ∧ W.cell? ⟨g, o + i * 4 + 1, none⟩ = some (.int .i64 q.n) ∧ W.cell? ⟨g, o + i * 4 + 2, none⟩ = some (.int .i64 q.m) ∧ W.cell? ⟨g, o + i * 4 + 3, none⟩ = some (.string q.tx)) := fun W hW => ⟨(World.cell?_of_block (a := ⟨et, 0, none⟩) hW.1).trans q0, (World.cell?_of_block (a := ⟨et, 1, none⟩) hW.1).trans q1, hX W hW.2.1⟩
            have HNw : Hid (et ≠ wr.heap.size ∧ w.heap.size ≤ wr.heap.size) := ⟨by omega, HP.out.nx.old.size⟩
            have HBe : Hid (Calls Try.prog 12 #[.pointer (some ⟨B, 0, none⟩), .agg #[.int .i64 most, .slice p m c], .agg #[.int .i64 q.kind, .int .i64 q.n, .int .i64 q.m, .string q.tx]] wr.drew fun e Y => ∃ s' p' m' c', e = .returned (.tuple #[.agg #[.int .i64 most, .slice p' m' c'], .bool true]) ∧ s'.most = most ∧ Kp et w wr Y ∧ Hid (Nz w B et Y.heap.size s' (i + 1) p' m' c' (Y.alloc (.cells #[.int .i64 most, .slice p' m' c'] 29)))) := by
              refine Calls.mono hBe ?_
              rintro e Y ⟨s', p', m', c', rfl, a1, a2, a3, a4⟩
              exact ⟨s', p', m', c', rfl, a1, ⟨a2, a3, (World.block_lt_of_cell? Y ⟨et, 0, none⟩ ((World.cell?_of_block (a := ⟨et, 0, none⟩) a2).trans q0))⟩, a4 _⟩
            have HAh : Hid (Calls Try.prog 12 #[.pointer (some ⟨B, 0, none⟩), .agg #[.int .i64 most, .slice p m c], .agg #[.int .i64 q.kind, .int .i64 q.n, .int .i64 q.m, .string q.tx]] (wr.alloc (.cells #[.int .i64 0, .slice none 0 0] 29)).drew fun e Y => ∃ s' p' m' c', e = .returned (.tuple #[.agg #[.int .i64 most, .slice p' m' c'], .bool true]) ∧ s'.most = most ∧ Kp et w wr Y ∧ Y.cell? ⟨wr.heap.size, 0, none⟩ = some (.int .i64 0) ∧ Y.cell? ⟨wr.heap.size, 1, none⟩ = some (.slice none 0 0) ∧ Y.frozen? ⟨wr.heap.size, 0, none⟩ = false ∧ Y.frozen? ⟨wr.heap.size, 1, none⟩ = false ∧ Hid (Nz w B et wr.heap.size s' (i + 1) p' m' c' ((Y.setCell ⟨wr.heap.size, 0, none⟩ (.int .i64 most)).setCell ⟨wr.heap.size, 1, none⟩ (.slice p' m' c')))) := by
              refine Calls.mono hAh ?_
              rintro e Y ⟨s', p', m', c', rfl, a1, a2, a3, a4, a5, a6, a7⟩
              exact ⟨s', p', m', c', rfl, a1, ⟨a2, a3, (World.block_lt_of_cell? Y ⟨et, 0, none⟩ ((World.cell?_of_block (a := ⟨et, 0, none⟩) a2).trans q0))⟩, a4, a5, a6 0, a6 1, a7⟩
            have HMs : Hid (s.most = most) := hms
            clear hms HI hX hPd hBe hAh hbd hetl
            go_wp2
            go_region_held (fun W => W.cell? ⟨et, 0, none⟩ = some (.int .i64 most) ∧ W.cell? ⟨et, 1, none⟩ = some (.slice p m c) ∧ W.cell? ⟨g, o + i * 4, none⟩ = some (.int .i64 q.kind) ∧ W.cell? ⟨g, o + i * 4 + 1, none⟩ = some (.int .i64 q.n) ∧ W.cell? ⟨g, o + i * 4 + 2, none⟩ = some (.int .i64 q.m) ∧ W.cell? ⟨g, o + i * 4 + 3, none⟩ = some (.string q.tx))
              (first | with_reducible exact HSw.out _ HK0.out | with_reducible exact HSw.out _ HKa.out | with_reducible exact HSw.out _ hkY | with_reducible exact HSw.out _ (Kp.alloc hkY _) | with_reducible exact HSw.out _ (Kp.fin hkY HNw.out.1 HNw.out.2 _ _))
              (first
                | (go_at_call 12; refine Calls.mono HBe.out ?_; rintro e Y ⟨s', p', m', c', rfl, hs', hkY, hz⟩; have HS' : Hid (s'.most = most) := hs'; have HZ : Hid _ := hz; clear hs' hz)
                | (go_at_call 12; refine Calls.mono HAh.out ?_; rintro e Y ⟨s', p', m', c', rfl, hs', hkY, y0, y1, g0, g1, hz⟩; have HS' : Hid (s'.most = most) := hs'; have HZ : Hid _ := hz; clear hs' hz))
            · clear hkY
              obtain ⟨Z, hZ⟩ : ∃ Z, Z = Y.alloc (.cells #[.int .i64 most, .slice p' m' c'] 29) := ⟨_, rfl⟩
              obtain ⟨en, hen⟩ : ∃ en, en = Y.heap.size := ⟨_, rfl⟩
              have HNz : Hid (Nz w B et en s' (i + 1) p' m' c' Z) := by rw [hZ, hen]; exact HZ.out
              have hnx := HNz.out.nx
              have hs' := HS'.out
              have e0 := HNz.out.e0
              have e1 := HNz.out.e1
              rw [hs'] at e0
              have hnZ : Nx w B et s' (i + 1) p' m' c' Z.drew := hnx.below (Below.refl _ _).drew
              have e1' : Z.drew.cell? ⟨en, 1, none⟩ = some (.slice p' m' c') := by rw [cell_drew]; exact e1
              have e0' : Z.drew.cell? ⟨en, 0, none⟩ = some (.int .i64 most) := by rw [cell_drew]; exact e0
              obtain ⟨x0, x1, k0, k1⟩ := hnZ.q
              have f0 := hnZ.f 0
              have f1 := hnZ.f 1
              have k0' := k0
              have k1' := k1
              rw [cell_drew] at k0' k1'
              have f0' : Z.frozen? ⟨et, 0, none⟩ = false := f0
              have f1' : Z.frozen? ⟨et, 1, none⟩ = false := f1
              have HP' : Hid (Pl w B et s' (i + 1) p' m' c' (fin2 Z.drew et (.int .i64 most) (.slice p' m' c'))) := by
                have q := hnZ.done
                rw [hs'] at q
                exact q
              have HLn : Hid (Calls Try.prog 13 #[.pointer (some ⟨B, 0, none⟩)] Z.drew fun e Y => e = .returned (.int .i64 (m' : Int)) ∧ Y = Z.drew) := by
                rw [hnZ.len]
                have q := hnZ.lenC
                rw [hnZ.len] at q
                exact q
              have HE1 : Hid (Z.drew.cell? ⟨en, 1, none⟩ = some (.slice p' m' c')) := e1'
              rw [← hZ, ← hen]
              clear hZ hen hnZ hnx hs' HNz HZ
              go_wp2
              go_region_held (fun W => W.cell? ⟨en, 1, none⟩ = some (.slice p' m' c'))
                (first | exact HE1.out | assumption)
                (first | (go_at_call 13; refine Calls.mono HLn.out ?_; rintro e Y2 ⟨rfl, hY2⟩; subst hY2))
              all_goals
                go_wp2
                go_roundw
                case rel => exact ⟨i + 1, m', c', s', p', by go_num, by omega, by omega, HS'.out, HP'⟩
                case measure => simp [intOf]; omega
            · clear hkY
              obtain ⟨Z, hZ⟩ : ∃ Z, Z = (Y.setCell ⟨wr.heap.size, 0, none⟩ (.int .i64 most)).setCell ⟨wr.heap.size, 1, none⟩ (.slice p' m' c') := ⟨_, rfl⟩
              obtain ⟨en, hen⟩ : ∃ en, en = wr.heap.size := ⟨_, rfl⟩
              have HNz : Hid (Nz w B et en s' (i + 1) p' m' c' Z) := by rw [hZ, hen]; exact HZ.out
              have hnx := HNz.out.nx
              have hs' := HS'.out
              have e0 := HNz.out.e0
              have e1 := HNz.out.e1
              rw [hs'] at e0
              have hnZ : Nx w B et s' (i + 1) p' m' c' Z.drew := hnx.below (Below.refl _ _).drew
              have e1' : Z.drew.cell? ⟨en, 1, none⟩ = some (.slice p' m' c') := by rw [cell_drew]; exact e1
              have e0' : Z.drew.cell? ⟨en, 0, none⟩ = some (.int .i64 most) := by rw [cell_drew]; exact e0
              obtain ⟨x0, x1, k0, k1⟩ := hnZ.q
              have f0 := hnZ.f 0
              have f1 := hnZ.f 1
              have k0' := k0
              have k1' := k1
              rw [cell_drew] at k0' k1'
              have f0' : Z.frozen? ⟨et, 0, none⟩ = false := f0
              have f1' : Z.frozen? ⟨et, 1, none⟩ = false := f1
              have HP' : Hid (Pl w B et s' (i + 1) p' m' c' (fin2 Z.drew et (.int .i64 most) (.slice p' m' c'))) := by
                have q := hnZ.done
                rw [hs'] at q
                exact q
              have HLn : Hid (Calls Try.prog 13 #[.pointer (some ⟨B, 0, none⟩)] Z.drew fun e Y => e = .returned (.int .i64 (m' : Int)) ∧ Y = Z.drew) := by
                rw [hnZ.len]
                have q := hnZ.lenC
                rw [hnZ.len] at q
                exact q
              have HE1 : Hid (Z.drew.cell? ⟨en, 1, none⟩ = some (.slice p' m' c')) := e1'
              rw [← hZ, ← hen]
              clear hZ hen hnZ hnx hs' HNz HZ
              go_wp2
              go_region_held (fun W => W.cell? ⟨en, 1, none⟩ = some (.slice p' m' c'))
                (first | exact HE1.out | assumption)
                (first | (go_at_call 13; refine Calls.mono HLn.out ?_; rintro e Y2 ⟨rfl, hY2⟩; subst hY2))
              all_goals
                go_wp2
                go_roundw
                case rel => exact ⟨i + 1, m', c', s', p', by go_num, by omega, by omega, HS'.out, HP'⟩
                case measure => simp [intOf]; omega
        · have hz1' : ¬ (4096 : Int) < (q.tx.size : Int) := by omega
          have hbd : Below wr.heap.size wr wr.drew := (Below.refl _ _).drew
          have hPd := HP.out.below hbd
          have hBe := does_behind hPd (by omega) q hq
          have hAh := does_ahead hPd (by omega) q hq 29
          rw [hms] at hBe hAh
          have hetl := HP.out.nx.et_lt
          have HK0 : Hid (Kp et w wr wr.drew) := ⟨rfl, HP.out.nx.old.drew, hetl⟩
          have HKa : Hid (Kp et w wr (wr.alloc (.cells #[.int .i64 0, .slice none 0 0] 29)).drew) := Kp.alloc (W := wr.drew) HK0.out _
          have HSw : Hid (∀ W, Kp et w wr W → W.cell? ⟨et, 0, none⟩ = some (.int .i64 most) ∧ W.cell? ⟨et, 1, none⟩ = some (.slice p m c) ∧ W.cell? ⟨g, o + i * 4, none⟩ = some (.int .i64 q.kind) ∧ W.cell? ⟨g, o + i * 4 + 1, none⟩ = some (.int .i64 q.n) ∧ W.cell? ⟨g, o + i * 4 + 2, none⟩ = some (.int .i64 q.m) ∧ W.cell? ⟨g, o + i * 4 + 3, none⟩ = some (.string q.tx)) := fun W hW => ⟨(World.cell?_of_block (a := ⟨et, 0, none⟩) hW.1).trans q0, (World.cell?_of_block (a := ⟨et, 1, none⟩) hW.1).trans q1, hX W hW.2.1⟩
          have HNw : Hid (et ≠ wr.heap.size ∧ w.heap.size ≤ wr.heap.size) := ⟨by omega, HP.out.nx.old.size⟩
          have HBe : Hid (Calls Try.prog 12 #[.pointer (some ⟨B, 0, none⟩), .agg #[.int .i64 most, .slice p m c], .agg #[.int .i64 q.kind, .int .i64 q.n, .int .i64 q.m, .string q.tx]] wr.drew fun e Y => ∃ s' p' m' c', e = .returned (.tuple #[.agg #[.int .i64 most, .slice p' m' c'], .bool true]) ∧ s'.most = most ∧ Kp et w wr Y ∧ Hid (Nz w B et Y.heap.size s' (i + 1) p' m' c' (Y.alloc (.cells #[.int .i64 most, .slice p' m' c'] 29)))) := by
            refine Calls.mono hBe ?_
            rintro e Y ⟨s', p', m', c', rfl, a1, a2, a3, a4⟩
            exact ⟨s', p', m', c', rfl, a1, ⟨a2, a3, (World.block_lt_of_cell? Y ⟨et, 0, none⟩ ((World.cell?_of_block (a := ⟨et, 0, none⟩) a2).trans q0))⟩, a4 _⟩
          have HAh : Hid (Calls Try.prog 12 #[.pointer (some ⟨B, 0, none⟩), .agg #[.int .i64 most, .slice p m c], .agg #[.int .i64 q.kind, .int .i64 q.n, .int .i64 q.m, .string q.tx]] (wr.alloc (.cells #[.int .i64 0, .slice none 0 0] 29)).drew fun e Y => ∃ s' p' m' c', e = .returned (.tuple #[.agg #[.int .i64 most, .slice p' m' c'], .bool true]) ∧ s'.most = most ∧ Kp et w wr Y ∧ Y.cell? ⟨wr.heap.size, 0, none⟩ = some (.int .i64 0) ∧ Y.cell? ⟨wr.heap.size, 1, none⟩ = some (.slice none 0 0) ∧ Y.frozen? ⟨wr.heap.size, 0, none⟩ = false ∧ Y.frozen? ⟨wr.heap.size, 1, none⟩ = false ∧ Hid (Nz w B et wr.heap.size s' (i + 1) p' m' c' ((Y.setCell ⟨wr.heap.size, 0, none⟩ (.int .i64 most)).setCell ⟨wr.heap.size, 1, none⟩ (.slice p' m' c')))) := by
            refine Calls.mono hAh ?_
            rintro e Y ⟨s', p', m', c', rfl, a1, a2, a3, a4, a5, a6, a7⟩
            exact ⟨s', p', m', c', rfl, a1, ⟨a2, a3, (World.block_lt_of_cell? Y ⟨et, 0, none⟩ ((World.cell?_of_block (a := ⟨et, 0, none⟩) a2).trans q0))⟩, a4, a5, a6 0, a6 1, a7⟩
          have HMs : Hid (s.most = most) := hms
          clear hms HI hX hPd hBe hAh hbd hetl
          go_wp2
          go_region_held (fun W => W.cell? ⟨et, 0, none⟩ = some (.int .i64 most) ∧ W.cell? ⟨et, 1, none⟩ = some (.slice p m c) ∧ W.cell? ⟨g, o + i * 4, none⟩ = some (.int .i64 q.kind) ∧ W.cell? ⟨g, o + i * 4 + 1, none⟩ = some (.int .i64 q.n) ∧ W.cell? ⟨g, o + i * 4 + 2, none⟩ = some (.int .i64 q.m) ∧ W.cell? ⟨g, o + i * 4 + 3, none⟩ = some (.string q.tx))
            (first | with_reducible exact HSw.out _ HK0.out | with_reducible exact HSw.out _ HKa.out | with_reducible exact HSw.out _ hkY | with_reducible exact HSw.out _ (Kp.alloc hkY _) | with_reducible exact HSw.out _ (Kp.fin hkY HNw.out.1 HNw.out.2 _ _))
            (first
              | (go_at_call 12; refine Calls.mono HBe.out ?_; rintro e Y ⟨s', p', m', c', rfl, hs', hkY, hz⟩; have HS' : Hid (s'.most = most) := hs'; have HZ : Hid _ := hz; clear hs' hz)
              | (go_at_call 12; refine Calls.mono HAh.out ?_; rintro e Y ⟨s', p', m', c', rfl, hs', hkY, y0, y1, g0, g1, hz⟩; have HS' : Hid (s'.most = most) := hs'; have HZ : Hid _ := hz; clear hs' hz))
          · clear hkY
            obtain ⟨Z, hZ⟩ : ∃ Z, Z = Y.alloc (.cells #[.int .i64 most, .slice p' m' c'] 29) := ⟨_, rfl⟩
            obtain ⟨en, hen⟩ : ∃ en, en = Y.heap.size := ⟨_, rfl⟩
            have HNz : Hid (Nz w B et en s' (i + 1) p' m' c' Z) := by rw [hZ, hen]; exact HZ.out
            have hnx := HNz.out.nx
            have hs' := HS'.out
            have e0 := HNz.out.e0
            have e1 := HNz.out.e1
            rw [hs'] at e0
            have hnZ : Nx w B et s' (i + 1) p' m' c' Z.drew := hnx.below (Below.refl _ _).drew
            have e1' : Z.drew.cell? ⟨en, 1, none⟩ = some (.slice p' m' c') := by rw [cell_drew]; exact e1
            have e0' : Z.drew.cell? ⟨en, 0, none⟩ = some (.int .i64 most) := by rw [cell_drew]; exact e0
            obtain ⟨x0, x1, k0, k1⟩ := hnZ.q
            have f0 := hnZ.f 0
            have f1 := hnZ.f 1
            have k0' := k0
            have k1' := k1
            rw [cell_drew] at k0' k1'
            have f0' : Z.frozen? ⟨et, 0, none⟩ = false := f0
            have f1' : Z.frozen? ⟨et, 1, none⟩ = false := f1
            have HP' : Hid (Pl w B et s' (i + 1) p' m' c' (fin2 Z.drew et (.int .i64 most) (.slice p' m' c'))) := by
              have q := hnZ.done
              rw [hs'] at q
              exact q
            have HLn : Hid (Calls Try.prog 13 #[.pointer (some ⟨B, 0, none⟩)] Z.drew fun e Y => e = .returned (.int .i64 (m' : Int)) ∧ Y = Z.drew) := by
              rw [hnZ.len]
              have q := hnZ.lenC
              rw [hnZ.len] at q
              exact q
            have HE1 : Hid (Z.drew.cell? ⟨en, 1, none⟩ = some (.slice p' m' c')) := e1'
            rw [← hZ, ← hen]
            clear hZ hen hnZ hnx hs' HNz HZ
            go_wp2
            go_region_held (fun W => W.cell? ⟨en, 1, none⟩ = some (.slice p' m' c'))
              (first | exact HE1.out | assumption)
              (first | (go_at_call 13; refine Calls.mono HLn.out ?_; rintro e Y2 ⟨rfl, hY2⟩; subst hY2))
            all_goals
              go_wp2
              go_roundw
              case rel => exact ⟨i + 1, m', c', s', p', by go_num, by omega, by omega, HS'.out, HP'⟩
              case measure => simp [intOf]; omega
          · clear hkY
            obtain ⟨Z, hZ⟩ : ∃ Z, Z = (Y.setCell ⟨wr.heap.size, 0, none⟩ (.int .i64 most)).setCell ⟨wr.heap.size, 1, none⟩ (.slice p' m' c') := ⟨_, rfl⟩
            obtain ⟨en, hen⟩ : ∃ en, en = wr.heap.size := ⟨_, rfl⟩
            have HNz : Hid (Nz w B et en s' (i + 1) p' m' c' Z) := by rw [hZ, hen]; exact HZ.out
            have hnx := HNz.out.nx
            have hs' := HS'.out
            have e0 := HNz.out.e0
            have e1 := HNz.out.e1
            rw [hs'] at e0
            have hnZ : Nx w B et s' (i + 1) p' m' c' Z.drew := hnx.below (Below.refl _ _).drew
            have e1' : Z.drew.cell? ⟨en, 1, none⟩ = some (.slice p' m' c') := by rw [cell_drew]; exact e1
            have e0' : Z.drew.cell? ⟨en, 0, none⟩ = some (.int .i64 most) := by rw [cell_drew]; exact e0
            obtain ⟨x0, x1, k0, k1⟩ := hnZ.q
            have f0 := hnZ.f 0
            have f1 := hnZ.f 1
            have k0' := k0
            have k1' := k1
            rw [cell_drew] at k0' k1'
            have f0' : Z.frozen? ⟨et, 0, none⟩ = false := f0
            have f1' : Z.frozen? ⟨et, 1, none⟩ = false := f1
            have HP' : Hid (Pl w B et s' (i + 1) p' m' c' (fin2 Z.drew et (.int .i64 most) (.slice p' m' c'))) := by
              have q := hnZ.done
              rw [hs'] at q
              exact q
            have HLn : Hid (Calls Try.prog 13 #[.pointer (some ⟨B, 0, none⟩)] Z.drew fun e Y => e = .returned (.int .i64 (m' : Int)) ∧ Y = Z.drew) := by
              rw [hnZ.len]
              have q := hnZ.lenC
              rw [hnZ.len] at q
              exact q
            have HE1 : Hid (Z.drew.cell? ⟨en, 1, none⟩ = some (.slice p' m' c')) := e1'
            rw [← hZ, ← hen]
            clear hZ hen hnZ hnx hs' HNz HZ
            go_wp2
            go_region_held (fun W => W.cell? ⟨en, 1, none⟩ = some (.slice p' m' c'))
              (first | exact HE1.out | assumption)
              (first | (go_at_call 13; refine Calls.mono HLn.out ?_; rintro e Y2 ⟨rfl, hY2⟩; subst hY2))
            all_goals
              go_wp2
              go_roundw
              case rel => exact ⟨i + 1, m', c', s', p', by go_num, by omega, by omega, HS'.out, HP'⟩
              case measure => simp [intOf]; omega
      · have hi2 : ¬ (i : Int) < 300 := by omega
        have hi1 : (i : Int) < (n0 : Int) := by omega
        have hmle : m ≤ i := HP.out.nx.mle
        have HP2 : Hid (Pl w B et s i p m c wr) := HP
        obtain ⟨tot, htot⟩ : ∃ tot : Nat, i + m ≤ tot ∧ tot ≤ 600 := ⟨i + m, Nat.le_refl _, by omega⟩
        have HTot : Hid (i + m ≤ tot ∧ tot ≤ 600) := htot
        clear hmle htot HI
        go_wp2
        clear hin hi3
        go_loopw [13] (fun _iv wr => ∃ (n m c : Nat) (s : Q.St) (p : Option Addr), n + m ≤ tot ∧ s.most = most ∧ Hid (Pl w B et s n p m c wr)) (fun _ wr => lenAt wr et)
        case atStart => exact ⟨i, m, c, s, p, HTot.out.1, hms, HP2⟩
        case round =>
          clear HP HP2 hms
          obtain ⟨n, m, c, s, p, hnm, hms, HP⟩ := hrel
          have q0 := HP.out.q0
          rw [hms] at q0
          have q1 := HP.out.q1
          have HLa : Hid (lenAt wr et = m) := lenAt_of q1
          by_cases hm0 : 0 < m
          · have hm1 : (0 : Int) < (m : Int) := by omega
            have HD := does_one HP.out (by have := HTot.out; omega) hm0
            rw [hms] at HD
            have HDo : Hid _ := HD
            have HMs : Hid (s.most = most) := hms
            have HNm : Hid (n + m ≤ tot) := hnm
            clear HD hms hnm
            go_wp2_with fail
            refine Calls.mono HDo.out ?_
            rintro e Y ⟨s', p', m', c', rfl, hs', hm', hnx⟩
            have HS' : Hid (s'.most = most ∧ m' + 1 = m) := ⟨hs', hm'⟩
            clear q0 q1
            obtain ⟨en, hen⟩ : ∃ en, en = Y.heap.size := ⟨_, rfl⟩
            obtain ⟨Z, hZ⟩ : ∃ Z, Z = Y.alloc (.cells #[.int .i64 most, .slice p' m' c'] 29) := ⟨_, rfl⟩
            have hbZ : Below Y.heap.size Y Z := by rw [hZ]; exact below_alloc _ _
            have hnZ : Nx w B et s' (n + 1) p' m' c' Z := hnx.below hbZ
            have e0 : Z.cell? ⟨en, 0, none⟩ = some (.int .i64 most) := by rw [hZ]; exact (cell_new Y _ _ hen.symm 0).1
            have e1 : Z.cell? ⟨en, 1, none⟩ = some (.slice p' m' c') := by rw [hZ]; exact (cell_new Y _ _ hen.symm 1).1
            obtain ⟨x0, x1, k0, k1⟩ := hnZ.q
            have f0 := hnZ.f 0
            have f1 := hnZ.f 1
            have HP' : Hid (Pl w B et s' (n + 1) p' m' c' (fin2 Z et (.int .i64 most) (.slice p' m' c'))) := by
              have q := hnZ.done
              rw [hs'] at q
              exact q
            have HLn : Hid (lenAt (fin2 Z et (.int .i64 most) (.slice p' m' c')) et = m') := lenAt_of HP'.out.q1
            have HZ : Hid (Z = Y.alloc (.cells #[.int .i64 most, .slice p' m' c'] 29) ∧ en = Y.heap.size) := ⟨hZ, hen⟩
            rw [hZ, hen] at e0 e1
            rw [hZ] at k0 k1 f0 f1
            clear hZ hen hbZ hnZ hnx hs' hm' hm1
            go_wp2
            rw [← HZ.out.1]
            go_roundw
            case rel => exact ⟨n + 1, m', c', s', p', by have := HNm.out; have := HS'.out.2; omega, HS'.out.1, HP'⟩
            case measure =>
              show lenAt (fin2 Z et (.int .i64 most) (.slice p' m' c')) et < lenAt wr et
              rw [HLn.out, HLa.out]
              have := HS'.out.2
              omega
          · obtain rfl : m = 0 := by omega
            have HLen : Hid _ := HP.out.nx.lenC
            clear hm0
            go_wp2_with fail
            refine Calls.mono HLen.out ?_
            rintro e Y ⟨rfl, hY⟩
            subst hY
            go_wp2_with fail
            refine (HA.out _).mono ?_
            rintro e w3 ⟨rfl, hb3⟩
            have HB3 : Hid _ := hb3
            clear hb3
            go_wp2
            go_ret
            exact ⟨rfl, HP.out.nx.old.trans (HB3.out.mono HP.out.nx.old.size)⟩
    · have hi1 : ¬ (i : Int) < (n0 : Int) := by omega
      have hmle : m ≤ i := HP.out.nx.mle
      have HP2 : Hid (Pl w B et s i p m c wr) := HP
      obtain ⟨tot, htot⟩ : ∃ tot : Nat, i + m ≤ tot ∧ tot ≤ 600 := ⟨i + m, Nat.le_refl _, by omega⟩
      have HTot : Hid (i + m ≤ tot ∧ tot ≤ 600) := htot
      clear hmle htot HI
      go_wp2
      clear hin hi3
      go_loopw [13] (fun _iv wr => ∃ (n m c : Nat) (s : Q.St) (p : Option Addr), n + m ≤ tot ∧ s.most = most ∧ Hid (Pl w B et s n p m c wr)) (fun _ wr => lenAt wr et)
      case atStart => exact ⟨i, m, c, s, p, HTot.out.1, hms, HP2⟩
      case round =>
        clear HP HP2 hms
        obtain ⟨n, m, c, s, p, hnm, hms, HP⟩ := hrel
        have q0 := HP.out.q0
        rw [hms] at q0
        have q1 := HP.out.q1
        have HLa : Hid (lenAt wr et = m) := lenAt_of q1
        by_cases hm0 : 0 < m
        · have hm1 : (0 : Int) < (m : Int) := by omega
          have HD := does_one HP.out (by have := HTot.out; omega) hm0
          rw [hms] at HD
          have HDo : Hid _ := HD
          have HMs : Hid (s.most = most) := hms
          have HNm : Hid (n + m ≤ tot) := hnm
          clear HD hms hnm
          go_wp2_with fail
          refine Calls.mono HDo.out ?_
          rintro e Y ⟨s', p', m', c', rfl, hs', hm', hnx⟩
          have HS' : Hid (s'.most = most ∧ m' + 1 = m) := ⟨hs', hm'⟩
          clear q0 q1
          obtain ⟨en, hen⟩ : ∃ en, en = Y.heap.size := ⟨_, rfl⟩
          obtain ⟨Z, hZ⟩ : ∃ Z, Z = Y.alloc (.cells #[.int .i64 most, .slice p' m' c'] 29) := ⟨_, rfl⟩
          have hbZ : Below Y.heap.size Y Z := by rw [hZ]; exact below_alloc _ _
          have hnZ : Nx w B et s' (n + 1) p' m' c' Z := hnx.below hbZ
          have e0 : Z.cell? ⟨en, 0, none⟩ = some (.int .i64 most) := by rw [hZ]; exact (cell_new Y _ _ hen.symm 0).1
          have e1 : Z.cell? ⟨en, 1, none⟩ = some (.slice p' m' c') := by rw [hZ]; exact (cell_new Y _ _ hen.symm 1).1
          obtain ⟨x0, x1, k0, k1⟩ := hnZ.q
          have f0 := hnZ.f 0
          have f1 := hnZ.f 1
          have HP' : Hid (Pl w B et s' (n + 1) p' m' c' (fin2 Z et (.int .i64 most) (.slice p' m' c'))) := by
            have q := hnZ.done
            rw [hs'] at q
            exact q
          have HLn : Hid (lenAt (fin2 Z et (.int .i64 most) (.slice p' m' c')) et = m') := lenAt_of HP'.out.q1
          have HZ : Hid (Z = Y.alloc (.cells #[.int .i64 most, .slice p' m' c'] 29) ∧ en = Y.heap.size) := ⟨hZ, hen⟩
          rw [hZ, hen] at e0 e1
          rw [hZ] at k0 k1 f0 f1
          clear hZ hen hbZ hnZ hnx hs' hm' hm1
          go_wp2
          rw [← HZ.out.1]
          go_roundw
          case rel => exact ⟨n + 1, m', c', s', p', by have := HNm.out; have := HS'.out.2; omega, HS'.out.1, HP'⟩
          case measure =>
            show lenAt (fin2 Z et (.int .i64 most) (.slice p' m' c')) et < lenAt wr et
            rw [HLn.out, HLa.out]
            have := HS'.out.2
            omega
        · obtain rfl : m = 0 := by omega
          have HLen : Hid _ := HP.out.nx.lenC
          clear hm0
          go_wp2_with fail
          refine Calls.mono HLen.out ?_
          rintro e Y ⟨rfl, hY⟩
          subst hY
          go_wp2_with fail
          refine (HA.out _).mono ?_
          rintro e w3 ⟨rfl, hb3⟩
          have HB3 : Hid _ := hb3
          clear hb3
          go_wp2
          go_ret
          exact ⟨rfl, HP.out.nx.old.trans (HB3.out.mono HP.out.nx.old.size)⟩

theorem walk (a0 : Int) (v1 : Value) (a1 : List Op8) (w : World) (_b0 : -9223372036854775808 ≤ a0 ∧ a0 ≤ 9223372036854775807) (b1 : Elems w 4 opCells Op8In v1 a1) :
    Calls Try.prog 3 #[.int .i64 a0, v1] w fun e w' => e = .returned (.bool true) ∧ Below w.heap.size w w' := by
  by_cases h : a0 < 1 ∨ a0 > 4096
  · exact walk_out a0 v1 w h
  · exact walk_in a0 (by omega) v1 a1 w b1

theorem laidOut : laidOutB Try.prog = true := by kernel_rfl

theorem own : ownKnob Try.prog.godebug = none := by kernel_rfl

set_option maxRecDepth 100000 in
theorem lifted (os : Os) (started : os.Started) (H : Type) (enc : TypeId × Value → H) :
    ReturnsInHanded {} Try.checked os 3 .any (Rows.netPlaysSpec.pre6 enc Try.prog Try.f3 Rows.netPlaysRow.domain false) (Rows.netPlaysSpec.post enc Try.prog Try.f3 false true false false) := by
  refine returnsInHanded_of_change_sized (C := Try.checked) own started (by kernel_rfl) Try.func3
    (ChangeSpec.witness6 (enc := enc) (C := Try.checked) false ⟨#[], #[.int .i64 0, .slice none 0 0], []⟩ 8 (by kernel_rfl) (by kernel_rfl) (by kernel_rfl) (by kernel_rfl)) ?_
  intro W base args ds gs before hval0 hW _ hsz0 _
  have hsz : (DataW.weightsEach Try.prog (Try.f3.params.toList ++ Rows.netPlaysSpec.plain.varTypes Try.prog) (ds ++ gs)).all (· ≤ reachBytes) = true := hsz0
  have hval : ∀ (j : Nat) t v, Try.f3.params[j]? = some t → args[j]? = some v → Value.okWide Try.prog W .any base t v := hval0
  have hW' := hW
  obtain ⟨p, q, hA0, hV, rfl, hfz, hnd⟩ := hW
  have hA : DataW.TrodAll enc Try.prog W 0 (fun _ => true) true Try.f3.params.toList args.toList ds p := hA0
  rw [Try.params3] at hA hval hsz
  obtain ⟨v0, vs0, d0, ds0, p0, q0, hargs, rfl, rfl, h0, r0⟩ := trodAll_cons hA
  obtain ⟨v1, vs1, d1, ds1, p1, q1, rfl, rfl, rfl, h1, r1⟩ := trodAll_cons r0
  obtain ⟨rfl, rfl, rfl⟩ := trodAll_nil r1
  obtain rfl : args = #[v0, v1] := by cases args; simp_all
  obtain ⟨rfl, rfl⟩ := trodVars_none hV
  obtain ⟨a0, rfl, rfl, rfl, w0⟩ := open_int Try.underlying3 (hval 0 3 v0 rfl rfl) h0
  have b0 : -9223372036854775808 ≤ a0 ∧ a0 ≤ 9223372036854775807 := by simpa [Lit.wf, IntKind.min, IntKind.max, IntKind.signed, IntKind.bits] using w0
  have k1 := h1
  have lt1 : ∀ x ∈ p1, x.block < W.heap.size := by obtain ⟨m, hm⟩ := k1; exact DataW.trod_lt m _ _ _ hm
  obtain ⟨a1, b1⟩ := open_ops8 (hval 1 22 v1 rfl rfl) h1
  clear hA0 hval0 hsz0
  refine (walk a0 v1 a1 W b0 b1).mono fun e W' ⟨he, bel⟩ => ?_
  subst he
  exact ⟨_, rfl, _, _, _, [], _, [], hW', trodAll_mk1 (shut_bool Try.underlying4 _), (trodAll_cons_mk (shut_int Try.underlying3 w0) (trodAll_cons_mk (Below.trod laidOut (by kernel_rfl) (of_decide_eq_true (by kernel_rfl)) k1 bel lt1) trodAll_mk0)), rfl, bel.frame _, fun h => by cases h⟩

theorem over : Rows.netPlaysRow.holds Try.pinned (OpenSpec.ofChange Rows.netPlaysSpec) :=
  OpenClaim.holds_of_wide 3 Try.f3 rfl rfl rfl rfl rfl rfl rfl ⟨rfl, rfl, rfl, rfl, rfl⟩ rfl rfl rfl rfl rfl (by kernel_rfl) Try.func3 (by kernel_rfl)
    (of_decide_eq_true (by kernel_rfl)) (by unfold Func.isWrapper; first | (rw [if_pos (by decide +kernel)]; kernel_rfl) | (rw [if_neg (by decide +kernel)]; exact ⟨rfl, rfl⟩))
    (fun os started H enc _ => lifted os started H enc)


end Go.Proofs.Ytpopanfefpehnaa.netPlays
namespace Go.Proofs.Ytpopanfefpehnaa
/-- The statement. -/
theorem netPlays_holds : Rows.NetPlaysSaid := netPlays.over
end Go.Proofs.Ytpopanfefpehnaa
