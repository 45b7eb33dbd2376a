/-
  For every number and all lists of pairs of numbers: SlotsBack answers true: a map as bytes, and back, goes on as it would have; the arguments read afterwards as before. No condition.
-/
import Derived.Test.YtmdnegjpdedcnabSlBk
import Derived.Test.YtmdnegjpdedcnabSlArgs
import Derived.ProofKit
import Derived.OpenShut
import Derived.ShutString
import Derived.SizedLaws
import Derived.Deep.RegionHeld
import Derived.StillTailTactics
import Derived.Deep.RegionHeld3
namespace Go.Proofs.Ytmdnegjpdedcnab.slotsBack
open Go.ChangeShapes Go.WideShapes Go.ChangeAt Go.RowKit
open Go.ChangeMaps (open_string shut_string)

/-- An operation that only reads is taken first. -/
theorem take7 {P : Program} {md : Region.Mode} {ops : Array Oper} {Q : Exit → Act → World → Prop} {S : World → Prop} {i d : Nat} {oi : Oper} {v : Value} {fuel : Nat} {listed : Array Bool} {a : Act} {w : World} (hi : ops[i]? = some oi) (hd : oi.dst = some d)
    (hs : Region.noSelect ops = true) (hf : Region.free md ops listed i = true) (hr : (Region.ready md ops listed).contains i = true)
    (hQ : ∀ c a w, Q (.panic c) (a.put (some d) v) w → Q (.panic c) a w) (hy : YieldsIf P ops S oi v a) (hS : S w)
    (h : wpAnyH P md ops Q S fuel (listed.setIfInBounds i true) (a.put (some d) v) w) : wpAnyH P md ops Q S (fuel + 1) listed a w :=
  wpAnyH_take hi hs hf hr (by rw [hd]; exact hQ) hy hS (by rw [hd]; exact h)

theorem stepCall {P : Program} {w : World} {ops : Array Oper} {o : Oper} {a : Act} {K : Act → World → Prop} {Q : Exit → Act → World → Prop} {E : Prop} (d : Nat) (hd : o.dst = some d) (hgd : o.guard = none) (f : FuncId) (args : Array Value)
    (hrun : (execOp a.eval o).run P w = .ok (.enter f args) w) {R : Ending → World → Prop} (hc : Calls P f args w R) (h : ∀ e w', R e w' → ∃ v, e = .returned v ∧ K (a.put (some d) v) w') :
    if Region.wanted o (yielded ops a.tmps) = true then Oper.wp P o a w K Q else E := by
  have hw : Region.wanted o (yielded ops a.tmps) = true := by simp [Region.wanted, hgd]
  rw [if_pos hw]
  unfold Oper.wp
  rw [hrun, Oper.upon_enter]
  refine hc.mono fun e w'' hh => ?_
  obtain ⟨v, rfl, hk⟩ := h e w'' hh
  show K (a.put o.dst v) w''
  rw [hd]
  exact hk

set_option maxHeartbeats 6400000 in
set_option maxRecDepth 20000 in
theorem walk (a0 : Int) (v1 : Value) (l1 : List (Int × Int)) (v2 : Value) (l2 : List (Int × Int)) (w : World) (_b0 : -9223372036854775808 ≤ a0 ∧ a0 ≤ 9223372036854775807) (_b1 : Elems w 2 a2Cells A2In v1 l1) (_b2 : Elems w 2 a2Cells A2In v2 l2) :
    Calls Try.prog 3 #[.int .i64 a0, v1, v2] w fun e w' => e = .returned (.bool true) ∧ Below w.heap.size w w' := by
  have HA : Hid (∀ u : World, Calls Try.prog 15 #[] u fun e w' => e = .returned (.bool true) ∧ Below u.heap.size u w') := awake_c
  obtain ⟨p7, c7, hv7, hc7, hd7, hgood7, hcells7⟩ := _b1
  obtain ⟨n7, hn7⟩ : ∃ n7, n7 = l1.length := ⟨_, rfl⟩
  rw [← hn7] at hv7 hc7
  obtain ⟨p0, c0, hv0, hc0, hd0, hgood0, hcells0⟩ := _b2
  obtain ⟨n0, hn0⟩ : ∃ n0, n0 = l2.length := ⟨_, rfl⟩
  rw [← hn0] at hv0 hc0
  have HI7 : Hid (∀ k, k < n7 → ∃ x y g o, p7 = some ⟨g, o, none⟩ ∧ ∀ X, Below w.heap.size w X → X.cell? ⟨g, o + k * 2, none⟩ = some (.int .i64 x) ∧ X.cell? ⟨g, o + k * 2 + 1, none⟩ = some (.int .i64 y)) := by
    intro k hk
    obtain ⟨q, hq⟩ : ∃ q, l1[k]? = some q := ⟨_, List.getElem?_eq_getElem (by omega)⟩
    rcases hcells7 with h | ⟨g, o, hp, hg, hcs⟩
    · rw [h] at hq
      simp at hq
    · refine ⟨q.1, q.2, g, o, hp, fun X hX => ?_⟩
      have e : ∀ j, X.cell? ⟨g, j, none⟩ = w.cell? ⟨g, j, none⟩ := fun j => hX.cell (p := ⟨g, j, none⟩) hg
      rw [e, e]
      exact ⟨hcs k q hq 0 _ rfl, hcs k q hq 1 _ rfl⟩
  have HI : Hid (∀ k, k < n0 → ∃ x y g o, p0 = some ⟨g, o, none⟩ ∧ ∀ X, Below w.heap.size w X → X.cell? ⟨g, o + k * 2, none⟩ = some (.int .i64 x) ∧ X.cell? ⟨g, o + k * 2 + 1, none⟩ = some (.int .i64 y)) := by
    intro k hk
    obtain ⟨q, hq⟩ : ∃ q, l2[k]? = some q := ⟨_, List.getElem?_eq_getElem (by omega)⟩
    rcases hcells0 with h | ⟨g, o, hp, hg, hcs⟩
    · rw [h] at hq
      simp at hq
    · refine ⟨q.1, q.2, g, o, hp, fun X hX => ?_⟩
      have e : ∀ j, X.cell? ⟨g, j, none⟩ = w.cell? ⟨g, j, none⟩ := fun j => hX.cell (p := ⟨g, j, none⟩) hg
      rw [e, e]
      exact ⟨hcs k q hq 0 _ rfl, hcs k q hq 1 _ rfl⟩
  subst hv7 hv0
  have hcm := hd7
  unfold maxLen at hcm
  have hcm0 := hd0
  unfold maxLen at hcm0
  obtain ⟨k, hk, hk1, hk8⟩ : ∃ k : Nat, 1 + a0 % 8 = (k : Int) ∧ 1 ≤ k ∧ k ≤ 8 := ⟨(1 + a0 % 8).toNat, by omega, by omega, by omega⟩
  have hand : bits BinOp.and IntKind.i64 a0 7 = (k : Int) - 1 := by rw [and_7]; omega
  have hkw : (1 : Int) + ((k : Int) - 1) = (k : Int) := by omega
  have HNew : Hid _ := NewS_sn w w (Below.refl _ _) k ⟨hk1, hk8⟩
  have HRN : Hid (∀ W, Calls Try.prog 9 #[.int .i64 (k : Int)] W fun e w' => ∃ vo ve, e = .returned (.tuple #[.agg #[vo, ve], .int .i64 0]) ∧ Rm w' vo ve (Sl.new k) ∧ Below W.heap.size W w' ∧ (∀ q, aBlk vo = some q → W.heap.size ≤ q) ∧ ∀ q, aBlk ve = some q → W.heap.size ≤ q) := fun W => rNewS_yes k ⟨hk1, hk8⟩ W
  obtain ⟨B, hB⟩ : ∃ B, B = w.heap.size := ⟨_, rfl⟩
  clear hk hn7 hn0 hgood7 hgood0 hcells7 hcells0 hd7 hd0 _b0
  go_enter Try.func3, Try.ntmps3
  go_wp2_with fail
  refine Calls.mono HNew.out ?_
  rintro e w1 ⟨rfl, h1, -⟩
  rw [← hB] at h1 ⊢
  have HS1 : Hid (Sn w w1 B (Sl.new k)) := h1
  clear h1 hB HNew
  go_wp2_with fail
  refine (HRN.out w1).mono ?_
  rintro e w2 ⟨vo, ve, rfl, h2, h3, h4, h5⟩
  obtain ⟨a1, b1, d1, a2, b2, d2, e1, e2⟩ := h2.shapes
  have hp := Pl.start HS1.out h3 h2 h4 h5
  subst e1 e2
  obtain ⟨X, hX⟩ : ∃ X, X = w2.alloc (.cells #[.slice (some ⟨a1, b1, none⟩) 16 d1, .slice (some ⟨a2, b2, none⟩) 16 d2] 29) := ⟨_, rfl⟩
  obtain ⟨bq, hbq⟩ : ∃ bq, bq = w2.heap.size := ⟨_, rfl⟩
  rw [← hX, ← hbq] at hp
  have HP : Hid (Pl w B bq (Sl.new k) (.slice (some ⟨a1, b1, none⟩) 16 d1) (.slice (some ⟨a2, b2, none⟩) 16 d2) X) := hp
  clear h2 h3 h4 h5 hp HRN HS1 hand hkw hk1 hk8
  go_wp2
  rw [← hX, ← hbq]
  clear hX hbq
  go_loopw [11] (fun x wr => ∃ (i : Nat) (s : Sl.St) (vo ve : Value), x = .int .i64 (i : Int) ∧ i ≤ n7 ∧ i ≤ 100 ∧ Hid (Pl w B bq s vo ve wr)) (fun x _ => 100 - (intOf x).toNat)
  case atStart => exact ⟨0, _, _, _, rfl, by omega, by omega, HP⟩
  case round =>
    clear HP
    obtain ⟨i, s, vo, ve, rfl, hin, hi200, HP⟩ := hrel
    obtain ⟨a1, b1, d1, a2, b2, d2, e1, e2⟩ := (Pb.rm HP.out).shapes
    subst e1 e2
    by_cases hgo : i < n7 ∧ i < 100
    · obtain ⟨hlt, hlt2⟩ := hgo
      obtain ⟨x, y, g, o, hp, hX⟩ := HI7.out i hlt
      subst hp
      have HX : Hid _ := hX
      have HOld : Hid (Below w.heap.size w wr) := (Pb.sn HP.out).old
      obtain ⟨y0, y1⟩ := hX wr HOld.out
      have HOk : Hid (Sl.Ok s) := (Pb.sn HP.out).sm.ok
      have HGv : Hid (Calls Try.prog 10 #[.pointer (some ⟨B, 0, none⟩), .int .i64 x, .int .i64 y] wr.drew fun e w' => e = .returned (.int .i64 (Sl.giveE s x y : Int)) ∧ Pb w B bq bq (Sl.give s x y) s (.slice (some ⟨a1, b1, none⟩) 16 d1) (.slice (some ⟨a2, b2, none⟩) 16 d2) w') := by
        have hd := Pb.below HP.out (below_drew wr)
        refine (GiveS_c hd.sn.sm x y).mono ?_
        rintro e w' ⟨rfl, h2⟩
        exact ⟨rfl, hd.aft h2⟩
      obtain ⟨en, hen⟩ : ∃ en, en = Sl.giveE s x y := ⟨_, rfl⟩
      rw [← hen] at HGv
      clear hX hen
      go_wp2
      go_region_held (fun W => W.cell? ⟨g, o + i * 2, none⟩ = some (.int .i64 x) ∧ W.cell? ⟨g, o + i * 2 + 1, none⟩ = some (.int .i64 y)) (first | exact ⟨y0, y1⟩ | exact ⟨z0, z1⟩)
        ((go_at_call 10; refine Calls.mono HGv.out ?_; rintro e Z ⟨rfl, h2⟩; obtain ⟨z0, z1⟩ := HX.out Z (Pb.sn h2).old; have H2 : Hid _ := h2; clear h2))
      have q0 := Pb.c0 H2.out
      have q1 := Pb.c1 H2.out
      have HRg : Hid _ := rGive_over H2.out HOk.out
      have HOlz : Hid (Below w.heap.size w Z) := (Pb.sn H2.out).old
      clear y0 y1 HGv
      go_wp2
      have hSd : Z.drew.cell? ⟨g, o + i * 2, none⟩ = some (.int .i64 x) ∧ Z.drew.cell? ⟨g, o + i * 2 + 1, none⟩ = some (.int .i64 y) := ⟨z0, z1⟩
      refine wp_region_held_drew (S := fun W => W.cell? ⟨g, o + i * 2, none⟩ = some (.int .i64 x) ∧ W.cell? ⟨g, o + i * 2 + 1, none⟩ = some (.int .i64 y)) (by kernel_rfl) hSd (fun hHeld => ?_)
      have hi0 : (0 : Int) ≤ (i : Int) := Int.natCast_nonneg i
      have hi1 : (i : Int) < (n7 : Int) := by omega
      refine take7 (i := 1) (d := 63) (v := .slice (some ⟨g, o, none⟩) n7 c7) rfl rfl (by kernel_rfl) (by kernel_rfl) (by kernel_rfl) (fun _ _ _ h => h) (Or.inl ⟨by rfl, ?_⟩) (by assumption) ?_
      · intro X hSw
        obtain ⟨sw0, sw1⟩ := hSw
        go_simp
      simp only [Act.put, List.setIfInBounds_toArray, List.set_cons_zero, List.set_cons_succ]
      refine take7 (i := 2) (d := 64) (v := .int .i64 (i : Int)) rfl rfl (by kernel_rfl) (by kernel_rfl) (by kernel_rfl) (fun _ _ _ h => h) (Or.inl ⟨by rfl, ?_⟩) (by assumption) ?_
      · intro X hSw
        obtain ⟨sw0, sw1⟩ := hSw
        go_simp
      simp only [Act.put, List.setIfInBounds_toArray, List.set_cons_zero, List.set_cons_succ]
      refine take7 (i := 3) (d := 65) (v := .pointer (some ⟨g, o + i * 2, none⟩)) rfl rfl (by kernel_rfl) (by kernel_rfl) (by kernel_rfl) (fun _ _ _ h => h) (Or.inl ⟨by rfl, ?_⟩) (by assumption) ?_
      · intro X hSw
        obtain ⟨sw0, sw1⟩ := hSw
        go_simp
      simp only [Act.put, List.setIfInBounds_toArray, List.set_cons_zero, List.set_cons_succ]
      refine take7 (i := 4) (d := 66) (v := .pointer (some ⟨g, o + i * 2, none⟩)) rfl rfl (by kernel_rfl) (by kernel_rfl) (by kernel_rfl) (fun _ _ _ h => h) (Or.inl ⟨by rfl, ?_⟩) (by assumption) ?_
      · intro X hSw
        obtain ⟨sw0, sw1⟩ := hSw
        go_simp
      simp only [Act.put, List.setIfInBounds_toArray, List.set_cons_zero, List.set_cons_succ]
      refine take7 (i := 5) (d := 67) (v := .int .i64 x) rfl rfl (by kernel_rfl) (by kernel_rfl) (by kernel_rfl) (fun _ _ _ h => h) (Or.inl ⟨by rfl, ?_⟩) (by assumption) ?_
      · intro X hSw
        obtain ⟨sw0, sw1⟩ := hSw
        go_simp
      simp only [Act.put, List.setIfInBounds_toArray, List.set_cons_zero, List.set_cons_succ]
      refine take7 (i := 6) (d := 68) (v := .slice (some ⟨g, o, none⟩) n7 c7) rfl rfl (by kernel_rfl) (by kernel_rfl) (by kernel_rfl) (fun _ _ _ h => h) (Or.inl ⟨by rfl, ?_⟩) (by assumption) ?_
      · intro X hSw
        obtain ⟨sw0, sw1⟩ := hSw
        go_simp
      simp only [Act.put, List.setIfInBounds_toArray, List.set_cons_zero, List.set_cons_succ]
      refine take7 (i := 7) (d := 69) (v := .int .i64 (i : Int)) rfl rfl (by kernel_rfl) (by kernel_rfl) (by kernel_rfl) (fun _ _ _ h => h) (Or.inl ⟨by rfl, ?_⟩) (by assumption) ?_
      · intro X hSw
        obtain ⟨sw0, sw1⟩ := hSw
        go_simp
      simp only [Act.put, List.setIfInBounds_toArray, List.set_cons_zero, List.set_cons_succ]
      refine take7 (i := 8) (d := 70) (v := .pointer (some ⟨g, o + i * 2, none⟩)) rfl rfl (by kernel_rfl) (by kernel_rfl) (by kernel_rfl) (fun _ _ _ h => h) (Or.inl ⟨by rfl, ?_⟩) (by assumption) ?_
      · intro X hSw
        obtain ⟨sw0, sw1⟩ := hSw
        go_simp
      simp only [Act.put, List.setIfInBounds_toArray, List.set_cons_zero, List.set_cons_succ]
      refine take7 (i := 9) (d := 71) (v := .pointer (some ⟨g, o + i * 2 + 1, none⟩)) rfl rfl (by kernel_rfl) (by kernel_rfl) (by kernel_rfl) (fun _ _ _ h => h) (Or.inl ⟨by rfl, ?_⟩) (by assumption) ?_
      · intro X hSw
        obtain ⟨sw0, sw1⟩ := hSw
        go_simp
      simp only [Act.put, List.setIfInBounds_toArray, List.set_cons_zero, List.set_cons_succ]
      refine take7 (i := 10) (d := 72) (v := .int .i64 y) rfl rfl (by kernel_rfl) (by kernel_rfl) (by kernel_rfl) (fun _ _ _ h => h) (Or.inl ⟨by rfl, ?_⟩) (by assumption) ?_
      · intro X hSw
        obtain ⟨sw0, sw1⟩ := hSw
        go_simp
      simp only [Act.put, List.setIfInBounds_toArray, List.set_cons_zero, List.set_cons_succ]
      obtain ⟨X1, hX1⟩ : ∃ X1, X1 = Z.drew := ⟨_, rfl⟩
      rw [← hX1] at hHeld HRg ⊢
      have m0 : X1.cell? ⟨bq, 0, none⟩ = some (.slice (some ⟨a1, b1, none⟩) 16 d1) := by rw [hX1]; exact q0
      have m1 : X1.cell? ⟨bq, 1, none⟩ = some (.slice (some ⟨a2, b2, none⟩) 16 d2) := by rw [hX1]; exact q1
      clear hX1 q0 q1
      refine wpAnyH_ready (rs := [0]) (by kernel_rfl) (by simp) ?_
      refine AllReadyH.cons rfl (fun K hK => ?_) AllReadyH.nil
      go_simp
      refine hK.out _ _ hHeld (fun hHeld => ?_)
      clear hK K
      try simp only [Act.put, List.setIfInBounds_toArray, List.set_cons_zero, List.set_cons_succ]
      refine wpAnyH_ready (rs := [11]) (by kernel_rfl) (by simp) ?_
      refine AllReadyH.cons rfl (fun K hK => ?_) AllReadyH.nil
      refine stepCall 73 rfl rfl 11 #[.agg #[.slice (some ⟨a1, b1, none⟩) 16 d1, .slice (some ⟨a2, b2, none⟩) 16 d2], .int .i64 x, .int .i64 y] (by kernel_rfl) HRg.out ?_
      rintro e Y ⟨a3, b3, d3, a4, b4, d4, rfl, hkY, r0, r1, f0, f1, hz⟩
      refine ⟨_, rfl, ?_⟩
      have hSY := HX.out Y (HOlz.out.trans (hkY.mono HOlz.out.size))
      have hSZ := HX.out _ (Pb.sn hz.out).old
      have HZ : Hid (Pl w B bq (Sl.give s x y) (.slice (some ⟨a3, b3, none⟩) 16 d3) (.slice (some ⟨a4, b4, none⟩) 16 d4) ((Y.setCell ⟨bq, 0, none⟩ (.slice (some ⟨a3, b3, none⟩) 16 d3)).setCell ⟨bq, 1, none⟩ (.slice (some ⟨a4, b4, none⟩) 16 d4))) := hz.out
      clear hz hkY
      refine hK.out _ _ hSY (fun hHeld => ?_)
      clear hK K
      try simp only [Act.put, List.setIfInBounds_toArray, List.set_cons_zero, List.set_cons_succ]
      refine take7 (i := 12) (d := 61) (v := .tuple #[.agg #[.slice (some ⟨a3, b3, none⟩) 16 d3, .slice (some ⟨a4, b4, none⟩) 16 d4], .int .i64 (Sl.giveE s x y : Int)]) rfl rfl (by kernel_rfl) (by kernel_rfl) (by kernel_rfl) (fun _ _ _ h => h) (Or.inl ⟨by rfl, ?_⟩) (by assumption) ?_
      · intro X hSw
        obtain ⟨sw0, sw1⟩ := hSw
        go_simp
      simp only [Act.put, List.setIfInBounds_toArray, List.set_cons_zero, List.set_cons_succ]
      refine take7 (i := 13) (d := 74) (v := .agg #[.slice (some ⟨a3, b3, none⟩) 16 d3, .slice (some ⟨a4, b4, none⟩) 16 d4]) rfl rfl (by kernel_rfl) (by kernel_rfl) (by kernel_rfl) (fun _ _ _ h => h) (Or.inl ⟨by rfl, ?_⟩) (by assumption) ?_
      · intro X hSw
        obtain ⟨sw0, sw1⟩ := hSw
        go_simp
      simp only [Act.put, List.setIfInBounds_toArray, List.set_cons_zero, List.set_cons_succ]
      refine take7 (i := 14) (d := 75) (v := .int .i64 (Sl.giveE s x y : Int)) rfl rfl (by kernel_rfl) (by kernel_rfl) (by kernel_rfl) (fun _ _ _ h => h) (Or.inl ⟨by rfl, ?_⟩) (by assumption) ?_
      · intro X hSw
        obtain ⟨sw0, sw1⟩ := hSw
        go_simp
      simp only [Act.put, List.setIfInBounds_toArray, List.set_cons_zero, List.set_cons_succ]
      refine wpAnyH_ready (rs := [15]) (by kernel_rfl) (by simp) ?_
      refine AllReadyH.cons rfl (fun K hK => ?_) AllReadyH.nil
      go_simp
      refine hK.out _ _ hSZ (fun hHeld => ?_)
      clear hK K hHeld hSZ hSY
      refine wpAnyH_done (by kernel_rfl) ?_ _
      obtain ⟨W3, hW3⟩ : ∃ W3, W3 = (Y.setCell ⟨bq, 0, none⟩ (.slice (some ⟨a3, b3, none⟩) 16 d3)).setCell ⟨bq, 1, none⟩ (.slice (some ⟨a4, b4, none⟩) 16 d4) := ⟨_, rfl⟩
      rw [← hW3] at HZ ⊢
      clear hW3 r0 r1 f0 f1 m0 m1
      go_wp2
      go_roundw
      case rel => exact ⟨i + 1, _, _, _, by go_num, by omega, by omega, HZ⟩
      case measure => simp [intOf]; omega
    · have HBy : Hid _ := BytesS_c (Pb.sn HP.out).sm
      have HFr : Hid (∀ Y, Below wr.heap.size wr Y → Calls Try.prog 13 #[.string ⟨(Sl.bytesTo s 16).toArray⟩] Y fun e Z => ∃ B2, e = .returned (.tuple #[.pointer (some ⟨B2, 0, none⟩), .int .i64 0]) ∧ Pl w B2 bq s (.slice (some ⟨a1, b1, none⟩) 16 d1) (.slice (some ⟨a2, b2, none⟩) 16 d2) Z) := fun Y hY => From_back (Pb.below HP.out hY)
      obtain ⟨sb, hsb⟩ : ∃ sb : ByteArray, sb = ⟨(Sl.bytesTo s 16).toArray⟩ := ⟨_, rfl⟩
      rw [← hsb] at HBy HFr
      clear HI7 hsb HP
      by_cases hlt : i < n7
      all_goals
        first
          | have hlt2 : ¬ i < 100 := fun e => hgo ⟨hlt, e⟩
          | skip
        clear hgo
        go_wp2_with fail
        refine Calls.mono HBy.out ?_
        rintro e w3 ⟨rfl, h3⟩
        have HF3 : Hid _ := HFr.out w3 h3
        clear h3 HFr HBy
        go_wp2_with fail
        refine Calls.mono HF3.out ?_
        rintro e w4 ⟨B2, rfl, h4⟩
        have HP4 : Hid (Pl w B2 bq s (.slice (some ⟨a1, b1, none⟩) 16 d1) (.slice (some ⟨a2, b2, none⟩) 16 d2) w4) := h4
        clear h4 HF3 hin hi200 hlt
        go_wp2
        go_loopw [16] (fun x wr => ∃ (i : Nat) (s : Sl.St) (vo ve : Value), x = .int .i64 (i : Int) ∧ i ≤ n0 ∧ i ≤ 100 ∧ Hid (Pl w B2 bq s vo ve wr)) (fun x _ => 100 - (intOf x).toNat)
        case atStart => exact ⟨0, _, _, _, rfl, by omega, by omega, HP4⟩
        case round =>
          clear HP4
          obtain ⟨i, s, vo, ve, rfl, hin, hi200, HP⟩ := hrel
          obtain ⟨a1, b1, d1, a2, b2, d2, e1, e2⟩ := (Pb.rm HP.out).shapes
          subst e1 e2
          have q0 := Pb.c0 HP.out
          have q1 := Pb.c1 HP.out
          by_cases hgo : i < n0 ∧ i < 100
          · obtain ⟨hlt, hlt2⟩ := hgo
            obtain ⟨x, y, g, o, hp, hX⟩ := HI.out i hlt
            subst hp
            have HX : Hid _ := hX
            have HOld : Hid (Below w.heap.size w wr) := (Pb.sn HP.out).old
            have HQl : Hid (bq < wr.heap.size) := Pb.qlt HP.out
            have HSw : Hid (∀ W, Below wr.heap.size wr W → W.cell? ⟨bq, 0, none⟩ = some (.slice (some ⟨a1, b1, none⟩) 16 d1) ∧ W.cell? ⟨bq, 1, none⟩ = some (.slice (some ⟨a2, b2, none⟩) 16 d2) ∧ W.cell? ⟨g, o + i * 2, none⟩ = some (.int .i64 x) ∧ W.cell? ⟨g, o + i * 2 + 1, none⟩ = some (.int .i64 y)) := fun W hW => ⟨(hW.cell (p := ⟨bq, 0, none⟩) HQl.out).trans q0, (hW.cell (p := ⟨bq, 1, none⟩) HQl.out).trans q1, hX W (HOld.out.trans (hW.mono HOld.out.size))⟩
            have HBe : Hid _ := rGive_behind HP.out x y
            have HAh : Hid _ := rGive_ahead HP.out x y
            have HK0 : Hid (Below wr.heap.size wr wr.drew) := below_drew wr
            have HKa : Hid (Below wr.heap.size wr (wr.alloc (.cells #[.slice none 0 0, .slice none 0 0] 29)).drew) := (below_alloc wr _).drew
            have HKb : Hid (∀ Y o, Below wr.heap.size wr Y → Below wr.heap.size wr (Y.alloc o)) := fun Y o hY => hY.trans ((below_alloc Y o).mono hY.size)
            have HKc : Hid (∀ Y u v, Below wr.heap.size wr Y → Below wr.heap.size wr ((Y.setCell ⟨wr.heap.size, 0, none⟩ u).setCell ⟨wr.heap.size, 1, none⟩ v)) := fun Y u v hY => fin2_below hY (Nat.le_refl _) u v
            obtain ⟨en, hen⟩ : ∃ en, en = Sl.giveE s x y := ⟨_, rfl⟩
            rw [← hen] at HBe HAh
            have HEn : Hid (en = Sl.giveE s x y) := hen
            have HGv : Hid (∀ Z bn vo ve, Pb w B2 bq bn s (Sl.give s x y) vo ve Z → Calls Try.prog 10 #[.pointer (some ⟨B2, 0, none⟩), .int .i64 x, .int .i64 y] Z.drew fun e w' => e = .returned (.int .i64 (en : Int)) ∧ Pb w B2 bq bn (Sl.give s x y) (Sl.give s x y) vo ve w') := fun Z bn vo ve hZ => by
              have hd := hZ.below (below_drew Z)
              rw [hen]
              refine (GiveS_c hd.sn.sm x y).mono ?_
              rintro e w' ⟨rfl, h2⟩
              exact ⟨rfl, hd.aft h2⟩
            clear hX hen
            go_wp2
            go_region_held (fun W => W.cell? ⟨bq, 0, none⟩ = some (.slice (some ⟨a1, b1, none⟩) 16 d1) ∧ W.cell? ⟨bq, 1, none⟩ = some (.slice (some ⟨a2, b2, none⟩) 16 d2) ∧ W.cell? ⟨g, o + i * 2, none⟩ = some (.int .i64 x) ∧ W.cell? ⟨g, o + i * 2 + 1, none⟩ = some (.int .i64 y))
              (first | with_reducible exact HSw.out _ HK0.out | with_reducible exact HSw.out _ HKa.out | with_reducible exact HSw.out _ hkY | with_reducible exact HSw.out _ (HKb.out _ _ hkY) | with_reducible exact HSw.out _ (HKc.out _ _ _ hkY))
              (first
                | (go_at_call 11; refine Calls.mono HBe.out ?_; rintro e Y ⟨a3, b3, d3, a4, b4, d4, rfl, hkY, hz⟩; have HZ : Hid _ := hz; clear hz)
                | (go_at_call 11; refine Calls.mono HAh.out ?_; rintro e Y ⟨a3, b3, d3, a4, b4, d4, rfl, hkY, y0, y1, g0, g1, hz⟩; have HZ : Hid _ := hz; clear hz))
            · obtain ⟨Z, hZ⟩ : ∃ Z, Z = Y.alloc (.cells #[.slice (some ⟨a3, b3, none⟩) 16 d3, .slice (some ⟨a4, b4, none⟩) 16 d4] 29) := ⟨_, rfl⟩
              obtain ⟨bn, hbn⟩ : ∃ bn, bn = Y.heap.size := ⟨_, rfl⟩
              have HZ2 : Hid (Pb w B2 bq bn s (Sl.give s x y) (.slice (some ⟨a3, b3, none⟩) 16 d3) (.slice (some ⟨a4, b4, none⟩) 16 d4) Z) := by rw [hZ, hbn]; exact HZ.out
              rw [← hZ, ← hbn]
              clear hZ hbn hkY HZ
              have HGz : Hid _ := HGv.out _ _ _ _ HZ2.out
              obtain ⟨z0, z1⟩ := HX.out Z (Pb.sn HZ2.out).old
              clear q0 q1 HBe HAh HK0 HKa HKb HKc HGv HSw
              go_wp2
              go_region_held (fun W => W.cell? ⟨g, o + i * 2, none⟩ = some (.int .i64 x) ∧ W.cell? ⟨g, o + i * 2 + 1, none⟩ = some (.int .i64 y)) (first | with_reducible exact ⟨z0, z1⟩ | with_reducible exact ⟨k0, k1⟩ | exact ⟨z0, z1⟩)
                ((go_at_call 10; refine Calls.mono HGz.out ?_; rintro e Y2 ⟨rfl, h2⟩; have H2 : Hid _ := h2; obtain ⟨k0, k1⟩ := HX.out Y2 (Pb.sn h2).old; clear h2))
              have c0 := Pb.c0 H2.out
              have c1 := Pb.c1 H2.out
              obtain ⟨r0, hr0⟩ := Pb.q0 H2.out
              obtain ⟨r1, hr1⟩ := Pb.q1 H2.out
              have f0 := Pb.qf H2.out 0
              have f1 := Pb.qf H2.out 1
              have HD : Hid (Pl w B2 bq (Sl.give s x y) (.slice (some ⟨a3, b3, none⟩) 16 d3) (.slice (some ⟨a4, b4, none⟩) 16 d4) ((Y2.setCell ⟨bq, 0, none⟩ (.slice (some ⟨a3, b3, none⟩) 16 d3)).setCell ⟨bq, 1, none⟩ (.slice (some ⟨a4, b4, none⟩) 16 d4))) := Pb.done H2.out
              clear z0 z1 k0 k1 H2
              go_wp2
              go_roundw
              case rel => exact ⟨i + 1, _, _, _, by go_num, by omega, by omega, HD⟩
              case measure => simp [intOf]; omega
            · obtain ⟨Z, hZ⟩ : ∃ Z, Z = (Y.setCell ⟨wr.heap.size, 0, none⟩ (.slice (some ⟨a3, b3, none⟩) 16 d3)).setCell ⟨wr.heap.size, 1, none⟩ (.slice (some ⟨a4, b4, none⟩) 16 d4) := ⟨_, rfl⟩
              obtain ⟨bn, hbn⟩ : ∃ bn, bn = wr.heap.size := ⟨_, rfl⟩
              have HZ2 : Hid (Pb w B2 bq bn s (Sl.give s x y) (.slice (some ⟨a3, b3, none⟩) 16 d3) (.slice (some ⟨a4, b4, none⟩) 16 d4) Z) := by rw [hZ, hbn]; exact HZ.out
              rw [← hZ, ← hbn]
              clear hZ hbn hkY HZ y0 y1 g0 g1
              have HGz : Hid _ := HGv.out _ _ _ _ HZ2.out
              obtain ⟨z0, z1⟩ := HX.out Z (Pb.sn HZ2.out).old
              clear q0 q1 HBe HAh HK0 HKa HKb HKc HGv HSw
              go_wp2
              go_region_held (fun W => W.cell? ⟨g, o + i * 2, none⟩ = some (.int .i64 x) ∧ W.cell? ⟨g, o + i * 2 + 1, none⟩ = some (.int .i64 y)) (first | with_reducible exact ⟨z0, z1⟩ | with_reducible exact ⟨k0, k1⟩ | exact ⟨z0, z1⟩)
                ((go_at_call 10; refine Calls.mono HGz.out ?_; rintro e Y2 ⟨rfl, h2⟩; have H2 : Hid _ := h2; obtain ⟨k0, k1⟩ := HX.out Y2 (Pb.sn h2).old; clear h2))
              have c0 := Pb.c0 H2.out
              have c1 := Pb.c1 H2.out
              obtain ⟨r0, hr0⟩ := Pb.q0 H2.out
              obtain ⟨r1, hr1⟩ := Pb.q1 H2.out
              have f0 := Pb.qf H2.out 0
              have f1 := Pb.qf H2.out 1
              have HD : Hid (Pl w B2 bq (Sl.give s x y) (.slice (some ⟨a3, b3, none⟩) 16 d3) (.slice (some ⟨a4, b4, none⟩) 16 d4) ((Y2.setCell ⟨bq, 0, none⟩ (.slice (some ⟨a3, b3, none⟩) 16 d3)).setCell ⟨bq, 1, none⟩ (.slice (some ⟨a4, b4, none⟩) 16 d4))) := Pb.done H2.out
              clear z0 z1 k0 k1 H2
              go_wp2
              go_roundw
              case rel => exact ⟨i + 1, _, _, _, by go_num, by omega, by omega, HD⟩
              case measure => simp [intOf]; omega
          · have HT : Hid _ := told_c (Pb.sn HP.out).sm (Pb.rm HP.out)
            have HOld : Hid (Below w.heap.size w wr) := (Pb.sn HP.out).old
            clear HI
            by_cases hlt : i < n0
            all_goals
              first
                | have hlt2 : ¬ i < 100 := fun e => hgo ⟨hlt, e⟩
                | skip
              clear hgo
              go_wp2_with fail
              refine Calls.mono HT.out ?_
              rintro e w3 ⟨rfl, h3⟩
              have H3 : Hid (Below w.heap.size w w3) := HOld.out.trans (h3.mono HOld.out.size)
              clear h3
              go_wp2_with fail
              refine (HA.out _).mono ?_
              rintro e w4 ⟨rfl, hb4⟩
              have HB4 : Hid _ := hb4
              clear hb4
              go_wp2
              go_ret
              exact ⟨rfl, H3.out.trans (HB4.out.mono H3.out.size)⟩

theorem laidOut : laidOutB Try.prog = true := by kernel_rfl

theorem own : ownKnob Try.prog.godebug = none := by kernel_rfl

set_option maxRecDepth 100000 in
theorem lifted (os : Os) (started : os.Started) (H : Type) (enc : TypeId × Value → H) :
    ReturnsInHanded {} Try.checked os 3 .any (Rows.slotsBackSpec.pre6 enc Try.prog Try.f3 Rows.slotsBackRow.domain false) (Rows.slotsBackSpec.post enc Try.prog Try.f3 false true false false) := by
  refine returnsInHanded_of_change_sized (C := Try.checked) own started (by kernel_rfl) Try.func3
    (ChangeSpec.witness6 (enc := enc) (C := Try.checked) false ⟨#[], #[.int .i64 0, .slice none 0 0, .slice none 0 0], []⟩ 8 (by kernel_rfl) (by kernel_rfl) (by kernel_rfl) (by kernel_rfl)) ?_
  intro W base args ds gs before hval0 hW _ hsz0 _
  have hsz : (DataW.weightsEach Try.prog (Try.f3.params.toList ++ Rows.slotsBackSpec.plain.varTypes Try.prog) (ds ++ gs)).all (· ≤ reachBytes) = true := hsz0
  have hval : ∀ (j : Nat) t v, Try.f3.params[j]? = some t → args[j]? = some v → Value.okWide Try.prog W .any base t v := hval0
  have hW' := hW
  obtain ⟨p, q, hA0, hV, rfl, hfz, hnd⟩ := hW
  have hA : DataW.TrodAll enc Try.prog W 0 (fun _ => true) true Try.f3.params.toList args.toList ds p := hA0
  rw [Try.params3] at hA hval hsz
  obtain ⟨v0, vs0, d0, ds0, p0, q0, hargs, rfl, rfl, h0, r0⟩ := trodAll_cons hA
  obtain ⟨v1, vs1, d1, ds1, p1, q1, rfl, rfl, rfl, h1, r1⟩ := trodAll_cons r0
  obtain ⟨v2, vs2, d2, ds2, p2, q2, rfl, rfl, rfl, h2, r2⟩ := trodAll_cons r1
  obtain ⟨rfl, rfl, rfl⟩ := trodAll_nil r2
  obtain rfl : args = #[v0, v1, v2] := by cases args; simp_all
  obtain ⟨rfl, rfl⟩ := trodVars_none hV
  obtain ⟨a0, rfl, rfl, rfl, w0⟩ := open_int Try.underlying3 (hval 0 3 v0 rfl rfl) h0
  have b0 : -9223372036854775808 ≤ a0 ∧ a0 ≤ 9223372036854775807 := by simpa [Lit.wf, IntKind.min, IntKind.max, IntKind.signed, IntKind.bits] using w0
  have k1 := h1
  have lt1 : ∀ x ∈ p1, x.block < W.heap.size := by obtain ⟨m, hm⟩ := k1; exact DataW.trod_lt m _ _ _ hm
  obtain ⟨a1, b1⟩ := open_a2s (hval 1 22 v1 rfl rfl) h1
  have k2 := h2
  have lt2 : ∀ x ∈ p2, x.block < W.heap.size := by obtain ⟨m, hm⟩ := k2; exact DataW.trod_lt m _ _ _ hm
  obtain ⟨a2, b2⟩ := open_a2s (hval 2 22 v2 rfl rfl) h2
  clear hA0 hval0 hsz0
  refine (walk a0 v1 a1 v2 a2 W b0 b1 b2).mono fun e W' ⟨he, bel⟩ => ?_
  subst he
  exact ⟨_, rfl, _, _, _, [], _, [], hW', trodAll_mk1 (shut_bool Try.underlying4 _), (trodAll_cons_mk (shut_int Try.underlying3 w0) (trodAll_cons_mk (Below.trod laidOut (by kernel_rfl) (of_decide_eq_true (by kernel_rfl)) k1 bel lt1) (trodAll_cons_mk (Below.trod laidOut (by kernel_rfl) (of_decide_eq_true (by kernel_rfl)) k2 bel lt2) trodAll_mk0))), rfl, bel.frame _, fun h => by cases h⟩

theorem over : Rows.slotsBackRow.holds Try.pinned (OpenSpec.ofChange Rows.slotsBackSpec) :=
  OpenClaim.holds_of_wide 3 Try.f3 rfl rfl rfl rfl rfl rfl rfl ⟨rfl, rfl, rfl, rfl, rfl⟩ rfl rfl rfl rfl rfl (by kernel_rfl) Try.func3 (by kernel_rfl)
    (of_decide_eq_true (by kernel_rfl)) (by unfold Func.isWrapper; first | (rw [if_pos (by decide +kernel)]; kernel_rfl) | (rw [if_neg (by decide +kernel)]; exact ⟨rfl, rfl⟩))
    (fun os started H enc _ => lifted os started H enc)


end Go.Proofs.Ytmdnegjpdedcnab.slotsBack
namespace Go.Proofs.Ytmdnegjpdedcnab
/-- The statement. -/
theorem slotsBack_holds : Rows.SlotsBackSaid := slotsBack.over
end Go.Proofs.Ytmdnegjpdedcnab
