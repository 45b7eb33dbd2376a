/-
  For every list of ids: SessionApart answers true: in whatever order sessions ask, each finds what it finds alone; the argument reads afterwards as before. No condition.
-/
import Derived.Test.YtnfjfhjhofaodaaSeTs
import Derived.Test.YtnfjfhjhofaodaaSeApart
import Derived.Test.YtnfjfhjhofaodaaSeArgs
import Derived.Test.YtnfjfhjhofaodaaDkMask
import Derived.Deep.CutRange
import Derived.ProofKit
import Derived.OpenShut
import Derived.ShutString
import Derived.SizedLaws
namespace Go.Proofs.Ytnfjfhjhofaodaa.sessionApart
open Go.ChangeShapes Go.WideShapes Go.ChangeAt Go.RowKit
open Go.ChangeMaps (open_string shut_string)

theorem infoInt8 : (Try.prog.info? 3).map (fun i => (i.zero, i.size, i.bytes)) = some (some (.int .i64 0), 1, 8) := by kernel_rfl
def no8 : Array Value := madeCells (Value.int .i64 0).cells (8 * 1)
theorem no8_at (i : Nat) (h : i < 8) : no8[i]? = some (.int .i64 0) := by
  have e : no8.toList = List.replicate 8 (Value.int .i64 0) := by
    unfold no8
    rw [show (Value.int .i64 0).cells = #[Value.int .i64 0] from rfl, toList_madeCells_one]
  rw [← Array.getElem?_toList, e, List.getElem?_replicate, if_pos h]
theorem run_make8 (W : World) : (Instr.makeSlice 25 (.int .i64 8) (.int .i64 8)).run Try.prog W = .ok (.slice (some ⟨W.heap.size, 0, none⟩) 8 8) (W.alloc (.cells no8 3)) := by
  obtain ⟨i0, hi, hz0, hz1, hz2⟩ := info_parts infoInt8
  have h := run_make (P := Try.prog) W 25 3 i0 (.int .i64 0) Try.underlying25 hi hz0 .i64 .i64 8 8 (by decide) (by decide) (by rw [hz2]; decide) (by decide)
  rw [hz1] at h
  exact h
theorem mod8 (x : Int) : ∃ a : Nat, bits .and .i64 x 7 = (a : Int) ∧ a < 8 := ⟨(x % 8).toNat, by rw [and_7]; omega, by omega⟩
theorem mod256 (x : Int) : ∃ a : Nat, bits .and .i64 x 255 = (a : Int) ∧ a < 256 := ⟨(x % 256).toNat, by rw [and_255]; omega, by omega⟩

/-- The table, and what each session asked last. -/
structure Wy (w : World) (B mb bh : Nat) (L : Nat → Int) (X : World) : Prop where
  tab : ∃ s, Ts w X B mb s ∧ Se.Ap s L
  new : w.heap.size ≤ bh
  last : ∀ a : Nat, a < 8 → X.cell? ⟨bh, a, none⟩ = some (.int .i64 (L a))
  fz : ∀ j, X.frozen? ⟨bh, j, none⟩ = false
  ne : bh ≠ B ∧ bh ≠ mb

theorem Wy.start {w w1 : World} {B mb : Nat} (h : Ts w w1 B mb []) : Wy w B mb w1.heap.size (fun _ => 0) (w1.alloc (.cells no8 3)) := by
  refine ⟨⟨[], h.below (below_alloc _ _), Se.Ap.nil⟩, h.old.size, fun a ha => ?_, fun j => ?_, ?_⟩
  · rw [World.cell?_alloc_mark, no8_at _ ha]
  · rw [World.frozen?_alloc_mark]
    simp
  · have := h.tb.lt
    omega
theorem Wy.below {w X Y : World} {B mb bh : Nat} {L : Nat → Int} (h : Wy w B mb bh L X) (hb : Below X.heap.size X Y) : Wy w B mb bh L Y := by
  obtain ⟨s, h1, h2⟩ := h.tab
  have hl := World.block_lt_of_cell? _ _ (h.last 0 (by omega))
  exact ⟨⟨s, h1.below hb, h2⟩, h.new, fun a ha => (hb.cell (p := ⟨bh, a, none⟩) hl).trans (h.last a ha), fun j => (hb.frozen (p := ⟨bh, j, none⟩) hl).trans (h.fz j), h.ne⟩
theorem Wy.old {w X : World} {B mb bh : Nat} {L : Nat → Int} (h : Wy w B mb bh L X) : Below w.heap.size w X := by
  obtain ⟨s, h1, _⟩ := h.tab
  exact h1.old

/-- A table is not touched by a store into a block that is not its own. -/
theorem Ts.aside {w X : World} {B mb : Nat} {s : Se.St} (h : Ts w X B mb s) {b o : Nat} (hb : w.heap.size ≤ b) (hB : b ≠ B ∧ b ≠ mb) (hp : ∀ k l, (k, l) ∈ s → l.re.posts = []) (v : Value) : Ts w (X.setCell ⟨b, o, none⟩ v) B mb s := by
  obtain ⟨m, h1, h2⟩ := h.tb.map
  have hh : ∀ k, k ≠ b → (X.setCell ⟨b, o, none⟩ v).heap[k]? = X.heap[k]? := fun k hk => Below.heap_setCell _ _ _ _ hk
  refine ⟨h.old.setCell (p := ⟨b, o, none⟩) hb _, ⟨by rw [World.cell?_of_block (a := ⟨B, 0, none⟩) (hh B (Ne.symm hB.1))]; exact h.tb.c0, ⟨m, h1.carry (hh mb (Ne.symm hB.2)), ?_⟩, h.tb.len⟩, h.new⟩
  clear h h1
  induction s generalizing m with
  | nil =>
    cases m with
    | nil => trivial
    | cons _ _ => cases h2
  | cons p s ih =>
    obtain ⟨k, l⟩ := p
    cases m with
    | nil => cases h2
    | cons q m =>
      obtain ⟨k', v'⟩ := q
      obtain ⟨⟨e1, pv, e2, e3, e4⟩, h3⟩ := h2
      have hz := hp k l List.mem_cons_self
      refine ⟨⟨e1, pv, e2, ?_, e4⟩, ih (fun k l hk => hp k l (List.mem_cons_of_mem _ hk)) m h3⟩
      rw [hz] at e3 ⊢
      obtain ⟨p, c, f1, f2, f3, f4, _⟩ := e3
      exact ⟨p, c, f1, f2, f3, f4, fun a _ j x hx => by simp [poCells] at hx⟩


/-- What a call of Put leaves. -/
theorem Wy.grown {w X Y : World} {B mb bh : Nat} {L : Nat → Int} (h : Wy w B mb bh L X) {s' : Se.St} (hT : Ts w Y B mb s') (hA : Se.Ap s' L) (hg : X.grownBy Y (some mb)) : Wy w B mb bh L Y := by
  have hl := World.block_lt_of_cell? _ _ (h.last 0 (by omega))
  have hb := hg.block bh hl (by intro e; injection e with e; exact h.ne.2 e)
  exact ⟨⟨s', hT, hA⟩, h.new, fun a ha => by rw [World.cell?_of_block (a := ⟨bh, a, none⟩) hb]; exact h.last a ha, fun j => by rw [World.frozen?_of_block (a := ⟨bh, j, none⟩) hb]; exact h.fz j, h.ne⟩
/-- .. and the note of it. -/
theorem Wy.noted {w X Y : World} {B mb bh a b : Nat} {L : Nat → Int} (h : Wy w B mb bh L X) (ha : a < 8) {s' : Se.St} (hT : Ts w Y B mb s') (hA : Se.Ap s' (fun x => if x = a then (b : Int) else L x)) (hg : X.grownBy Y (some mb)) : Wy w B mb bh (fun x => if x = a then (b : Int) else L x) (Y.setCell ⟨bh, a, none⟩ (.int .i64 (b : Int))) := by
  have hl := World.block_lt_of_cell? _ _ (h.last 0 (by omega))
  have hb := hg.block bh hl (by intro e; injection e with e; exact h.ne.2 e)
  have hc : ∀ j, Y.cell? ⟨bh, j, none⟩ = X.cell? ⟨bh, j, none⟩ := fun j => World.cell?_of_block (a := ⟨bh, j, none⟩) hb
  refine ⟨⟨s', Ts.aside hT h.new h.ne hA.bare _, hA⟩, h.new, fun x hx => ?_, fun j => ?_, h.ne⟩
  · by_cases e : x = a
    · subst e
      rw [if_pos rfl]
      exact World.cell?_setCell_same _ _ _ (by rw [hc]; exact h.last x hx)
    · rw [if_neg e, World.cell?_setCell_other _ _ _ _ (by intro q; injection q with _ q; exact e q.symm), hc]
      exact h.last x hx
  · rw [World.frozen?_setCell, World.frozen?_of_block (a := ⟨bh, j, none⟩) hb]
    exact h.fz j

/-- What is asked, in a box, beside it. -/
structure Wb (w : World) (B mb bh : Nat) (L : Nat → Int) (bi a b : Nat) (X : World) : Prop where
  wy : Wy w B mb bh L X
  i0 : X.cell? ⟨bi, 0, none⟩ = some (.int .i64 (a : Int))
  i1 : X.cell? ⟨bi, 1, none⟩ = some (.int .i64 (b : Int))
theorem Wb.below {w X Y : World} {B mb bh bi a b : Nat} {L : Nat → Int} (h : Wb w B mb bh L bi a b X) (hb : Below X.heap.size X Y) : Wb w B mb bh L bi a b Y :=
  ⟨h.wy.below hb, (hb.cell (p := ⟨bi, 0, none⟩) (World.block_lt_of_cell? _ _ h.i0)).trans h.i0, (hb.cell (p := ⟨bi, 1, none⟩) (World.block_lt_of_cell? _ _ h.i1)).trans h.i1⟩

set_option maxHeartbeats 3200000 in
set_option maxRecDepth 20000 in
theorem walk (v0 : Value) (a0 : List (Int × Int)) (w : World) (_b0 : Elems w 2 idCells IdIn v0 a0) :
    Calls Try.prog 3 #[v0] w fun e w' => e = .returned (.bool true) ∧ Below w.heap.size w w' := by
  have HA : Hid (∀ u : World, Calls Try.prog 12 #[] u fun e w' => e = .returned (.bool true) ∧ Below u.heap.size u w') := awake_c
  have HNew : Hid _ := NewT_fresh w (Below.refl _ w)
  obtain ⟨B, hB⟩ : ∃ B, B = w.heap.size + 1 := ⟨_, rfl⟩
  obtain ⟨mb, hmb⟩ : ∃ mb, mb = w.heap.size := ⟨_, rfl⟩
  rw [← hB, ← hmb] at HNew
  obtain ⟨p0, c0, hv0, hc1, hc2, _, hgood, hcells⟩ := _b0
  obtain ⟨n0, hn0⟩ : ∃ n0, n0 = a0.length := ⟨_, rfl⟩
  rw [← hn0] at hv0 hc1
  have HI : Hid (∀ k, k < n0 → ∃ x y g o, p0 = some ⟨g, o, none⟩ ∧ ∀ X, Below w.heap.size w X → X.cell? ⟨g, o + k * 2, none⟩ = some (.int .i64 x) ∧ X.cell? ⟨g, o + k * 2 + 1, none⟩ = some (.int .i64 y)) := by
    intro k hk
    obtain ⟨q, hq⟩ : ∃ q, a0[k]? = some q := ⟨_, List.getElem?_eq_getElem (by omega)⟩
    rcases hcells with h | ⟨g, o, hp, hg, hcs⟩
    · rw [h] at hq
      simp at hq
    · refine ⟨q.1, q.2, g, o, hp, fun X hX => ?_⟩
      have e : ∀ j, X.cell? ⟨g, j, none⟩ = w.cell? ⟨g, j, none⟩ := fun j => hX.cell (p := ⟨g, j, none⟩) hg
      rw [e, e]
      exact ⟨hcs k q hq 0 _ rfl, hcs k q hq 1 _ rfl⟩
  subst hv0
  have HFi : Hid (∀ (X : World) (L : Nat → Int) (bh bi a b : Nat), Wb w B mb bh L bi a b X → a < 8 → 1 ≤ b → b ≤ 256 → Calls Try.prog 10 #[.pointer (some ⟨B, 0, none⟩), .agg #[.int .i64 (a : Int), .int .i64 (b : Int)]] X fun e Y => ∃ e1 t1 p n cc, e = .returned (.tuple #[.agg #[.int .i64 e1, .int .i64 t1, .slice p n cc], .int .i64 (if L a = (b : Int) then 0 else if (b : Int) < L a then 110 else 3)]) ∧ Wb w B mb bh L bi a b Y) := fun X L bh bi a b h ha hb hb2 => by
    obtain ⟨s, hT, hA⟩ := h.wy.tab
    obtain ⟨re, hre⟩ := hA.find ha hb hb2
    refine (hT.find _ _ hre).mono ?_
    rintro e Y ⟨p, cc, rfl, _, _, h1, _⟩
    exact ⟨_, _, p, _, cc, rfl, h.below h1⟩
  have HPy : Hid (∀ (X : World) (L : Nat → Int) (bh bi a b : Nat) (t : Int), Wb w B mb bh L bi a b X → a < 8 → 1 ≤ b → b ≤ 256 → L a < (b : Int) → Calls Try.prog 11 #[.pointer (some ⟨B, 0, none⟩), .agg #[.int .i64 (a : Int), .int .i64 (b : Int)], .agg #[.int .i64 0, .int .i64 t, .slice none 0 0]] X fun e Y => e = .returned (.int .i64 0) ∧ Y.cell? ⟨bi, 0, none⟩ = some (.int .i64 (a : Int)) ∧ Y.cell? ⟨bi, 1, none⟩ = some (.int .i64 (b : Int)) ∧ Y.cell? ⟨bh, a, none⟩ = some (.int .i64 (L a)) ∧ Y.frozen? ⟨bh, a, none⟩ = false ∧ Wy w B mb bh (fun x => if x = a then (b : Int) else L x) (Y.setCell ⟨bh, a, none⟩ (.int .i64 (b : Int)))) := fun X L bh bi a b t h ha hb hb2 hL => by
    obtain ⟨s, hT, hA⟩ := h.wy.tab
    refine (hT.put0 _ _ 0 t).mono ?_
    rintro e Y ⟨rfl, h1, h2⟩
    rw [hA.putE ha hb hb2 t, if_pos hL]
    refine ⟨rfl, hT.cell h2 h.i0, hT.cell h2 h.i1, hT.cell h2 (h.wy.last a ha), ?_, h.wy.noted ha h1 (hA.puts ha hb hb2 t hL) h2⟩
    rw [hT.tb.frozen h2 (h.wy.last a ha)]
    exact h.wy.fz a
  have HPn : Hid (∀ (X : World) (L : Nat → Int) (bh bi a b : Nat) (t : Int), Wb w B mb bh L bi a b X → a < 8 → 1 ≤ b → b ≤ 256 → ¬ L a < (b : Int) → Calls Try.prog 11 #[.pointer (some ⟨B, 0, none⟩), .agg #[.int .i64 (a : Int), .int .i64 (b : Int)], .agg #[.int .i64 0, .int .i64 t, .slice none 0 0]] X fun e Y => e = .returned (.int .i64 110) ∧ Wy w B mb bh L Y) := fun X L bh bi a b t h ha hb hb2 hL => by
    obtain ⟨s, hT, hA⟩ := h.wy.tab
    refine (hT.put0 _ _ 0 t).mono ?_
    rintro e Y ⟨rfl, h1, h2⟩
    rw [hA.putE ha hb hb2 t, if_neg hL]
    rw [hA.stays ha hb hb2 t hL] at h1
    exact ⟨rfl, h.wy.grown h1 hA h2⟩
  have hmk := run_make8
  have hcm := hc2
  unfold maxLen at hcm
  clear hn0 hgood hcells hc2 hB hmb
  go_enter Try.func3, Try.ntmps3
  go_wp2_with fail
  refine Calls.mono HNew.out ?_
  rintro e w1 ⟨rfl, hl, _⟩
  have HV0 : Hid (Wy w B mb w1.heap.size (fun _ => 0) (w1.alloc (.cells no8 3))) := Wy.start hl
  clear hl
  go_wp2
  obtain ⟨bh, hbh⟩ : ∃ bh, bh = w1.heap.size := ⟨_, rfl⟩
  rw [← hbh] at HV0 ⊢
  clear hbh hmk
  go_loopw [5] (fun iv wr => ∃ (i : Nat) (L : Nat → Int), iv = .int .i64 (i : Int) ∧ i ≤ n0 ∧ i ≤ 200 ∧ Hid (Wy w B mb bh L wr)) (fun iv _ => 200 - (intOf iv).toNat)
  case atStart => exact ⟨0, _, rfl, by omega, by omega, HV0⟩
  case round =>
    clear HV0
    obtain ⟨i, L, rfl, hin, hi200, HV⟩ := hrel
    by_cases hlt : i < n0
    · by_cases hlt2 : i < 200
      · obtain ⟨x, y, g, o, hp, hX⟩ := HI.out i hlt
        subst hp
        obtain ⟨y0, y1⟩ := hX wr HV.out.old
        obtain ⟨a, hm7, ha8⟩ := mod8 x
        obtain ⟨b', hm255, hb8⟩ := mod256 y
        obtain ⟨b, hb⟩ : ∃ b : Nat, b = 1 + b' := ⟨_, rfl⟩
        have hwb : IntKind.i64.wrap (1 + (b' : Int)) = (b : Int) := by rw [hb, wraps_i64 _ (by omega) (by omega)]; omega
        have HR : Hid (a < 8 ∧ 1 ≤ b ∧ b ≤ 256) := by show _ ∧ _; omega
        have ha0 : (0 : Int) ≤ (a : Int) := by omega
        have ha1 : (a : Int) < 8 := by omega
        have hk0 : (0 : Int) ≤ (i : Int) := by omega
        have hk1 : (i : Int) < (n0 : Int) := by omega
        have hi2 : (i : Int) < 200 := by omega
        have HKp : Hid (∀ X, Below wr.heap.size wr X → X.cell? ⟨g, o + i * 2, none⟩ = some (.int .i64 x) ∧ X.cell? ⟨g, o + i * 2 + 1, none⟩ = some (.int .i64 y)) := fun X hX' => hX X (HV.out.old.trans (hX'.mono HV.out.old.size))
        obtain ⟨w2, hw2⟩ : ∃ w2, w2 = (wr.alloc (.cells #[.int .i64 (a : Int), .int .i64 (b : Int)] 27)).drew := ⟨_, rfl⟩
        obtain ⟨bi, hbi⟩ : ∃ bi, bi = wr.heap.size := ⟨_, rfl⟩
        have hcb : ∀ q, w2.cell? ⟨bi, q, none⟩ = (#[.int .i64 (a : Int), .int .i64 (b : Int)] : Array Value)[q]? := fun q => by rw [hw2, hbi]; exact World.cell?_alloc_mark wr _ _ _ q
        have hwb2 : Wb w B mb bh L bi a b w2 := ⟨by rw [hw2]; exact HV.out.below (below_alloc _ _).drew, hcb 0, hcb 1⟩
        have H2 : Hid (Wb w B mb bh L bi a b w2) := hwb2
        have i0 := hwb2.i0
        have i1 := hwb2.i1
        clear hX hb hb8 ha8 hcb hwb2
        go_wp2
        go_region_held (fun X => X.cell? ⟨g, o + i * 2, none⟩ = some (.int .i64 x) ∧ X.cell? ⟨g, o + i * 2 + 1, none⟩ = some (.int .i64 y))
          (exact HKp.out _ (by first | exact (Below.refl _ _).drew | exact ((Below.refl _ _).alloc (Nat.le_refl _) _).drew))
          (fail)
        rw [← hw2, ← hbi]
        clear hw2 hbi y0 y1
        obtain ⟨la, hla⟩ : ∃ la, la = L a := ⟨_, rfl⟩
        by_cases hc : la < (b : Int)
        · have hq1 : (la == (b : Int)) = false := by simp; omega
          have hq2 : decide (la > (b : Int)) = false := by simp; omega
          have hq3 : ¬ la = (b : Int) := by omega
          have hq4 : ¬ (b : Int) < la := by omega
          have HFc : Hid (Calls Try.prog 10 #[.pointer (some ⟨B, 0, none⟩), .agg #[.int .i64 (a : Int), .int .i64 (b : Int)]] w2 fun e Y => ∃ e1 t1 p n cc, e = .returned (.tuple #[.agg #[.int .i64 e1, .int .i64 t1, .slice p n cc], .int .i64 3]) ∧ Wb w B mb bh L bi a b Y) := by
            have := HFi.out _ _ _ _ _ _ H2.out HR.out.1 HR.out.2.1 HR.out.2.2
            rw [← hla, if_neg hq3, if_neg hq4] at this
            exact this
          go_wp2_with fail
          refine Calls.mono HFc.out ?_
          rintro e w3 ⟨e1, t1, p3, n3, cc3, rfl, h3⟩
          obtain ⟨w4, hw4⟩ : ∃ w4, w4 = w3.alloc (.cells #[.int .i64 e1, .int .i64 t1, .slice p3 n3 cc3] 31) := ⟨_, rfl⟩
          have h4 : Wb w B mb bh L bi a b w4 := by rw [hw4]; exact h3.below (below_alloc _ _)
          have i0 := h4.i0
          have i1 := h4.i1
          have hlast : w4.cell? ⟨bh, a, none⟩ = some (.int .i64 la) := by rw [hla]; exact h4.wy.last a HR.out.1
          have H5 : Hid (Wb w B mb bh L bi a b w4.drew.drew) := (h4.below (Below.refl _ _).drew).below (Below.refl _ _).drew
          have HLa : Hid (la = L a) := hla
          clear h3 h4 hla
          go_wp2
          rw [← hw4]
          clear hw4
          go_region
          go_wp2
          go_region
          go_wp2_with fail
          refine (HPy.out _ _ _ _ _ _ _ H5.out HR.out.1 HR.out.2.1 HR.out.2.2 (by rw [← HLa.out]; exact hc)).mono ?_
          rintro e w6 ⟨rfl, j0, j1, j2, j3, h6⟩
          have H6 : Hid _ := h6
          clear h6 i0 i1 hlast
          go_wp2
          go_roundw
          case rel => exact ⟨i + 1, _, by go_num, by omega, by omega, H6⟩
          case measure => simp [intOf]; omega
        · by_cases hc2 : la = (b : Int)
          · have hq1 : (la == (b : Int)) = true := by simp; omega
            have hq2 : decide (la > (b : Int)) = false := by simp; omega
            have hq4 : ¬ (b : Int) < la := by omega
            have HQ : Hid (la = (b : Int)) := hc2
            clear hc2
            have HFc : Hid (Calls Try.prog 10 #[.pointer (some ⟨B, 0, none⟩), .agg #[.int .i64 (a : Int), .int .i64 (b : Int)]] w2 fun e Y => ∃ e1 t1 p n cc, e = .returned (.tuple #[.agg #[.int .i64 e1, .int .i64 t1, .slice p n cc], .int .i64 0]) ∧ Wb w B mb bh L bi a b Y) := by
              have := HFi.out _ _ _ _ _ _ H2.out HR.out.1 HR.out.2.1 HR.out.2.2
              rw [← hla, if_pos HQ.out] at this
              exact this
            go_wp2_with fail
            refine Calls.mono HFc.out ?_
            rintro e w3 ⟨e1, t1, p3, n3, cc3, rfl, h3⟩
            obtain ⟨w4, hw4⟩ : ∃ w4, w4 = w3.alloc (.cells #[.int .i64 e1, .int .i64 t1, .slice p3 n3 cc3] 31) := ⟨_, rfl⟩
            have h4 : Wb w B mb bh L bi a b w4 := by rw [hw4]; exact h3.below (below_alloc _ _)
            have i0 := h4.i0
            have i1 := h4.i1
            have hlast : w4.cell? ⟨bh, a, none⟩ = some (.int .i64 la) := by rw [hla]; exact h4.wy.last a HR.out.1
            have H5 : Hid (Wb w B mb bh L bi a b w4.drew.drew) := (h4.below (Below.refl _ _).drew).below (Below.refl _ _).drew
            have HLa : Hid (la = L a) := hla
            clear h3 h4 hla
            go_wp2
            rw [← hw4]
            clear hw4
            go_region
            go_wp2
            go_region
            go_wp2_with fail
            refine (HPn.out _ _ _ _ _ _ _ H5.out HR.out.1 HR.out.2.1 HR.out.2.2 (by rw [← HLa.out, HQ.out]; omega)).mono ?_
            rintro e w6 ⟨rfl, h6⟩
            have H6 : Hid _ := h6
            clear h6 i0 i1 hlast
            go_wp2
            go_roundw
            case rel => exact ⟨i + 1, _, by go_num, by omega, by omega, H6⟩
            case measure => simp [intOf]; omega
          · have hq1 : (la == (b : Int)) = false := by simp; omega
            have hq2 : decide (la > (b : Int)) = true := by simp; omega
            have hq4 : (b : Int) < la := by omega
            have HFc : Hid (Calls Try.prog 10 #[.pointer (some ⟨B, 0, none⟩), .agg #[.int .i64 (a : Int), .int .i64 (b : Int)]] w2 fun e Y => ∃ e1 t1 p n cc, e = .returned (.tuple #[.agg #[.int .i64 e1, .int .i64 t1, .slice p n cc], .int .i64 110]) ∧ Wb w B mb bh L bi a b Y) := by
              have := HFi.out _ _ _ _ _ _ H2.out HR.out.1 HR.out.2.1 HR.out.2.2
              rw [← hla, if_neg hc2, if_pos hq4] at this
              exact this
            go_wp2_with fail
            refine Calls.mono HFc.out ?_
            rintro e w3 ⟨e1, t1, p3, n3, cc3, rfl, h3⟩
            obtain ⟨w4, hw4⟩ : ∃ w4, w4 = w3.alloc (.cells #[.int .i64 e1, .int .i64 t1, .slice p3 n3 cc3] 31) := ⟨_, rfl⟩
            have h4 : Wb w B mb bh L bi a b w4 := by rw [hw4]; exact h3.below (below_alloc _ _)
            have i0 := h4.i0
            have i1 := h4.i1
            have hlast : w4.cell? ⟨bh, a, none⟩ = some (.int .i64 la) := by rw [hla]; exact h4.wy.last a HR.out.1
            have H5 : Hid (Wb w B mb bh L bi a b w4.drew.drew) := (h4.below (Below.refl _ _).drew).below (Below.refl _ _).drew
            have HLa : Hid (la = L a) := hla
            clear h3 h4 hla
            go_wp2
            rw [← hw4]
            clear hw4
            go_region
            go_wp2
            go_region
            go_wp2_with fail
            refine (HPn.out _ _ _ _ _ _ _ H5.out HR.out.1 HR.out.2.1 HR.out.2.2 (by rw [← HLa.out]; omega)).mono ?_
            rintro e w6 ⟨rfl, h6⟩
            have H6 : Hid _ := h6
            clear h6 i0 i1 hlast
            go_wp2
            go_roundw
            case rel => exact ⟨i + 1, _, by go_num, by omega, by omega, H6⟩
            case measure => simp [intOf]; omega
      · obtain rfl : i = 200 := by omega
        have hk1 : (200 : Int) < (n0 : Int) := by omega
        have HO : Hid (Below w.heap.size w wr) := HV.out.old
        clear hlt hin hi200 hlt2
        go_wp2_with fail
        refine (HA.out _).mono ?_
        rintro e w3 ⟨rfl, hb3⟩
        have HB3 : Hid _ := hb3
        clear hb3
        go_wp2
        go_ret
        exact ⟨rfl, HO.out.trans (HB3.out.mono HO.out.size)⟩
    · have hk1 : ¬ (i : Int) < (n0 : Int) := by omega
      have HO : Hid (Below w.heap.size w wr) := HV.out.old
      go_wp2_with fail
      refine (HA.out _).mono ?_
      rintro e w3 ⟨rfl, hb3⟩
      have HB3 : Hid _ := hb3
      clear hb3
      go_wp2
      go_ret
      exact ⟨rfl, HO.out.trans (HB3.out.mono HO.out.size)⟩

theorem laidOut : laidOutB Try.prog = true := by kernel_rfl

theorem own : ownKnob Try.prog.godebug = none := by kernel_rfl

set_option maxRecDepth 100000 in
theorem lifted (os : Os) (started : os.Started) (H : Type) (enc : TypeId × Value → H) :
    ReturnsInHanded {} Try.checked os 3 .any (Rows.sessionApartSpec.pre6 enc Try.prog Try.f3 Rows.sessionApartRow.domain false) (Rows.sessionApartSpec.post enc Try.prog Try.f3 false true false false) := by
  refine returnsInHanded_of_change_sized (C := Try.checked) own started (by kernel_rfl) Try.func3
    (ChangeSpec.witness6 (enc := enc) (C := Try.checked) false ⟨#[], #[.slice none 0 0], []⟩ 8 (by kernel_rfl) (by kernel_rfl) (by kernel_rfl) (by kernel_rfl)) ?_
  intro W base args ds gs before hval0 hW _ hsz0 _
  have hsz : (DataW.weightsEach Try.prog (Try.f3.params.toList ++ Rows.sessionApartSpec.plain.varTypes Try.prog) (ds ++ gs)).all (· ≤ reachBytes) = true := hsz0
  have hval : ∀ (j : Nat) t v, Try.f3.params[j]? = some t → args[j]? = some v → Value.okWide Try.prog W .any base t v := hval0
  have hW' := hW
  obtain ⟨p, q, hA0, hV, rfl, hfz, hnd⟩ := hW
  have hA : DataW.TrodAll enc Try.prog W 0 (fun _ => true) true Try.f3.params.toList args.toList ds p := hA0
  rw [Try.params3] at hA hval hsz
  obtain ⟨v0, vs0, d0, ds0, p0, q0, hargs, rfl, rfl, h0, r0⟩ := trodAll_cons hA
  obtain ⟨rfl, rfl, rfl⟩ := trodAll_nil r0
  obtain rfl : args = #[v0] := by cases args; simp_all
  obtain ⟨rfl, rfl⟩ := trodVars_none hV
  have k0 := h0
  have lt0 : ∀ x ∈ p0, x.block < W.heap.size := by obtain ⟨m, hm⟩ := k0; exact DataW.trod_lt m _ _ _ hm
  obtain ⟨a0, b0⟩ := open_ids11 (hval 0 22 v0 rfl rfl) h0 (fun n hn => by simpa using List.all_eq_true.1 hsz n (DataW.weights_mem_each (j := 0) rfl rfl n hn))
  clear hA0 hval0 hsz0
  refine (walk v0 a0 W b0).mono fun e W' ⟨he, bel⟩ => ?_
  subst he
  exact ⟨_, rfl, _, _, _, [], _, [], hW', trodAll_mk1 (shut_bool Try.underlying4 _), (trodAll_cons_mk (Below.trod laidOut (by kernel_rfl) (of_decide_eq_true (by kernel_rfl)) k0 bel lt0) trodAll_mk0), rfl, bel.frame _, fun h => by cases h⟩

theorem over : Rows.sessionApartRow.holds Try.pinned (OpenSpec.ofChange Rows.sessionApartSpec) :=
  OpenClaim.holds_of_wide 3 Try.f3 rfl rfl rfl rfl rfl rfl rfl ⟨rfl, rfl, rfl, rfl, rfl⟩ rfl rfl rfl rfl rfl (by kernel_rfl) Try.func3 (by kernel_rfl)
    (of_decide_eq_true (by kernel_rfl)) (by unfold Func.isWrapper; first | (rw [if_pos (by decide +kernel)]; kernel_rfl) | (rw [if_neg (by decide +kernel)]; exact ⟨rfl, rfl⟩))
    (fun os started H enc _ => lifted os started H enc)


end Go.Proofs.Ytnfjfhjhofaodaa.sessionApart
namespace Go.Proofs.Ytnfjfhjhofaodaa
/-- The statement. -/
theorem sessionApart_holds : Rows.SessionApartSaid := sessionApart.over
end Go.Proofs.Ytnfjfhjhofaodaa
