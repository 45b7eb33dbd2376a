/-
  For every id: SessionNobody answers true: a table that nobody made answers nothing; the argument reads afterwards as before. No condition.
-/
import Derived.Test.YtmnaijmhncaflaaSeTs
import Derived.Test.YtmnaijmhncaflaaSeNo
import Derived.Test.YtmnaijmhncaflaaSeSame
import Derived.Test.YtmnaijmhncaflaaSeArgs
import Derived.Deep.CutRange
import Derived.ProofKit
import Derived.OpenShut
import Derived.ShutString
import Derived.SizedLaws
namespace Go.Proofs.Ytmnaijmhncaflaa.sessionNobody
open Go.ChangeShapes Go.WideShapes Go.ChangeAt Go.RowKit
open Go.ChangeMaps (open_string shut_string)

/-- What stays while a table that is none is asked. -/
structure Good (w X : World) (bs : Nat) (l0 l1 : Value) (bx : Nat) (a b : Int) : Prop where
  old : Below w.heap.size w X
  s0 : X.cell? ⟨bs, 0, none⟩ = some l0
  s1 : X.cell? ⟨bs, 1, none⟩ = some l1
  n0 : NoT X l0
  n1 : NoT X l1
  i0 : X.cell? ⟨bx, 0, none⟩ = some (.int .i64 a)
  i1 : X.cell? ⟨bx, 1, none⟩ = some (.int .i64 b)

theorem Good.below {w X Y : World} {bs : Nat} {l0 l1 : Value} {bx : Nat} {a b : Int} (h : Good w X bs l0 l1 bx a b) (hb : Below X.heap.size X Y) : Good w Y bs l0 l1 bx a b := by
  have hc : ∀ k o x, X.cell? ⟨k, o, none⟩ = some x → Y.cell? ⟨k, o, none⟩ = some x := fun k o x hx => (hb.cell (p := ⟨k, o, none⟩) (World.block_lt_of_cell? _ _ hx)).trans hx
  exact ⟨h.old.trans (hb.mono h.old.size), hc _ _ _ h.s0, hc _ _ _ h.s1, h.n0.below hb, h.n1.below hb, hc _ _ _ h.i0, hc _ _ _ h.i1⟩

/-- One of the two is asked. -/
structure One (w X : World) (bs k : Nat) (l0 l1 lk : Value) (bx : Nat) (a b : Int) : Prop where
  good : Good w X bs l0 l1 bx a b
  c : X.cell? ⟨bs, k, none⟩ = some lk
  no : NoT X lk
theorem One.below {w X Y : World} {bs k : Nat} {l0 l1 lk : Value} {bx : Nat} {a b : Int} (h : One w X bs k l0 l1 lk bx a b) (hb : Below X.heap.size X Y) : One w Y bs k l0 l1 lk bx a b :=
  ⟨h.good.below hb, (hb.cell (p := ⟨bs, k, none⟩) (World.block_lt_of_cell? _ _ h.c)).trans h.c, h.no.below hb⟩
/-- .. beside a reply in a box. -/
structure Bq (w X : World) (bs k : Nat) (l0 l1 lk : Value) (bx : Nat) (a b : Int) (b5 : Nat) : Prop where
  one : One w X bs k l0 l1 lk bx a b
  y0 : X.cell? ⟨b5, 0, none⟩ = some (.int .i64 0)
  y1 : X.cell? ⟨b5, 1, none⟩ = some (.int .i64 0)
  y2 : X.cell? ⟨b5, 2, none⟩ = some (.slice none 0 0)
theorem Bq.below {w X Y : World} {bs k : Nat} {l0 l1 lk : Value} {bx : Nat} {a b : Int} {b5 : Nat} (h : Bq w X bs k l0 l1 lk bx a b b5) (hb : Below X.heap.size X Y) : Bq w Y bs k l0 l1 lk bx a b b5 := by
  have hc : ∀ k o x, X.cell? ⟨k, o, none⟩ = some x → Y.cell? ⟨k, o, none⟩ = some x := fun k o x hx => (hb.cell (p := ⟨k, o, none⟩) (World.block_lt_of_cell? _ _ hx)).trans hx
  exact ⟨h.one.below hb, hc _ _ _ h.y0, hc _ _ _ h.y1, hc _ _ _ h.y2⟩
theorem same_cell {w : World} {b o : Nat} {x : Value} (hx : w.cell? ⟨b, o, none⟩ = some x) (p : Addr) : (w.setCell ⟨b, o, none⟩ x).cell? p = w.cell? p := by
  by_cases e : p = ⟨b, o, none⟩
  · rw [e, hx]
    exact World.cell?_setCell_same _ _ _ (by rw [hx])
  · exact World.cell?_setCell_other _ _ _ _ (fun q => e q.symm)
/-- A cell is written with what it holds. -/
theorem One.again {w X : World} {bs k : Nat} {l0 l1 lk : Value} {bx : Nat} {a b : Int} (h : One w X bs k l0 l1 lk bx a b) {q o : Nat} {x : Value} (hx : X.cell? ⟨q, o, none⟩ = some x) (hq : w.heap.size ≤ q) : One w (X.setCell ⟨q, o, none⟩ x) bs k l0 l1 lk bx a b := by
  have hc := same_cell hx
  have hn : ∀ v, NoT X v → NoT (X.setCell ⟨q, o, none⟩ x) v := fun v hv => by
    rcases hv with hv | ⟨B, h1, h2⟩
    · exact .inl hv
    · exact .inr ⟨B, h1, by rw [hc]; exact h2⟩
  have g := h.good
  exact ⟨⟨g.old.setCell (p := ⟨q, o, none⟩) hq _, by rw [hc]; exact g.s0, by rw [hc]; exact g.s1, hn _ g.n0, hn _ g.n1, by rw [hc]; exact g.i0, by rw [hc]; exact g.i1⟩, by rw [hc]; exact h.c, hn _ h.no⟩
theorem One.again3 {w X : World} {bs k : Nat} {l0 l1 lk : Value} {bx : Nat} {a b : Int} (h : One w X bs k l0 l1 lk bx a b) {q : Nat} {x0 x1 x2 : Value} (h0 : X.cell? ⟨q, 0, none⟩ = some x0) (h1 : X.cell? ⟨q, 1, none⟩ = some x1) (h2 : X.cell? ⟨q, 2, none⟩ = some x2) (hq : w.heap.size ≤ q) : One w (((X.setCell ⟨q, 0, none⟩ x0).setCell ⟨q, 1, none⟩ x1).setCell ⟨q, 2, none⟩ x2) bs k l0 l1 lk bx a b := by
  have c0 := same_cell h0
  have k1 : (X.setCell ⟨q, 0, none⟩ x0).cell? ⟨q, 1, none⟩ = some x1 := by rw [c0]; exact h1
  have c1 := same_cell k1
  have k2 : ((X.setCell ⟨q, 0, none⟩ x0).setCell ⟨q, 1, none⟩ x1).cell? ⟨q, 2, none⟩ = some x2 := by rw [c1, c0]; exact h2
  exact ((h.again h0 hq).again k1 hq).again k2 hq
theorem One.of {w X : World} {bs k : Nat} {l0 l1 : Value} {bx : Nat} {a b : Int} (h : Good w X bs l0 l1 bx a b) (hk : k < 2) : ∃ lk, One w X bs k l0 l1 lk bx a b := by
  match k, hk with
  | 0, _ => exact ⟨l0, h, h.s0, h.n0⟩
  | 1, _ => exact ⟨l1, h, h.s1, h.n1⟩

set_option maxHeartbeats 3200000 in
set_option maxRecDepth 20000 in
theorem walk (a0 : Int × Int) (w : World) (_b0 : IdIn a0) :
    Calls Try.prog 7 #[.agg #[.int .i64 a0.1, .int .i64 a0.2]] w fun e w' => e = .returned (.bool true) ∧ Below w.heap.size w w' := by
  obtain ⟨a, b⟩ := a0
  dsimp only
  have HA : Hid (∀ u : World, Calls Try.prog 10 #[] u fun e w' => e = .returned (.bool true) ∧ Below u.heap.size u w') := awake_c
  clear _b0
  go_enter Try.func7, Try.ntmps7
  go_wp2
  obtain ⟨u1, hu1⟩ : ∃ u1, u1 = w.alloc (.cells #[.int .i64 a, .int .i64 b] 30) := ⟨_, rfl⟩
  obtain ⟨u2, hu2⟩ : ∃ u2, u2 = u1.alloc (.cells #[.map none] 56) := ⟨_, rfl⟩
  obtain ⟨u, hu⟩ : ∃ u, u = u2.alloc (.cells #[.pointer none, .pointer (some ⟨w.heap.size + 1, 0, none⟩)] 23) := ⟨_, rfl⟩
  rw [← hu1, ← hu2, ← hu]
  obtain ⟨bs, hbs⟩ : ∃ bs, bs = w.heap.size + 1 + 1 := ⟨_, rfl⟩
  obtain ⟨bx, hbx⟩ : ∃ bx, bx = w.heap.size := ⟨_, rfl⟩
  obtain ⟨l1, hl1⟩ : ∃ l1, l1 = Value.pointer (some ⟨w.heap.size + 1, 0, none⟩) := ⟨_, rfl⟩
  have b1 : Below w.heap.size w u1 := by rw [hu1]; exact below_alloc _ _
  have b2 : Below u1.heap.size u1 u2 := by rw [hu2]; exact below_alloc _ _
  have b3 : Below u2.heap.size u2 u := by rw [hu]; exact below_alloc _ _
  have s1 : u1.heap.size = w.heap.size + 1 := by rw [hu1]; simp
  have s2 : u2.heap.size = w.heap.size + 2 := by rw [hu2]; simp [s1]
  have HG : Hid (Good w u bs (.pointer none) l1 bx a b) := by
    have ci : ∀ j, u.cell? ⟨w.heap.size, j, none⟩ = (#[.int .i64 a, .int .i64 b] : Array Value)[j]? := fun j => by
      rw [b3.cell (p := ⟨w.heap.size, j, none⟩) (by show w.heap.size < _; omega), b2.cell (p := ⟨w.heap.size, j, none⟩) (by show w.heap.size < _; omega), hu1]
      exact World.cell?_alloc_mark w _ _ _ j
    have ct : u.cell? ⟨w.heap.size + 1, 0, none⟩ = some (.map none) := by
      rw [b3.cell (p := ⟨w.heap.size + 1, 0, none⟩) (by show w.heap.size + 1 < _; omega), hu2, ← s1]
      exact World.cell?_alloc_mark u1 _ _ _ 0
    have cs : ∀ j, u.cell? ⟨w.heap.size + 2, j, none⟩ = (#[.pointer none, .pointer (some ⟨w.heap.size + 1, 0, none⟩)] : Array Value)[j]? := fun j => by
      rw [hu, ← s2]
      exact World.cell?_alloc_mark u2 _ _ _ j
    rw [hbs, hbx, hl1]
    exact ⟨(b1.trans (b2.mono b1.size)).trans (b3.mono (by omega)), cs 0, cs 1, .inl rfl, .inr ⟨_, rfl, ct⟩, ci 0, ci 1⟩
  rw [← hbs, ← hl1, ← hbx]
  obtain ⟨l0, hl0⟩ : ∃ l0, l0 = Value.pointer none := ⟨_, rfl⟩
  rw [← hl0] at HG
  clear hu1 hu2 hu hbs hbx hl1 hl0 b1 b2 b3 s1 s2
  go_loopw [4] (fun iv wr => ∃ k : Nat, iv = .int .i64 (k : Int) ∧ k ≤ 2 ∧ Hid (Good w wr bs l0 l1 bx a b)) (fun iv _ => 2 - (intOf iv).toNat)
  case atStart => exact ⟨0, rfl, by omega, HG⟩
  case round =>
    clear HG
    obtain ⟨k, rfl, hk2, HG⟩ := hrel
    by_cases hlt : k < 2
    · obtain ⟨lk, hone⟩ := One.of HG.out hlt
      have HF : Hid (∀ X, One w X bs k l0 l1 lk bx a b → Calls Try.prog 13 #[lk, .agg #[.int .i64 a, .int .i64 b]] X fun e Y => e = .returned (.tuple #[.agg #[.int .i64 0, .int .i64 0, .slice none 0 0], .int .i64 1]) ∧ (One w Y bs k l0 l1 lk bx a b ∧ Below X.heap.size X Y)) := fun X h => by
        refine (FindT_no h.no a b).mono ?_
        rintro e Y ⟨rfl, hb⟩
        exact ⟨rfl, h.below hb, hb⟩
      have HP : Hid (∀ (b5 : Nat) X, Bq w X bs k l0 l1 lk bx a b b5 → Calls Try.prog 12 #[lk, .agg #[.int .i64 a, .int .i64 b], .agg #[.int .i64 0, .int .i64 0, .slice none 0 0]] X fun e Y => e = .returned (.int .i64 1) ∧ Bq w Y bs k l0 l1 lk bx a b b5) := fun b5 X h => by
        refine (PutT_no h.one.no a b 0 0).mono ?_
        rintro e Y ⟨rfl, hb⟩
        exact ⟨rfl, h.below hb⟩
      have HL : Hid (∀ (b5 : Nat) X, Bq w X bs k l0 l1 lk bx a b b5 → Calls Try.prog 18 #[lk] X fun e Y => e = .returned (.int .i64 0) ∧ Bq w Y bs k l0 l1 lk bx a b b5) := fun b5 X h => by
        refine (LenT_no h.one.no).mono ?_
        rintro e Y ⟨rfl, hb⟩
        exact ⟨rfl, by rw [hb]; exact h⟩
      have HI : Hid (∀ (b5 : Nat) X, Bq w X bs k l0 l1 lk bx a b b5 → Calls Try.prog 20 #[lk] X fun e Y => e = .returned (.slice none 0 0) ∧ Bq w Y bs k l0 l1 lk bx a b b5) := fun b5 X h => by
        refine (IdsT_no h.one.no).mono ?_
        rintro e Y ⟨rfl, hb⟩
        exact ⟨rfl, by rw [hb]; exact h⟩
      have HCo : Hid (∀ (b5 : Nat) X, Bq w X bs k l0 l1 lk bx a b b5 → Calls Try.prog 16 #[lk] X fun e Y => e = .returned (.pointer none) ∧ Bq w Y bs k l0 l1 lk bx a b b5) := fun b5 X h => by
        refine (CopyT_no h.one.no).mono ?_
        rintro e Y ⟨rfl, hb⟩
        exact ⟨rfl, by rw [hb]; exact h⟩
      have HSm : Hid (∀ (b5 : Nat) X, Bq w X bs k l0 l1 lk bx a b b5 → Calls Try.prog 15 #[.agg #[.int .i64 0, .int .i64 0, .slice none 0 0], .agg #[.int .i64 0, .int .i64 0, .slice none 0 0]] X fun e Y => e = .returned (.bool true) ∧ Bq w Y bs k l0 l1 lk bx a b b5) := fun b5 X h => by
        refine (Same_eq 0 0 (PoR.nil _) (PoR.nil _)).mono ?_
        rintro e Y ⟨rfl, hb⟩
        exact ⟨rfl, h.below hb⟩
      have hd : One w wr.drew bs k l0 l1 lk bx a b := hone.below (Below.refl _ _).drew
      have HOa : Hid (∀ o, One w (wr.alloc o).drew bs k l0 l1 lk bx a b) := fun o => hone.below (below_alloc _ _).drew
      have HS : Hid (∀ X, One w X bs k l0 l1 lk bx a b → X.cell? ⟨bs, k, none⟩ = some lk ∧ X.cell? ⟨bx, 0, none⟩ = some (.int .i64 a) ∧ X.cell? ⟨bx, 1, none⟩ = some (.int .i64 b)) := fun X h => ⟨h.c, h.good.i0, h.good.i1⟩
      have HX : Hid (∀ Y, Below (wr.alloc (.cells #[.int .i64 0, .int .i64 0, .slice none 0 0] 34)).drew.heap.size (wr.alloc (.cells #[.int .i64 0, .int .i64 0, .slice none 0 0] 34)).drew Y → Y.cell? ⟨wr.heap.size, 0, none⟩ = some (.int .i64 0) ∧ Y.cell? ⟨wr.heap.size, 1, none⟩ = some (.int .i64 0) ∧ Y.cell? ⟨wr.heap.size, 2, none⟩ = some (.slice none 0 0) ∧ Y.frozen? ⟨wr.heap.size, 0, none⟩ = false ∧ Y.frozen? ⟨wr.heap.size, 1, none⟩ = false ∧ Y.frozen? ⟨wr.heap.size, 2, none⟩ = false) := fun Y hY => by
        have hl : wr.heap.size < (wr.alloc (.cells #[.int .i64 0, .int .i64 0, .slice none 0 0] 34)).drew.heap.size := by simp
        have hc : ∀ j, Y.cell? ⟨wr.heap.size, j, none⟩ = (#[.int .i64 0, .int .i64 0, .slice none 0 0] : Array Value)[j]? := fun j => by
          rw [hY.cell (p := ⟨wr.heap.size, j, none⟩) hl]
          exact World.cell?_alloc_mark wr _ _ _ j
        have hf : ∀ j, Y.frozen? ⟨wr.heap.size, j, none⟩ = false := fun j => by
          rw [hY.frozen (p := ⟨wr.heap.size, j, none⟩) hl]
          show (wr.alloc _).frozen? _ = false
          rw [World.frozen?_alloc_mark]
          simp
        exact ⟨hc 0, hc 1, hc 2, hf 0, hf 1, hf 2⟩
      have HF1 : Hid (Calls Try.prog 13 #[lk, .agg #[.int .i64 a, .int .i64 b]] wr.drew fun e Y => e = .returned (.tuple #[.agg #[.int .i64 0, .int .i64 0, .slice none 0 0], .int .i64 1]) ∧ One w Y bs k l0 l1 lk bx a b) := by
        refine (HF.out _ hd).mono ?_
        rintro e Y ⟨rfl, h1, _⟩
        exact ⟨rfl, h1⟩
      have HF2 : Hid (Calls Try.prog 13 #[lk, .agg #[.int .i64 a, .int .i64 b]] (wr.alloc (.cells #[.int .i64 0, .int .i64 0, .slice none 0 0] 34)).drew fun e Y => e = .returned (.tuple #[.agg #[.int .i64 0, .int .i64 0, .slice none 0 0], .int .i64 1]) ∧ One w Y bs k l0 l1 lk bx a b ∧ Y.cell? ⟨wr.heap.size, 0, none⟩ = some (.int .i64 0) ∧ Y.cell? ⟨wr.heap.size, 1, none⟩ = some (.int .i64 0) ∧ Y.cell? ⟨wr.heap.size, 2, none⟩ = some (.slice none 0 0) ∧ Y.frozen? ⟨wr.heap.size, 0, none⟩ = false ∧ Y.frozen? ⟨wr.heap.size, 1, none⟩ = false ∧ Y.frozen? ⟨wr.heap.size, 2, none⟩ = false ∧ One w (((Y.setCell ⟨wr.heap.size, 0, none⟩ (.int .i64 0)).setCell ⟨wr.heap.size, 1, none⟩ (.int .i64 0)).setCell ⟨wr.heap.size, 2, none⟩ (.slice none 0 0)) bs k l0 l1 lk bx a b) := by
        refine (HF.out _ (HOa.out _)).mono ?_
        rintro e Y ⟨rfl, h1, h2⟩
        obtain ⟨q0, q1, q2, q3, q4, q5⟩ := HX.out Y h2
        exact ⟨rfl, h1, q0, q1, q2, q3, q4, q5, h1.again3 q0 q1 q2 HG.out.old.size⟩
      have hk0 : (0 : Int) ≤ (k : Int) := by omega
      have hk1 : (k : Int) < 2 := by omega
      clear hone
      go_wp2
      go_cut [5, 6] from 10 to 67 (fun x5 x6 wx => ∃ b5 : Nat, x5 = .pointer (some ⟨b5, 0, none⟩) ∧ x6 = .int .i64 1 ∧ Hid (Bq w wx bs k l0 l1 lk bx a b b5))
      case first =>
        go_region_held (fun X => X.cell? ⟨bs, k, none⟩ = some lk ∧ X.cell? ⟨bx, 0, none⟩ = some (.int .i64 a) ∧ X.cell? ⟨bx, 1, none⟩ = some (.int .i64 b))
          (first | exact HS.out _ (by assumption) | exact HS.out _ (HOa.out _) | exact HS.out _ (One.below (by assumption) (below_alloc _ _)))
          (first | (go_at_call 13; refine (HF1.out).mono ?_; rintro e w6 ⟨rfl, hg6⟩) | (go_at_call 13; refine (HF2.out).mono ?_; rintro e w6 ⟨rfl, hg6, z0, z1, z2, z3, z4, z5, hg7⟩))
        · obtain ⟨Z, hZ⟩ : ∃ Z, Z = w6.alloc (.cells #[.int .i64 0, .int .i64 0, .slice none 0 0] 34) := ⟨_, rfl⟩
          obtain ⟨b5, hb5⟩ : ∃ b5, b5 = w6.heap.size := ⟨_, rfl⟩
          have hcz : ∀ j, Z.cell? ⟨b5, j, none⟩ = (#[.int .i64 0, .int .i64 0, .slice none 0 0] : Array Value)[j]? := fun j => by rw [hZ, hb5]; exact World.cell?_alloc_mark w6 _ _ _ j
          have HB5 : Hid (Bq w Z bs k l0 l1 lk bx a b b5) := ⟨by rw [hZ]; exact hg6.below (below_alloc _ _), hcz 0, hcz 1, hcz 2⟩
          rw [← hZ, ← hb5]
          go_wp2
          go_meet
          exact ⟨b5, rfl, rfl, HB5⟩
        · obtain ⟨Z, hZ⟩ : ∃ Z, Z = ((w6.setCell ⟨wr.heap.size, 0, none⟩ (.int .i64 0)).setCell ⟨wr.heap.size, 1, none⟩ (.int .i64 0)).setCell ⟨wr.heap.size, 2, none⟩ (.slice none 0 0) := ⟨_, rfl⟩
          obtain ⟨b5, hb5⟩ : ∃ b5, b5 = wr.heap.size := ⟨_, rfl⟩
          have hcz : ∀ p, Z.cell? p = w6.cell? p := fun p => by
            have k1 : (w6.setCell ⟨wr.heap.size, 0, none⟩ (.int .i64 0)).cell? ⟨wr.heap.size, 1, none⟩ = some (.int .i64 0) := by rw [same_cell z0]; exact z1
            rw [hZ, same_cell (by rw [same_cell k1, same_cell z0]; exact z2), same_cell k1, same_cell z0]
          have HB5 : Hid (Bq w Z bs k l0 l1 lk bx a b b5) := ⟨by rw [hZ]; exact hg7, by rw [hcz, hb5]; exact z0, by rw [hcz, hb5]; exact z1, by rw [hcz, hb5]; exact z2⟩
          rw [← hZ, ← hb5]
          go_wp2
          go_meet
          exact ⟨b5, rfl, rfl, HB5⟩
      case rest =>
        obtain ⟨b5, rfl, rfl, HB5⟩ := hcut
        have hdz : Bq w wc.drew bs k l0 l1 lk bx a b b5 := HB5.out.below (Below.refl _ _).drew
        have HS6 : Hid (∀ X, Bq w X bs k l0 l1 lk bx a b b5 → X.cell? ⟨bs, k, none⟩ = some lk ∧ X.cell? ⟨bx, 0, none⟩ = some (.int .i64 a) ∧ X.cell? ⟨bx, 1, none⟩ = some (.int .i64 b) ∧ X.cell? ⟨b5, 0, none⟩ = some (.int .i64 0) ∧ X.cell? ⟨b5, 1, none⟩ = some (.int .i64 0) ∧ X.cell? ⟨b5, 2, none⟩ = some (.slice none 0 0)) := fun X h => ⟨h.one.c, h.one.good.i0, h.one.good.i1, h.y0, h.y1, h.y2⟩
        go_wp2
        go_region_held (fun X => X.cell? ⟨bs, k, none⟩ = some lk ∧ X.cell? ⟨bx, 0, none⟩ = some (.int .i64 a) ∧ X.cell? ⟨bx, 1, none⟩ = some (.int .i64 b) ∧ X.cell? ⟨b5, 0, none⟩ = some (.int .i64 0) ∧ X.cell? ⟨b5, 1, none⟩ = some (.int .i64 0) ∧ X.cell? ⟨b5, 2, none⟩ = some (.slice none 0 0))
          (exact HS6.out _ (by assumption))
          (first | (go_at_call 15; refine (HSm.out b5 _ ?_).mono ?_; assumption; rintro e w7 ⟨rfl, hg7⟩) | (go_at_call 12; refine (HP.out b5 _ ?_).mono ?_; assumption; rintro e w7 ⟨rfl, hg7⟩) | (go_at_call 18; refine (HL.out b5 _ ?_).mono ?_; assumption; rintro e w7 ⟨rfl, hg7⟩) | (go_at_call 20; refine (HI.out b5 _ ?_).mono ?_; assumption; rintro e w7 ⟨rfl, hg7⟩) | (go_at_call 16; refine (HCo.out b5 _ ?_).mono ?_; assumption; rintro e w7 ⟨rfl, hg7⟩))
        all_goals
          have HN7 : Hid (Good w w7 bs l0 l1 bx a b) := hg7.one.good
          clear hg7 hdz
          go_wp2
          go_roundw
          case rel => exact ⟨k + 1, by go_num, by omega, HN7⟩
          case measure => simp [intOf]; omega
    · obtain rfl : k = 2 := by omega
      go_wp2_with fail
      refine (HA.out _).mono ?_
      rintro e w3 ⟨rfl, hb3⟩
      have HB3 : Hid _ := hb3
      clear hb3
      go_wp2
      go_ret
      exact ⟨rfl, HG.out.old.trans (HB3.out.mono HG.out.old.size)⟩

theorem laidOut : laidOutB Try.prog = true := by kernel_rfl

theorem own : ownKnob Try.prog.godebug = none := by kernel_rfl

set_option maxRecDepth 100000 in
theorem lifted (os : Os) (started : os.Started) (H : Type) (enc : TypeId × Value → H) :
    ReturnsInHanded {} Try.checked os 7 .any (Rows.sessionNobodySpec.pre6 enc Try.prog Try.f7 Rows.sessionNobodyRow.domain false) (Rows.sessionNobodySpec.post enc Try.prog Try.f7 false true false false) := by
  refine returnsInHanded_of_change_sized (C := Try.checked) own started (by kernel_rfl) Try.func7
    (ChangeSpec.witness6 (enc := enc) (C := Try.checked) false ⟨#[], #[.agg #[.int .i64 0, .int .i64 0]], []⟩ 8 (by kernel_rfl) (by kernel_rfl) (by kernel_rfl) (by kernel_rfl)) ?_
  intro W base args ds gs before hval0 hW _ hsz0 _
  have hsz : (DataW.weightsEach Try.prog (Try.f7.params.toList ++ Rows.sessionNobodySpec.plain.varTypes Try.prog) (ds ++ gs)).all (· ≤ reachBytes) = true := hsz0
  have hval : ∀ (j : Nat) t v, Try.f7.params[j]? = some t → args[j]? = some v → Value.okWide Try.prog W .any base t v := hval0
  have hW' := hW
  obtain ⟨p, q, hA0, hV, rfl, hfz, hnd⟩ := hW
  have hA : DataW.TrodAll enc Try.prog W 0 (fun _ => true) true Try.f7.params.toList args.toList ds p := hA0
  rw [Try.params7] at hA hval hsz
  obtain ⟨v0, vs0, d0, ds0, p0, q0, hargs, rfl, rfl, h0, r0⟩ := trodAll_cons hA
  obtain ⟨rfl, rfl, rfl⟩ := trodAll_nil r0
  obtain rfl : args = #[v0] := by cases args; simp_all
  obtain ⟨rfl, rfl⟩ := trodVars_none hV
  have k0 := h0
  have lt0 : ∀ x ∈ p0, x.block < W.heap.size := by obtain ⟨m, hm⟩ := k0; exact DataW.trod_lt m _ _ _ hm
  obtain ⟨a0, rfl, b0⟩ := open_id11 (hval 0 30 v0 rfl rfl) h0
  clear hA0 hval0 hsz0
  refine (walk a0 W b0).mono fun e W' ⟨he, bel⟩ => ?_
  subst he
  exact ⟨_, rfl, _, _, _, [], _, [], hW', trodAll_mk1 (shut_bool Try.underlying4 _), (trodAll_cons_mk (Below.trod laidOut (by kernel_rfl) (of_decide_eq_true (by kernel_rfl)) k0 bel lt0) trodAll_mk0), rfl, bel.frame _, fun h => by cases h⟩

theorem over : Rows.sessionNobodyRow.holds Try.pinned (OpenSpec.ofChange Rows.sessionNobodySpec) :=
  OpenClaim.holds_of_wide 7 Try.f7 rfl rfl rfl rfl rfl rfl rfl ⟨rfl, rfl, rfl, rfl, rfl⟩ rfl rfl rfl rfl rfl (by kernel_rfl) Try.func7 (by kernel_rfl)
    (of_decide_eq_true (by kernel_rfl)) (by unfold Func.isWrapper; first | (rw [if_pos (by decide +kernel)]; kernel_rfl) | (rw [if_neg (by decide +kernel)]; exact ⟨rfl, rfl⟩))
    (fun os started H enc _ => lifted os started H enc)


end Go.Proofs.Ytmnaijmhncaflaa.sessionNobody
namespace Go.Proofs.Ytmnaijmhncaflaa
/-- The statement. -/
theorem sessionNobody_holds : Rows.SessionNobodySaid := sessionNobody.over
end Go.Proofs.Ytmnaijmhncaflaa
