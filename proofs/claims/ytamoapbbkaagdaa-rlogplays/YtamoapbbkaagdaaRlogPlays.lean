/-
  For every base, every term and every script of calls: RlogPlays answers true: whatever is appended, cut and compacted, a log tells what the document's does; the arguments read afterwards as before. No condition.
-/
import Derived.Test.YtamoapbbkaagdaaRlSame
import Derived.ProofKit
import Derived.OpenShut
import Derived.ShutString
import Derived.SizedLaws
import Derived.Deep.RegionHeld
namespace Go.Proofs.Ytamoapbbkaagdaa.rlogPlays
open Go.ChangeShapes Go.WideShapes Go.ChangeAt Go.RowKit
open Go.ChangeMaps (open_string shut_string)

/-- What 'does' leaves, its value apart. -/
def DoesIn (w X : World) (B : Nat) (loc0 : Nat → Prop) (v : Value) (s' : G.L) (v' : Value) (w' : World) : Prop :=
  (P6 w w' B s' s' v' (fun k => loc0 k ∨ readBlk v' = some k) ∧ (∀ k, loc0 k → w'.heap[k]? = X.heap[k]?) ∧ X.heap.size ≤ w'.heap.size) ∧ ∀ k, readBlk v' = some k → readBlk v = some k ∨ X.heap.size ≤ k

/-- Both logs, and the document's in a variable. -/
def Pv (w X : World) (B bq : Nat) (s : G.L) (v : Value) : Prop :=
  ∃ loc : Nat → Prop, P6 w X B s s v loc ∧ loc bq ∧ readBlk v ≠ some bq ∧ CellsAt w X bq #[.int .i64 s.base, .int .i64 s.term, v]

theorem P6.set3 {w X : World} {B bq : Nat} {s sq : G.L} {v : Value} {loc : Nat → Prop} (h : P6 w X B s sq v loc) (hb : loc bq) (hge : w.heap.size ≤ bq) (hne : readBlk v ≠ some bq) (x y z : Value) : P6 w (((X.setCell ⟨bq, 0, none⟩ x).setCell ⟨bq, 1, none⟩ y).setCell ⟨bq, 2, none⟩ z) B s sq v loc := by
  obtain ⟨own, h1, h2, h3, h4, h5, h6, h7⟩ := h
  have hb' := h4 bq hb
  have hh : ∀ k, k ≠ bq → (((X.setCell ⟨bq, 0, none⟩ x).setCell ⟨bq, 1, none⟩ y).setCell ⟨bq, 2, none⟩ z).heap[k]? = X.heap[k]? := fun k hk => by rw [Below.heap_setCell _ _ _ _ hk, Below.heap_setCell _ _ _ _ hk, Below.heap_setCell _ _ _ _ hk]
  have hs : (((X.setCell ⟨bq, 0, none⟩ x).setCell ⟨bq, 1, none⟩ y).setCell ⟨bq, 2, none⟩ z).heap.size = X.heap.size := by rw [size_set6, size_set6, size_set6]
  exact ⟨own, h1.carry (by rw [hs]; exact Nat.le_refl _) (hh B (fun e => hb'.2.1 e.symm)) (fun k hk => hh k (fun e => hb'.2.2 (e ▸ hk))), h2.carry (fun k hk => hh k (fun e => hne (e ▸ hk))), h3, fun k hk => by rw [hs]; exact h4 k hk, h5, h6, below_set3 h7 hge _ _ _⟩

theorem CellsAt.set3 {w X : World} {bq : Nat} {a b c : Value} (h : CellsAt w X bq #[a, b, c]) (x y z : Value) : CellsAt w (((X.setCell ⟨bq, 0, none⟩ x).setCell ⟨bq, 1, none⟩ y).setCell ⟨bq, 2, none⟩ z) bq #[x, y, z] := by
  have c0 : X.cell? ⟨bq, 0, none⟩ = some a := h.c 0
  have c1 : (X.setCell ⟨bq, 0, none⟩ x).cell? ⟨bq, 1, none⟩ = some b := by rw [cell_set6 _ c0, if_neg (by omega)]; exact h.c 1
  have c2 : ((X.setCell ⟨bq, 0, none⟩ x).setCell ⟨bq, 1, none⟩ y).cell? ⟨bq, 2, none⟩ = some c := by rw [cell_set6 _ c1, if_neg (by omega), cell_set6 _ c0, if_neg (by omega)]; exact h.c 2
  refine ⟨h.ge, by rw [size_set6, size_set6, size_set6]; exact h.lt, fun j => ?_, fun j => by rw [World.frozen?_setCell, World.frozen?_setCell, World.frozen?_setCell]; exact h.f j⟩
  rw [cell_set6 _ c2]
  by_cases q2 : j = 2
  · subst q2; rfl
  · rw [if_neg q2, cell_set6 _ c1]
    by_cases q1 : j = 1
    · subst q1; rfl
    · rw [if_neg q1, cell_set6 _ c0]
      by_cases q0 : j = 0
      · subst q0; rfl
      · rw [if_neg q0, h.c j]
        match j, q0, q1, q2 with
        | j + 3, _, _, _ => rfl

/-- The document's log is stored into its variable. -/
theorem Pv.put {w X : World} {B bq : Nat} {s : G.L} {v : Value} {loc : Nat → Prop} {a b c : Value} (h : P6 w X B s s v loc) (hb : loc bq) (hge : w.heap.size ≤ bq) (hne : readBlk v ≠ some bq) (hc : CellsAt w X bq #[a, b, c]) : Pv w (((X.setCell ⟨bq, 0, none⟩ (.int .i64 s.base)).setCell ⟨bq, 1, none⟩ (.int .i64 s.term)).setCell ⟨bq, 2, none⟩ v) B bq s v :=
  ⟨loc, P6.set3 h hb hge hne _ _ _, hb, hne, CellsAt.set3 hc _ _ _⟩

set_option maxHeartbeats 3200000 in
set_option maxRecDepth 20000 in
theorem walk (a0 a1 : Int) (v2 : Value) (a2 : List Op6) (w : World) (_b0 : -9223372036854775808 ≤ a0 ∧ a0 ≤ 9223372036854775807) (_b1 : -9223372036854775808 ≤ a1 ∧ a1 ≤ 9223372036854775807) (b2 : Elems w 5 Op6.cells Op6.In v2 a2) :
    Calls Try.prog 3 #[.int .i64 a0, .int .i64 a1, v2] w fun e w' => e = .returned (.bool true) ∧ Below w.heap.size w w' := by
  have HA : Hid (∀ u : World, Calls Try.prog 8 #[] u fun e w' => e = .returned (.bool true) ∧ Below u.heap.size u w') := awake_c
  obtain ⟨p0, c0, rfl, hc0, hm0, hin, k0⟩ := b2
  obtain ⟨n0, hn0⟩ : ∃ n, n = a2.length := ⟨_, rfl⟩
  rw [← hn0] at hc0 ⊢
  have HK0 : Hid _ := k0
  have HL0 : Hid _ := hn0
  clear k0 hn0 hm0 hin _b0 _b1
  by_cases g0 : 549755813888 < a0 ∧ a0 ≤ 1099511627776
  · have d1 : decide (549755813888 < a0) = true := decide_eq_true g0.1
    have d2 : decide (a0 ≤ 1099511627776) = true := decide_eq_true g0.2
    clear g0
    go_enter Try.func3, Try.ntmps3
    go_wp2_with fail
    refine (HA.out _).mono ?_
    rintro e w3 ⟨rfl, hb3⟩
    have HB3 : Hid _ := hb3
    clear hb3
    go_wp2
    go_ret
    exact ⟨rfl, HB3.out⟩
  · by_cases g1 : 0 ≤ a0 ∧ a0 ≤ 1099511627776 ∧ 0 ≤ a1 ∧ a1 ≤ 1099511627776
    · have d1 : decide (549755813888 < a0) = false := decide_eq_false (by omega)
      have HN : Hid _ := fun u : World => New_yes u a0 a1 g1
      have HR : Hid _ := fun u : World => rNew_yes u a0 a1 g1
      clear g0
      go_enter Try.func3, Try.ntmps3
      go_wp2_with fail
      refine Calls.mono (HN.out _) ?_
      rintro e w1 ⟨rfl, hl1, hb1⟩
      have H1 : Hid _ := hl1
      have B1 : Hid _ := hb1
      clear hl1 hb1
      go_wp2_with fail
      refine Calls.mono (HR.out _) ?_
      rintro e w2 ⟨rfl, hb2⟩
      have B2 : Hid _ := hb2
      clear hb2
      obtain ⟨u, hu⟩ : ∃ u, u = w2.alloc (.cells #[.int .i64 a0, .int .i64 a1, .slice none 0 0] 30) := ⟨_, rfl⟩
      obtain ⟨bq, hbq⟩ : ∃ bq, bq = w2.heap.size := ⟨_, rfl⟩
      obtain ⟨B, hB⟩ : ∃ B, B = w.heap.size := ⟨_, rfl⟩
      have HPv : Hid (Pv w u B bq ⟨a0, a1, []⟩ (.slice none 0 0)) := by
        have hl := Lg.lt H1.out
        have hs := Below.size B2.out
        have hs1 := Below.size B1.out
        have hbu : Below w2.heap.size w2 u := by rw [hu]; exact below_alloc _ _
        have hb12 : Below w1.heap.size w1 u := Below.trans B2.out (hbu.mono hs)
        refine ⟨fun k => k = bq, ⟨_, by rw [hB]; exact Lg.below H1.out hb12, ⟨none, 0, rfl, Nat.le_refl _, by unfold maxLen; omega, .inl rfl⟩, fun k hk => by simp [readBlk] at hk, fun k hk => ⟨?_, by omega, fun e => by omega⟩, by omega, fun k hk => by omega, Below.trans B1.out (hb12.mono hs1)⟩, rfl, by simp [readBlk], ⟨by omega, ?_, fun j => ?_, fun j => ?_⟩⟩
        · rw [hu, hk, hbq]; simp
        · rw [hu, hbq]; simp
        · rw [hu, hbq]; exact World.cell?_alloc_mark w2 _ _ _ j
        · rw [hu, hbq, World.frozen?_alloc_mark]; simp
      go_wp2
      rw [← hu, ← hbq, ← hB]
      clear hu hbq hB H1 B1 B2 HN HR
      go_loopw [11] (fun x wr => ∃ (k : Nat) (s : G.L) (p : Option Addr) (n c : Nat), x = .int .i64 (k : Int) ∧ k ≤ n0 ∧ k ≤ 300 ∧ Hid (Pv w wr B bq s (.slice p n c))) (fun x _ => 300 - (intOf x).toNat)
      case atStart => exact ⟨0, _, none, 0, 0, rfl, Nat.zero_le _, Nat.zero_le _, HPv⟩
      case round =>
        clear HPv
        obtain ⟨k, s, p, n, c, rfl, hk1, hk2, HPv⟩ := hrel
        obtain ⟨loc, hp, hlb, hnb, hcq⟩ := HPv.out
        have hold := hp.old
        by_cases hgo : k < n0 ∧ k < 300
        · obtain ⟨hlt, hlt2⟩ := hgo
          obtain ⟨x, hx⟩ : ∃ x, a2[k]? = some x := ⟨_, List.getElem?_eq_getElem (by have := HL0.out; omega)⟩
          obtain ⟨g, o, rfl, hg, hcell⟩ : ∃ g o, p0 = some ⟨g, o, none⟩ ∧ g < w.heap.size ∧ ∀ q u, x.cells[q]? = some u → w.cell? ⟨g, o + k * 5 + q, none⟩ = some u := by
            rcases HK0.out with e | ⟨g, o, h1, h2, h3⟩
            · rw [e] at hx; simp at hx
            · exact ⟨g, o, h1, h2, h3 k x hx⟩
          have HDo1 : Hid _ := does_c (hp.below (below_drewN wr 1)) x
          have hba : Below (wr.drewN 1).heap.size (wr.drewN 1) ((wr.drewN 1).alloc (.cells #[.int .i64 0, .int .i64 0, .slice none 0 0] 30)) := below_alloc _ _
          have hp2 := (hp.below (below_drewN wr 1)).grow hba
          have HDo2 : Hid _ := does_c hp2 x
          obtain ⟨s', hs'⟩ : ∃ s', s' = step6 s x := ⟨_, rfl⟩
          rw [← hs'] at HDo1 HDo2
          obtain ⟨kind, xn, xm, tx, dx⟩ := x
          obtain ⟨b, t, l⟩ := s
          have p0' : w.cell? ⟨g, o + k * 5, none⟩ = some (.int .i64 kind) := hcell 0 _ rfl
          have p1' : w.cell? ⟨g, o + k * 5 + 1, none⟩ = some (.int .i64 xn) := hcell 1 _ rfl
          have p2' : w.cell? ⟨g, o + k * 5 + 2, none⟩ = some (.int .i64 xm) := hcell 2 _ rfl
          have p3' : w.cell? ⟨g, o + k * 5 + 3, none⟩ = some (.int .i64 tx) := hcell 3 _ rfl
          have p4' : w.cell? ⟨g, o + k * 5 + 3 + 1, none⟩ = some (.string dx) := hcell 4 _ rfl
          have y4 : wr.cell? ⟨g, o + k * 5 + 3 + 1, none⟩ = some (.string dx) := (hold.cell (p := ⟨g, o + k * 5 + 3 + 1, none⟩) hg).trans p4'
          have hk0 : (0 : Int) ≤ (k : Int) := by omega
          have hkn : (k : Int) < (n0 : Int) := by omega
          have hk300 : (k : Int) < 300 := by omega
          have HGb : Hid (w.heap.size ≤ bq ∧ bq < wr.heap.size ∧ g < w.heap.size ∧ w.heap.size ≤ wr.heap.size) := ⟨hcq.ge, hcq.lt, hg, hold.size⟩
          have HQb : Hid (∀ X : World, Hid ((X.heap[bq]? = wr.heap[bq]? ∧ X.heap[g]? = w.heap[g]?) ∧ wr.heap.size ≤ X.heap.size) → X.cell? ⟨bq, 0, none⟩ = some (.int .i64 b) ∧ X.cell? ⟨bq, 1, none⟩ = some (.int .i64 t) ∧ X.cell? ⟨bq, 2, none⟩ = some (.slice p n c) ∧ X.cell? ⟨g, o + k * 5, none⟩ = some (.int .i64 kind) ∧ X.cell? ⟨g, o + k * 5 + 1, none⟩ = some (.int .i64 xn) ∧ X.cell? ⟨g, o + k * 5 + 2, none⟩ = some (.int .i64 xm) ∧ X.cell? ⟨g, o + k * 5 + 3, none⟩ = some (.int .i64 tx) ∧ X.cell? ⟨g, o + k * 5 + 3 + 1, none⟩ = some (.string dx)) := by
            intro X hX
            have c1' : ∀ j, X.cell? ⟨bq, j, none⟩ = wr.cell? ⟨bq, j, none⟩ := fun j => World.cell?_of_block (a := ⟨bq, j, none⟩) hX.out.1.1
            have c2' : ∀ j, X.cell? ⟨g, j, none⟩ = w.cell? ⟨g, j, none⟩ := fun j => World.cell?_of_block (a := ⟨g, j, none⟩) hX.out.1.2
            rw [c1', c1', c1', c2', c2', c2', c2', c2']
            exact ⟨hcq.c 0, hcq.c 1, hcq.c 2, p0', p1', p2', p3', p4'⟩
          have HQd : Hid (∀ (X : World) (ob : Obj), Hid ((X.heap[bq]? = wr.heap[bq]? ∧ X.heap[g]? = w.heap[g]?) ∧ wr.heap.size ≤ X.heap.size) → Hid (((X.alloc ob).heap[bq]? = wr.heap[bq]? ∧ (X.alloc ob).heap[g]? = w.heap[g]?) ∧ wr.heap.size ≤ (X.alloc ob).heap.size)) := by
            intro X ob hX
            have hs := hX.out.2
            have hG := HGb.out
            exact ⟨⟨by rw [Below.heap_alloc _ _ _ (by omega)]; exact hX.out.1.1, by rw [Below.heap_alloc _ _ _ (by omega)]; exact hX.out.1.2⟩, by simp; omega⟩
          have HQs : Hid (∀ (X : World) (x y z : Value), Hid ((X.heap[bq]? = wr.heap[bq]? ∧ X.heap[g]? = w.heap[g]?) ∧ wr.heap.size ≤ X.heap.size) → Hid (((((X.setCell ⟨wr.heap.size, 0, none⟩ x).setCell ⟨wr.heap.size, 1, none⟩ y).setCell ⟨wr.heap.size, 2, none⟩ z).heap[bq]? = wr.heap[bq]? ∧ (((X.setCell ⟨wr.heap.size, 0, none⟩ x).setCell ⟨wr.heap.size, 1, none⟩ y).setCell ⟨wr.heap.size, 2, none⟩ z).heap[g]? = w.heap[g]?) ∧ wr.heap.size ≤ (((X.setCell ⟨wr.heap.size, 0, none⟩ x).setCell ⟨wr.heap.size, 1, none⟩ y).setCell ⟨wr.heap.size, 2, none⟩ z).heap.size)) := by
            intro X x y z hX
            have hG := HGb.out
            have hh : ∀ k, k ≠ wr.heap.size → (((X.setCell ⟨wr.heap.size, 0, none⟩ x).setCell ⟨wr.heap.size, 1, none⟩ y).setCell ⟨wr.heap.size, 2, none⟩ z).heap[k]? = X.heap[k]? := fun k hk => by rw [Below.heap_setCell _ _ _ _ hk, Below.heap_setCell _ _ _ _ hk, Below.heap_setCell _ _ _ _ hk]
            exact ⟨⟨by rw [hh _ (by omega)]; exact hX.out.1.1, by rw [hh _ (by omega)]; exact hX.out.1.2⟩, by rw [size_set6, size_set6, size_set6]; exact hX.out.2⟩
          have hq0 : Hid ((wr.drew.heap[bq]? = wr.heap[bq]? ∧ wr.drew.heap[g]? = w.heap[g]?) ∧ wr.heap.size ≤ wr.drew.heap.size) := ⟨⟨rfl, hold.block g hg⟩, Nat.le_refl _⟩
          have hqa := HQd.out wr.drew (.cells #[.int .i64 0, .int .i64 0, .slice none 0 0] 30) hq0
          have HQk : Hid (∀ X w6 : World, Hid ((X.heap[bq]? = wr.heap[bq]? ∧ X.heap[g]? = w.heap[g]?) ∧ wr.heap.size ≤ X.heap.size) → w6.heap[bq]? = X.heap[bq]? → X.heap.size ≤ w6.heap.size → Below w.heap.size w w6 → Hid ((w6.heap[bq]? = wr.heap[bq]? ∧ w6.heap[g]? = w.heap[g]?) ∧ wr.heap.size ≤ w6.heap.size)) := by
            intro X w6 hX h1 h2 h3
            exact ⟨⟨h1.trans hX.out.1.1, h3.block g HGb.out.2.2.1⟩, Nat.le_trans hX.out.2 h2⟩
          have HW1 : Hid (∀ v' w6, DoesIn w (wr.drewN 1) B loc (.slice p n c) s' v' w6 → Hid ((w6.heap[bq]? = wr.heap[bq]? ∧ w6.heap[g]? = w.heap[g]?) ∧ wr.heap.size ≤ w6.heap.size) ∧ (∃ p' n' c', v' = .slice p' n' c') ∧ ∀ W, Below w6.heap.size w6 W → Hid (Pv w (((W.setCell ⟨bq, 0, none⟩ (.int .i64 s'.base)).setCell ⟨bq, 1, none⟩ (.int .i64 s'.term)).setCell ⟨bq, 2, none⟩ v') B bq s' v') ∧ CellsAt w W bq #[.int .i64 b, .int .i64 t, .slice p n c]) := by
            rintro v' w6 ⟨⟨d1, d2, d3⟩, d4⟩
            refine ⟨HQk.out wr.drew w6 hq0 (d2 bq hlb) d3 d1.old, ?_, fun W hb => ?_⟩
            · obtain ⟨p', c', e, _⟩ := d1.ent
              exact ⟨p', _, c', e⟩
            · have hne : readBlk v' ≠ some bq := fun e => by
                rcases d4 bq e with q | q
                · exact hnb q
                · have h1 := HGb.out.2.1
                  have h2 : wr.heap.size ≤ bq := q
                  omega
              have hcw : CellsAt w W bq #[.int .i64 b, .int .i64 t, .slice p n c] := (hcq.carry (w := w) (Y := w6) (d2 bq hlb) d3).below hb
              exact ⟨Pv.put (d1.below hb) (.inl hlb) HGb.out.1 hne hcw, hcw⟩
          have HW2 : Hid (∀ v' w6, DoesIn w ((wr.drewN 1).alloc (.cells #[.int .i64 0, .int .i64 0, .slice none 0 0] 30)) B (fun k => loc k ∨ ((wr.drewN 1).heap.size ≤ k ∧ k < ((wr.drewN 1).alloc (.cells #[.int .i64 0, .int .i64 0, .slice none 0 0] 30)).heap.size)) (.slice p n c) s' v' w6 → Hid ((w6.heap[bq]? = wr.heap[bq]? ∧ w6.heap[g]? = w.heap[g]?) ∧ wr.heap.size ≤ w6.heap.size) ∧ (∃ p' n' c', v' = .slice p' n' c') ∧ CellsAt w w6 wr.heap.size #[.int .i64 0, .int .i64 0, .slice none 0 0] ∧ ∀ x y z, Hid (Pv w ((((((w6.setCell ⟨wr.heap.size, 0, none⟩ x).setCell ⟨wr.heap.size, 1, none⟩ y).setCell ⟨wr.heap.size, 2, none⟩ z).setCell ⟨bq, 0, none⟩ (.int .i64 s'.base)).setCell ⟨bq, 1, none⟩ (.int .i64 s'.term)).setCell ⟨bq, 2, none⟩ v') B bq s' v') ∧ CellsAt w (((w6.setCell ⟨wr.heap.size, 0, none⟩ x).setCell ⟨wr.heap.size, 1, none⟩ y).setCell ⟨wr.heap.size, 2, none⟩ z) bq #[.int .i64 b, .int .i64 t, .slice p n c]) := by
            rintro v' w6 ⟨⟨d1, d2, d3⟩, d4⟩
            have hsz : ((wr.drewN 1).alloc (.cells #[.int .i64 0, .int .i64 0, .slice none 0 0] 30)).heap.size = wr.heap.size + 1 := by simp
            have hdr : (wr.drewN 1).heap.size = wr.heap.size := rfl
            rw [hsz] at d3 d4
            have hnu : (loc wr.heap.size ∨ ((wr.drewN 1).heap.size ≤ wr.heap.size ∧ wr.heap.size < ((wr.drewN 1).alloc (.cells #[.int .i64 0, .int .i64 0, .slice none 0 0] 30)).heap.size)) := .inr ⟨by rw [hdr]; exact Nat.le_refl _, by rw [hsz]; omega⟩
            have hG := HGb.out
            have h6b : w6.heap[bq]? = wr.heap[bq]? := by rw [d2 bq (.inl hlb), Below.heap_alloc _ _ _ (show bq < (wr.drewN 1).heap.size by rw [hdr]; omega)]; rfl
            have h6n : w6.heap[wr.heap.size]? = some (.cells #[.int .i64 0, .int .i64 0, .slice none 0 0] 30 (0, 0)) := by rw [d2 _ hnu]; exact heap_alloc_new (wr.drewN 1) _
            refine ⟨⟨⟨h6b, d1.old.block g hG.2.2.1⟩, by omega⟩, ?_, ⟨hG.2.2.2, (Array.getElem?_eq_some_iff.1 h6n).1, fun j => by simp [World.cell?, h6n], fun j => by simp [World.frozen?, h6n]⟩, fun x y z => ?_⟩
            · obtain ⟨p', c', e, _⟩ := d1.ent
              exact ⟨p', _, c', e⟩
            · have hne : readBlk v' ≠ some bq := fun e => by
                rcases d4 bq e with q | q
                · exact hnb q
                · omega
              have hne2 : readBlk v' ≠ some wr.heap.size := fun e => by
                rcases d4 _ e with q | q
                · have := hp.ent.lt q
                  omega
                · omega
              have hc6 : CellsAt w w6 bq #[.int .i64 b, .int .i64 t, .slice p n c] := hcq.carry h6b (by omega)
              have hcw : CellsAt w (((w6.setCell ⟨wr.heap.size, 0, none⟩ x).setCell ⟨wr.heap.size, 1, none⟩ y).setCell ⟨wr.heap.size, 2, none⟩ z) bq #[.int .i64 b, .int .i64 t, .slice p n c] := by
                refine hc6.carry ?_ (by rw [size_set6, size_set6, size_set6]; exact Nat.le_refl _)
                have hk : bq ≠ wr.heap.size := by omega
                rw [Below.heap_setCell _ _ _ _ hk, Below.heap_setCell _ _ _ _ hk, Below.heap_setCell _ _ _ _ hk]
              exact ⟨Pv.put (P6.set3 d1 (.inl hnu) (by omega) hne2 x y z) (.inl (.inl hlb)) hG.1 hne hcw, hcw⟩
          by_cases hd : dx.size ≤ 4096
          · have e1 : decide ((4096 : Int) < (dx.size : Int)) = false := decide_eq_false (by omega)
            unfold logV opV at HDo1 HDo2
            dsimp only at HDo1 HDo2
            obtain ⟨b', t', l'⟩ := s'
            dsimp only at HW1 HW2
            clear hd hcell hx p0' p1' p2' p3' p4' hg hold hp hp2 hlb hnb hcq hba hs' HPv
            go_wp2
            clear y4
            go_region_held (fun X => X.cell? ⟨bq, 0, none⟩ = some (.int .i64 b) ∧ X.cell? ⟨bq, 1, none⟩ = some (.int .i64 t) ∧ X.cell? ⟨bq, 2, none⟩ = some (.slice p n c) ∧ X.cell? ⟨g, o + k * 5, none⟩ = some (.int .i64 kind) ∧ X.cell? ⟨g, o + k * 5 + 1, none⟩ = some (.int .i64 xn) ∧ X.cell? ⟨g, o + k * 5 + 2, none⟩ = some (.int .i64 xm) ∧ X.cell? ⟨g, o + k * 5 + 3, none⟩ = some (.int .i64 tx) ∧ X.cell? ⟨g, o + k * 5 + 3 + 1, none⟩ = some (.string dx))
              (first | exact HQb.out _ (by assumption) | exact HQb.out _ (HQd.out _ _ (by assumption)) | exact HQb.out _ (HQs.out _ _ _ _ (by assumption)))
              (first
                | (go_at_call 11; refine Calls.mono HDo1.out ?_; rintro e w6 ⟨v', he, hin⟩; unfold logV at he; dsimp only at he; subst he; obtain ⟨hq6, ⟨p', n', c', hv'⟩, HP6⟩ := HW1.out v' w6 hin; subst hv'; clear hin)
                | (go_at_call 11; refine Calls.mono HDo2.out ?_; rintro e w6 ⟨v', he, hin⟩; unfold logV at he; dsimp only at he; subst he; obtain ⟨hq6, ⟨p', n', c', hv'⟩, hz6, HP6⟩ := HW2.out v' w6 hin; have z0 : w6.cell? ⟨wr.heap.size, 0, none⟩ = some (.int .i64 0) := hz6.c 0; have z1 : w6.cell? ⟨wr.heap.size, 1, none⟩ = some (.int .i64 0) := hz6.c 1; have z2 : w6.cell? ⟨wr.heap.size, 2, none⟩ = some (.slice none 0 0) := hz6.c 2; have zf0 := hz6.f 0; have zf1 := hz6.f 1; have zf2 := hz6.f 2; subst hv'; clear hin))
            · obtain ⟨w7, hw7⟩ : ∃ w7, w7 = w6.alloc (.cells #[.int .i64 b', .int .i64 t', .slice p' n' c'] 30) := ⟨_, rfl⟩
              obtain ⟨nu, hnu⟩ : ∃ nu, nu = w6.heap.size := ⟨_, rfl⟩
              obtain ⟨H8, hcw⟩ := HP6 w7 (by rw [hw7]; exact below_alloc _ _)
              have n0' : w7.cell? ⟨nu, 0, none⟩ = some (.int .i64 b') := by rw [hw7, hnu]; exact World.cell?_alloc_mark w6 _ _ _ 0
              have n1' : w7.cell? ⟨nu, 1, none⟩ = some (.int .i64 t') := by rw [hw7, hnu]; exact World.cell?_alloc_mark w6 _ _ _ 1
              have n2' : w7.cell? ⟨nu, 2, none⟩ = some (.slice p' n' c') := by rw [hw7, hnu]; exact World.cell?_alloc_mark w6 _ _ _ 2
              rw [← hw7, ← hnu]
              clear hw7 hnu hq6 hq0 hqa HP6
              have m0 : w7.cell? ⟨bq, 0, none⟩ = some (.int .i64 b) := hcw.c 0
              have m1 : w7.cell? ⟨bq, 1, none⟩ = some (.int .i64 t) := hcw.c 1
              have m2 : w7.cell? ⟨bq, 2, none⟩ = some (.slice p n c) := hcw.c 2
              have k0 := hcw.f 0
              have k1 := hcw.f 1
              have k2 := hcw.f 2
              clear hcw
              go_wp2
              refine And.intro ?_ ?_
              · exact ⟨k + 1, ⟨b', t', l'⟩, p', n', c', by go_num, by omega, by omega, H8⟩
              · simp [intOf]; omega
            · obtain ⟨w7, hw7⟩ : ∃ w7, w7 = ((w6.setCell ⟨wr.heap.size, 0, none⟩ (.int .i64 b')).setCell ⟨wr.heap.size, 1, none⟩ (.int .i64 t')).setCell ⟨wr.heap.size, 2, none⟩ (.slice p' n' c') := ⟨_, rfl⟩
              obtain ⟨H8, hcw⟩ := HP6 (.int .i64 b') (.int .i64 t') (.slice p' n' c')
              have hz7 := CellsAt.set3 hz6 (.int .i64 b') (.int .i64 t') (.slice p' n' c')
              rw [← hw7] at H8 hcw hz7 ⊢
              have n0' : w7.cell? ⟨wr.heap.size, 0, none⟩ = some (.int .i64 b') := hz7.c 0
              have n1' : w7.cell? ⟨wr.heap.size, 1, none⟩ = some (.int .i64 t') := hz7.c 1
              have n2' : w7.cell? ⟨wr.heap.size, 2, none⟩ = some (.slice p' n' c') := hz7.c 2
              clear hw7 hq6 hq0 hqa HP6 hz6 hz7 z0 z1 z2 zf0 zf1 zf2
              have m0 : w7.cell? ⟨bq, 0, none⟩ = some (.int .i64 b) := hcw.c 0
              have m1 : w7.cell? ⟨bq, 1, none⟩ = some (.int .i64 t) := hcw.c 1
              have m2 : w7.cell? ⟨bq, 2, none⟩ = some (.slice p n c) := hcw.c 2
              have k0 := hcw.f 0
              have k1 := hcw.f 1
              have k2 := hcw.f 2
              clear hcw
              go_wp2
              refine And.intro ?_ ?_
              · exact ⟨k + 1, ⟨b', t', l'⟩, p', n', c', by go_num, by omega, by omega, H8⟩
              · simp [intOf]; omega
          · have e1 : decide ((4096 : Int) < (dx.size : Int)) = true := decide_eq_true (by omega)
            have HOld : Hid (Below w.heap.size w wr) := hold
            clear hd hcell hx p0' p1' p2' p3' p4' hg hold hp hp2 hlb hnb hcq hba hs' HPv HDo1 HDo2 HW1 HW2
            go_wp2_with fail
            refine (HA.out _).mono ?_
            rintro e w3 ⟨rfl, hb3⟩
            have HB3 : Hid (Below w.heap.size w w3) := HOld.out.trans (hb3.mono HOld.out.size)
            clear hb3
            go_wp2
            go_ret
            exact ⟨rfl, HB3.out⟩
        · have hex : ¬ k < n0 ∨ (k < n0 ∧ ¬ k < 300) := by omega
          have HSm : Hid (∀ Y, Below wr.heap.size wr Y → Calls Try.prog 12 #[.pointer (some ⟨B, 0, none⟩), logV s (.slice p n c)] Y fun e w' => e = .returned (.bool true) ∧ Below w.heap.size w w') := fun Y hY => same_c (hp.below hY)
          unfold logV at HSm
          obtain ⟨b, t, l⟩ := s
          dsimp only at HSm
          have m0 : wr.cell? ⟨bq, 0, none⟩ = some (.int .i64 b) := hcq.c 0
          have m1 : wr.cell? ⟨bq, 1, none⟩ = some (.int .i64 t) := hcq.c 1
          have m2 : wr.cell? ⟨bq, 2, none⟩ = some (.slice p n c) := hcq.c 2
          clear hgo hp hlb hnb hcq hold HPv
          rcases hex with hex | ⟨hex1, hex⟩
          all_goals
            go_wp2_with fail
            refine Calls.mono (HSm.out _ (Below.refl _ _)) ?_
            rintro e w3 ⟨rfl, hb3⟩
            have HB3 : Hid _ := hb3
            clear hb3
            go_wp2_with fail
            refine (HA.out _).mono ?_
            rintro e w4 ⟨rfl, hb4⟩
            have HB4 : Hid (Below w.heap.size w w4) := Below.trans HB3.out (hb4.mono (Below.size HB3.out))
            clear hb4
            go_wp2
            go_ret
            exact ⟨rfl, HB4.out⟩
    · have HN : Hid _ := fun u : World => New_bad u a0 a1 g1
      have HR : Hid _ := fun u : World => rNew_bad u a0 a1 g1
      have hbr : (decide (549755813888 < a0) = false) ∨ (decide (549755813888 < a0) = true ∧ decide (a0 ≤ 1099511627776) = false) := by
        by_cases q : 549755813888 < a0
        · exact .inr ⟨decide_eq_true q, decide_eq_false (by omega)⟩
        · exact .inl (decide_eq_false q)
      clear g0 g1
      rcases hbr with d1 | ⟨d1, d2⟩
      all_goals
        go_enter Try.func3, Try.ntmps3
        go_wp2_with fail
        refine Calls.mono (HN.out _) ?_
        rintro e w1 ⟨rfl, hw⟩
        subst hw
        go_wp2_with fail
        refine Calls.mono (HR.out _) ?_
        rintro e w2 ⟨rfl, hb2⟩
        have B2 : Hid _ := hb2
        clear hb2
        go_wp2_with fail
        refine (HA.out _).mono ?_
        rintro e w3 ⟨rfl, hb3⟩
        have HB3 : Hid (Below w1.heap.size w1 w3) := Below.trans B2.out (Below.mono (Below.trans (below_alloc _ _) (hb3.mono (below_alloc _ _).size)) (Below.size B2.out))
        clear hb3
        go_wp2
        go_ret
        exact ⟨rfl, HB3.out⟩

theorem laidOut : laidOutB Try.prog = true := by kernel_rfl

theorem own : ownKnob Try.prog.godebug = none := by kernel_rfl

set_option maxRecDepth 100000 in
theorem lifted (os : Os) (started : os.Started) (H : Type) (enc : TypeId × Value → H) :
    ReturnsInHanded {} Try.checked os 3 .any (Rows.rlogPlaysSpec.pre6 enc Try.prog Try.f3 Rows.rlogPlaysRow.domain false) (Rows.rlogPlaysSpec.post enc Try.prog Try.f3 false true false false) := by
  refine returnsInHanded_of_change_sized (C := Try.checked) own started (by kernel_rfl) Try.func3
    (ChangeSpec.witness6 (enc := enc) (C := Try.checked) false ⟨#[], #[.int .i64 0, .int .i64 0, .slice none 0 0], []⟩ 8 (by kernel_rfl) (by kernel_rfl) (by kernel_rfl) (by kernel_rfl)) ?_
  intro W base args ds gs before hval0 hW _ hsz0 _
  have hsz : (DataW.weightsEach Try.prog (Try.f3.params.toList ++ Rows.rlogPlaysSpec.plain.varTypes Try.prog) (ds ++ gs)).all (· ≤ reachBytes) = true := hsz0
  have hval : ∀ (j : Nat) t v, Try.f3.params[j]? = some t → args[j]? = some v → Value.okWide Try.prog W .any base t v := hval0
  have hW' := hW
  obtain ⟨p, q, hA0, hV, rfl, hfz, hnd⟩ := hW
  have hA : DataW.TrodAll enc Try.prog W 0 (fun _ => true) true Try.f3.params.toList args.toList ds p := hA0
  rw [Try.params3] at hA hval hsz
  obtain ⟨v0, vs0, d0, ds0, p0, q0, hargs, rfl, rfl, h0, r0⟩ := trodAll_cons hA
  obtain ⟨v1, vs1, d1, ds1, p1, q1, rfl, rfl, rfl, h1, r1⟩ := trodAll_cons r0
  obtain ⟨v2, vs2, d2, ds2, p2, q2, rfl, rfl, rfl, h2, r2⟩ := trodAll_cons r1
  obtain ⟨rfl, rfl, rfl⟩ := trodAll_nil r2
  obtain rfl : args = #[v0, v1, v2] := by cases args; simp_all
  obtain ⟨rfl, rfl⟩ := trodVars_none hV
  obtain ⟨a0, rfl, rfl, rfl, w0⟩ := open_int Try.underlying3 (hval 0 3 v0 rfl rfl) h0
  have b0 : -9223372036854775808 ≤ a0 ∧ a0 ≤ 9223372036854775807 := by simpa [Lit.wf, IntKind.min, IntKind.max, IntKind.signed, IntKind.bits] using w0
  obtain ⟨a1, rfl, rfl, rfl, w1⟩ := open_int Try.underlying3 (hval 1 3 v1 rfl rfl) h1
  have b1 : -9223372036854775808 ≤ a1 ∧ a1 ≤ 9223372036854775807 := by simpa [Lit.wf, IntKind.min, IntKind.max, IntKind.signed, IntKind.bits] using w1
  have k2 := h2
  have lt2 : ∀ x ∈ p2, x.block < W.heap.size := by obtain ⟨m, hm⟩ := k2; exact DataW.trod_lt m _ _ _ hm
  obtain ⟨a2, b2⟩ := open_ops6 (hval 2 22 v2 rfl rfl) h2
  clear hA0 hval0 hsz0
  refine (walk a0 a1 v2 a2 W b0 b1 b2).mono fun e W' ⟨he, bel⟩ => ?_
  subst he
  exact ⟨_, rfl, _, _, _, [], _, [], hW', trodAll_mk1 (shut_bool Try.underlying4 _), (trodAll_cons_mk (shut_int Try.underlying3 w0) (trodAll_cons_mk (shut_int Try.underlying3 w1) (trodAll_cons_mk (Below.trod laidOut (by kernel_rfl) (of_decide_eq_true (by kernel_rfl)) k2 bel lt2) trodAll_mk0))), rfl, bel.frame _, fun h => by cases h⟩

theorem over : Rows.rlogPlaysRow.holds Try.pinned (OpenSpec.ofChange Rows.rlogPlaysSpec) :=
  OpenClaim.holds_of_wide 3 Try.f3 rfl rfl rfl rfl rfl rfl rfl ⟨rfl, rfl, rfl, rfl, rfl⟩ rfl rfl rfl rfl rfl (by kernel_rfl) Try.func3 (by kernel_rfl)
    (of_decide_eq_true (by kernel_rfl)) (by unfold Func.isWrapper; first | (rw [if_pos (by decide +kernel)]; kernel_rfl) | (rw [if_neg (by decide +kernel)]; exact ⟨rfl, rfl⟩))
    (fun os started H enc _ => lifted os started H enc)


end Go.Proofs.Ytamoapbbkaagdaa.rlogPlays
namespace Go.Proofs.Ytamoapbbkaagdaa
/-- The statement. -/
theorem rlogPlays_holds : Rows.RlogPlaysSaid := rlogPlays.over
end Go.Proofs.Ytamoapbbkaagdaa
