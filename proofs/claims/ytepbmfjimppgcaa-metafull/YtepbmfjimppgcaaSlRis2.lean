/-
  Two slots, rising, each once.
-/
import Derived.Test.YtepbmfjimppgcaaSlRis
namespace Go.Proofs.Ytepbmfjimppgcaa
open Go.RowKit

theorem Compact_2n (w : World) (g : Nat) (x y : Int) (hxy : x ≠ y) (c0 : w.cell? ⟨g, 0, none⟩ = some (.int .i64 x)) (c1 : w.cell? ⟨g, 1, none⟩ = some (.int .i64 y)) : Calls Try.prog 71 #[.slice (some ⟨g, 0, none⟩) 2 2] w fun e w' => e = .returned (.slice (some ⟨g, 0, none⟩) 2 2) ∧ w' = w.drew := by
  have h1 : (y == x) = false := by simpa using fun e : y = x => hxy e.symm
  go_enter Try.func71, Try.ntmps71
  go_wp2
  go_loopw [3] (fun v wr => v = .int .i64 1 ∧ wr = w ∨ v = .int .i64 2 ∧ wr = w.drew) (fun v _ => 2 - (intOf v).toNat)
  case atStart => exact .inl ⟨rfl, rfl⟩
  case round =>
    rcases hrel with ⟨rfl, rfl⟩ | ⟨rfl, rfl⟩
    · go_wp2
      go_region
      go_wp2
      go_roundw
      case rel => first | exact .inr ⟨rfl, rfl⟩ | simp
      case measure => simp [intOf]
    · go_wp2
      go_ret
      exact ⟨rfl, rfl⟩

theorem run_clear1 (w : World) (g : Nat) {y : Value} (c1 : w.cell? ⟨g, 1, none⟩ = some y) (f1 : w.frozen? ⟨g, 1, none⟩ = false) : ∀ ty, (Builtin.clear_ #[50] ty #[.slice (some ⟨g, 1, none⟩) 1 1]).run Try.prog w = .ok (.tuple #[]) (w.setCell ⟨g, 1, none⟩ (.int .i64 0)) := by
  intro ty
  have hst := run_storeCells_cells (P := Try.prog) g 1 [.int .i64 0] 0 w (fun j hj => by
      have : j = 0 := by simpa using hj
      subst this
      rw [c1]; rfl) (fun j hj => by
      have : j = 0 := by simpa using hj
      subst this
      exact f1) (fun u hu => by simp at hu; subst hu; rfl)
  have hz : (Builtin.zeroCells (Value.int .i64 0).cells 1).toList = [.int .i64 0] := by kernel_rfl
  simp [Builtin.clear_, run_underlying Try.underlying50, Try.zeroValue3, hz, hst]
  rfl

theorem Compact_2e (w : World) (g : Nat) (x : Int) (c0 : w.cell? ⟨g, 0, none⟩ = some (.int .i64 x)) (c1 : w.cell? ⟨g, 1, none⟩ = some (.int .i64 x)) (f1 : w.frozen? ⟨g, 1, none⟩ = false) : Calls Try.prog 71 #[.slice (some ⟨g, 0, none⟩) 2 2] w fun e w' => e = .returned (.slice (some ⟨g, 0, none⟩) 1 2) ∧ w' = w.drew.setCell ⟨g, 1, none⟩ (.int .i64 0) := by
  go_enter Try.func71, Try.ntmps71
  go_wp2
  go_loopw [3] (fun v wr => v = .int .i64 1 ∧ wr = w) (fun v _ => 2 - (intOf v).toNat)
  case atStart => exact ⟨rfl, rfl⟩
  case round =>
    obtain ⟨rfl, rfl⟩ := hrel
    go_wp2
    go_region
    go_wp2
    obtain ⟨W, hW⟩ : ∃ W, W = wr.drew := ⟨_, rfl⟩
    have k1 : W.cell? ⟨g, 1, none⟩ = some (.int .i64 x) := by rw [hW]; exact c1
    have kf : W.frozen? ⟨g, 1, none⟩ = false := by rw [hW]; exact f1
    have hcl := run_clear1 W g k1 kf
    have HW : Hid (W = wr.drew) := hW
    rw [← hW]
    clear hW c0 c1 f1
    go_loopw [3, 5] (fun i v u => i = .int .i64 1 ∧ v = .int .i64 1 ∧ u = W) (fun _ v _ => 2 - (intOf v).toNat)
    case atStart => exact ⟨rfl, rfl, rfl⟩
    case round =>
      obtain ⟨rfl, rfl, hu⟩ := hrel
      subst hu
      go_wp2
      go_ret
      exact ⟨rfl, by rw [← HW.out]⟩

/-- Two numbers, rising, each once. -/
def two (a b : Nat) : List Nat := if a = b then [a] else if a < b then [a, b] else [b, a]

theorem perm_two {l : List Int} {a b : Int} (hp : l.Perm [a, b]) (hs : sortedTo l 2) : l = if a ≤ b then [a, b] else [b, a] := by
  have hl : l.length = 2 := hp.length_eq
  match l, hl with
  | [x, y], _ =>
    have hxy : x ≤ y := hs 0 1 x y (by omega) (by omega) rfl rfl
    have hx : x = a ∨ x = b := by
      have := hp.mem_iff (a := x)
      simp at this
      omega
    rcases hx with e | e
    · subst e
      have h1 : y = b := by
        have := (List.perm_cons x).1 hp
        have := List.perm_singleton.1 this
        injection this
      subst h1
      rw [if_pos hxy]
    · subst e
      have h1 : y = a := by
        have := (List.perm_cons x).1 (hp.trans (List.Perm.swap x a []))
        have := List.perm_singleton.1 this
        injection this
      subst h1
      by_cases h : y ≤ x
      · have h2 : x = y := by omega
        subst h2
        rw [if_pos h]
      · rw [if_neg h]

theorem rising_2 (w X : World) (h0 : Below w.heap.size w X) (a b : Nat) : Calls Try.prog 60 #[.slice (some ⟨X.heap.size, 0, none⟩) 2 2] (X.alloc (.cells #[.int .i64 (a : Int), .int .i64 (b : Int)] 3)) fun e w' => ∃ v, e = .returned v ∧ Lst w w' v (two a b) := by
  obtain ⟨Z, hZ⟩ : ∃ Z, Z = X.alloc (.cells #[.int .i64 (a : Int), .int .i64 (b : Int)] 3) := ⟨_, rfl⟩
  obtain ⟨g, hg⟩ : ∃ g, g = X.heap.size := ⟨_, rfl⟩
  have hR : Row7 Z g [(a : Int), (b : Int)] Z := by
    refine ⟨KeptB.refl _ _ _, by rw [hZ, hg]; simp, fun j x hx => ?_, fun j _ => ?_⟩
    · match j, hx with
      | 0, hx =>
        injection hx with hx
        rw [← hx, hZ, hg]
        exact World.cell?_alloc_mark X _ _ _ 0
      | 1, hx =>
        injection hx with hx
        rw [← hx, hZ, hg]
        exact World.cell?_alloc_mark X _ _ _ 1
    · rw [hZ, hg, World.frozen?_alloc_mark]; simp
  have HS : Hid _ := Sort_c Z g 2 [(a : Int), (b : Int)] ⟨by simp, by simp⟩ hR
  have HLow : Hid (w.heap.size ≤ g) := by rw [hg]; exact h0.size
  have HOld : Hid (∀ Y l, Row7 Z g l Y → Below w.heap.size w Y) := fun Y l h1 => (h0.trans (by rw [hZ]; exact (sl_below_alloc X _).mono h0.size)).trans (h1.kept.below (by rw [hg]; exact h0.size) (fun _ q => q.elim) (by rw [hZ]; have := h0.size; simp; omega))
  rw [← hZ, ← hg]
  clear hZ hg hR
  by_cases hab : a = b
  · subst hab
    have ht : two a a = [a] := by unfold two; rw [if_pos rfl]
    rw [ht]
    clear ht
    go_enter Try.func60, Try.ntmps60
    go_wp2_with fail
    refine Calls.mono HS.out ?_
    rintro e Y ⟨rfl, l, h1, h2, h3⟩
    have hl := perm_two h2 h3
    rw [if_pos (Int.le_refl _)] at hl
    subst hl
    have c0 := h1.c 0 _ rfl
    have c1 := h1.c 1 _ rfl
    have HC : Hid _ := Compact_2e Y g (a : Int) c0 c1 (h1.f 1 (by simp))
    have HEnd : Hid (Lst w (Y.drew.setCell ⟨g, 1, none⟩ (.int .i64 0)) (.slice (some ⟨g, 0, none⟩) 1 2) [a]) := by
      refine ⟨((HOld.out Y _ h1).drew).setCell HLow.out _, .inr ⟨g, 2, rfl, by rw [sl_size_set6]; exact h1.lt, fun i x hx => ?_⟩⟩
      match i, hx with
      | 0, hx =>
        injection hx with hx
        rw [← hx]
        have d1 : Y.drew.cell? ⟨g, 1, none⟩ = some (.int .i64 (a : Int)) := c1
        rw [sl_cell_set6 _ d1, if_neg (by omega)]
        exact c0
    clear h1 h2 h3 c0 c1
    go_wp2_with fail
    refine Calls.mono HC.out ?_
    rintro e Y2 ⟨rfl, h⟩
    have h := h.symm
    subst h
    go_wp2
    go_ret
    exact ⟨_, rfl, HEnd.out⟩
  · have HT : Hid (∀ Y l, Row7 Z g l Y → l.Perm [(a : Int), (b : Int)] → sortedTo l 2 → ∃ p q : Nat, l = [(p : Int), (q : Int)] ∧ p ≠ q ∧ two a b = [p, q]) := fun Y l h1 h2 h3 => by
      have hl := perm_two h2 h3
      by_cases h : a < b
      · rw [if_pos (by omega)] at hl
        exact ⟨a, b, hl, hab, by unfold two; rw [if_neg hab, if_pos h]⟩
      · rw [if_neg (by omega)] at hl
        exact ⟨b, a, hl, fun e => hab e.symm, by unfold two; rw [if_neg hab, if_neg h]⟩
    obtain ⟨tw, htw⟩ : ∃ tw, tw = two a b := ⟨_, rfl⟩
    rw [← htw] at HT ⊢
    clear htw hab
    go_enter Try.func60, Try.ntmps60
    go_wp2_with fail
    refine Calls.mono HS.out ?_
    rintro e Y ⟨rfl, l, h1, h2, h3⟩
    obtain ⟨p, q, hl, hpq, hT⟩ := HT.out Y l h1 h2 h3
    subst hl
    have c0 := h1.c 0 _ rfl
    have c1 := h1.c 1 _ rfl
    have HC : Hid _ := Compact_2n Y g (p : Int) (q : Int) (by omega) c0 c1
    have HEnd : Hid (Lst w Y.drew (.slice (some ⟨g, 0, none⟩) 2 2) tw) := by
      rw [hT]
      refine ⟨(HOld.out Y _ h1).drew, .inr ⟨g, 2, rfl, h1.lt, fun i x hx => ?_⟩⟩
      match i, hx with
      | 0, hx =>
        injection hx with hx
        rw [← hx]
        exact c0
      | 1, hx =>
        injection hx with hx
        rw [← hx]
        exact c1
    clear h1 h2 h3 c0 c1 hT hpq
    go_wp2_with fail
    refine Calls.mono HC.out ?_
    rintro e Y2 ⟨rfl, h⟩
    have h := h.symm
    subst h
    go_wp2
    go_ret
    exact ⟨_, rfl, HEnd.out⟩

end Go.Proofs.Ytepbmfjimppgcaa
