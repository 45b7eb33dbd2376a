/-
  A model's small functions: what is there, who is off, who is a member.
-/
import Derived.Test.YtkioeahlajjmiaaMoMem
import Derived.Test.YtkioeahlajjmiaaClone
namespace Go.Proofs.Ytkioeahlajjmiaa
open Go.RowKit

section
variable {w : World} {B : Nat} {s : Mo.St} {who : Nat → Nat} {n bc bo : Nat} {f : ByteArray → ByteArray → Option Nat} {cs : Nat → Mo.Ch}

theorem isMade_c (h : MdV w B s who n bc bo f cs) : Calls Try.prog 24 #[.pointer (some ⟨B, 0, none⟩)] w fun e w' => e = .returned (.bool true) ∧ w' = w := by
  have h0 := h.c0
  have hq : ∀ X : World, (binOp .neq 60 (.map (some bc)) (.map none)).run Try.prog X = .ok (.bool true) X := fun X => by kernel_rfl
  clear h
  go_enter Try.func24, Try.ntmps24
  go_wp2
  go_ret
  exact ⟨rfl, rfl⟩

theorem find_none (h : MdV w B s who n bc bo f cs) {x y : ByteArray} (hx : Ok x) (hy : Ok y) (hf : f x y = none) : Calls Try.prog 33 #[.pointer (some ⟨B, 0, none⟩), .string x, .string y] w fun e w' => e = .returned (.tuple #[.pointer none, .int .i64 3]) ∧ w' = w := by
  have HM : Hid _ := isMade_c h
  have h0 := h.c0
  have hl := h.chs.look hx hy
  rw [hf] at hl
  have hl' : (Instr.lookup 60 (.map (some bc)) (.agg #[.string x, .string y]) true).run Try.prog w = .ok (.tuple #[.pointer none, .bool false]) w := hl
  clear h hl hf hx hy
  go_enter Try.func33, Try.ntmps33
  go_wp2_with fail
  refine Calls.mono HM.out ?_
  rintro e w1 ⟨rfl, rfl⟩
  go_wp2
  go_ret2
  exact ⟨rfl, rfl⟩

theorem find_some (h : MdV w B s who n bc bo f cs) {x y : ByteArray} {k : Nat} (hx : Ok x) (hy : Ok y) (hf : f x y = some k) : Calls Try.prog 33 #[.pointer (some ⟨B, 0, none⟩), .string x, .string y] w fun e w' => e = .returned (.tuple #[.pointer (some ⟨k, 0, none⟩), .int .i64 0]) ∧ w' = w := by
  have HM : Hid _ := isMade_c h
  have h0 := h.c0
  have hl := h.chs.look hx hy
  rw [hf] at hl
  have hl' : (Instr.lookup 60 (.map (some bc)) (.agg #[.string x, .string y]) true).run Try.prog w = .ok (.tuple #[.pointer (some ⟨k, 0, none⟩), .bool true]) w := hl
  clear h hl hf hx hy
  go_enter Try.func33, Try.ntmps33
  go_wp2_with fail
  refine Calls.mono HM.out ?_
  rintro e w1 ⟨rfl, rfl⟩
  go_wp2
  go_ret2
  exact ⟨rfl, rfl⟩

theorem has_c (h : MdV w B s who n bc bo f cs) {x y : ByteArray} (hx : Ok x) (hy : Ok y) : Calls Try.prog 50 #[.pointer (some ⟨B, 0, none⟩), .string x, .string y] w fun e w' => e = .returned (.bool (f x y).isSome) ∧ w' = w := by
  have h0 := h.c0
  have hl := h.chs.look hx hy
  obtain ⟨v, hv⟩ : ∃ v, v = mkP (f x y) := ⟨_, rfl⟩
  obtain ⟨b, hb⟩ : ∃ b, b = (f x y).isSome := ⟨_, rfl⟩
  rw [← hv, ← hb] at hl
  rw [← hb]
  clear h hv hb hx hy
  go_enter Try.func50, Try.ntmps50
  go_wp2
  go_ret
  exact ⟨rfl, rfl⟩

theorem isOff_c (h : MdV w B s who n bc bo f cs) {u : ByteArray} (hu : Ok u) : Calls Try.prog 52 #[.pointer (some ⟨B, 0, none⟩), .string u] w fun e w' => e = .returned (.bool (s.off u)) ∧ Below w.heap.size w w' := by
  have h1 := h.c1
  have hl := h.off.look hu
  generalize s.off u = b at hl ⊢
  have HB : Hid (∀ o, Below w.heap.size w (w.alloc o)) := fun o => below_alloc w o
  clear h hu
  go_enter Try.func52, Try.ntmps52
  go_wp2
  go_ret
  exact ⟨rfl, HB.out _⟩

theorem isMember_c {k : Nat} {c : Mo.Ch} {bm : Nat} {v : Value} (h : ChV w k c n bm v) {u : ByteArray} (hu : Ok u) : Calls Try.prog 53 #[.pointer (some ⟨k, 0, none⟩), .string u] w fun e w' => e = .returned (.bool (c.mem u)) ∧ Below w.heap.size w w' := by
  have h1 := h.c0
  have hl := h.mem.look hu
  generalize c.mem u = b at hl ⊢
  have HB : Hid (∀ o, Below w.heap.size w (w.alloc o)) := fun o => below_alloc w o
  clear h hu
  go_enter Try.func53, Try.ntmps53
  go_wp2
  go_ret
  exact ⟨rfl, HB.out _⟩

end

theorem keptName_c (x y : ByteArray) (hx : x.size ≤ 140737488351232) (hy : y.size ≤ 140737488351232) (w : World) : Calls Try.prog 51 #[.string x, .string y] w fun e w' => e = .returned (.agg #[.string x, .string y]) ∧ Below w.heap.size w w' := by
  obtain ⟨u, hu⟩ : ∃ u, u = w.alloc (.cells #[.string ⟨#[]⟩, .string ⟨#[]⟩] 78) := ⟨_, rfl⟩
  obtain ⟨bx, hbx⟩ : ∃ bx, bx = w.heap.size := ⟨_, rfl⟩
  have hbu : Below w.heap.size w u := by rw [hu]; exact below_alloc w _
  have HU : Hid (Below w.heap.size w u ∧ w.heap.size ≤ bx) := ⟨hbu, by omega⟩
  have hlx : bx < u.heap.size := by rw [hu, hbx]; simp
  have HC : Hid (∀ X, Below u.heap.size u X → X.cell? ⟨bx, 0, none⟩ = some (.string ⟨#[]⟩) ∧ X.cell? ⟨bx, 1, none⟩ = some (.string ⟨#[]⟩) ∧ X.frozen? ⟨bx, 0, none⟩ = false ∧ X.frozen? ⟨bx, 1, none⟩ = false) := by
    intro X hX
    have hcs : ∀ j, X.cell? ⟨bx, j, none⟩ = (#[.string ⟨#[]⟩, .string ⟨#[]⟩] : Array Value)[j]? := fun j => by
      rw [hX.cell (p := ⟨bx, j, none⟩) hlx, hu, hbx]
      exact World.cell?_alloc_mark w _ _ _ j
    have hfs : ∀ j, X.frozen? ⟨bx, j, none⟩ = false := fun j => by
      rw [hX.frozen (p := ⟨bx, j, none⟩) hlx, hu, hbx, World.frozen?_alloc_mark]
      simp
    exact ⟨hcs 0, hcs 1, hfs 0, hfs 1⟩
  have H1 : Hid (∀ X, Calls Try.prog 54 #[.string x] X fun e w' => e = .returned (.string x) ∧ Below X.heap.size X w') := fun X => Clone_any x X hx
  have H2 : Hid (∀ X, Calls Try.prog 54 #[.string y] X fun e w' => e = .returned (.string y) ∧ Below X.heap.size X w') := fun X => Clone_any y X hy
  clear hx hy hbu hlx
  go_enter Try.func51, Try.ntmps51
  go_wp2_with fail
  rw [← hu]
  refine (H1.out _).mono ?_
  rintro e w1 ⟨rfl, hb1⟩
  have HB1 : Hid _ := hb1
  clear hb1
  go_wp2_with fail
  refine (H2.out _).mono ?_
  rintro e w2 ⟨rfl, hb2⟩
  have hb : Below u.heap.size u w2 := HB1.out.trans (hb2.mono HB1.out.size)
  have HB : Hid _ := hb
  obtain ⟨q0, q1, f0, f1⟩ := HC.out w2 hb
  rw [hbx] at q0 q1 f0 f1
  clear hb2 hb hu
  go_wp2
  rw [← hbx]
  rw [← hbx] at q0 q1
  have x0 : ((w2.setCell ⟨bx, 0, none⟩ (.string x)).setCell ⟨bx, 1, none⟩ (.string y)).cell? ⟨bx, 0, none⟩ = some (.string x) := by
    rw [World.cell?_setCell_other _ _ _ _ (by intro e; injection e with _ e; cases e)]
    exact World.cell?_setCell_same _ _ _ (by rw [q0])
  have x1 : ((w2.setCell ⟨bx, 0, none⟩ (.string x)).setCell ⟨bx, 1, none⟩ (.string y)).cell? ⟨bx, 1, none⟩ = some (.string y) := World.cell?_setCell_same _ _ _ (by rw [World.cell?_setCell_other _ _ _ _ (by intro e; injection e with _ e; cases e), q1])
  refine bodyPost_ret (v := .agg #[.string x, .string y]) ?qres rfl ?qpost
  case qres => simp [results, Try.results51, go_sem, x0, x1]
  case qpost =>
    have q := (((HU.out.1.trans (HB.out.mono HU.out.1.size)).setCell (p := ⟨bx, 0, none⟩) HU.out.2 (.string x)).setCell (p := ⟨bx, 1, none⟩) HU.out.2 (.string y))
    rw [hbx] at q ⊢
    exact ⟨rfl, q⟩

end Go.Proofs.Ytkioeahlajjmiaa
