/-
  Pieces of a row of numbers; slices.IndexFunc, Index, Contains and DeleteFunc of numbers.
-/
import Derived.Test.YtepbmfjimppgcaaMeSl
namespace Go.Proofs.Ytepbmfjimppgcaa
open Go.RowKit

def cutQ (p : Option Addr) (l m size : Nat) : Option Addr := if m = l then p else p.map (·.add (l * size))
theorem cutQ_some (g off l m s : Nat) : cutQ (some ⟨g, off, none⟩) l m s = some ⟨g, if m = l then off else off + l * s, none⟩ := by
  unfold cutQ
  split
  · rfl
  · simp [Addr.add]
theorem cutQ_zero (p : Option Addr) (c s : Nat) : cutQ p 0 c s = p := by
  unfold cutQ
  split
  · rfl
  · cases p <;> simp [Addr.add]

theorem int_cutLow (p : Option Addr) (n c l : Nat) (h1 : l ≤ n) (W : World) :
    (Instr.slice 50 (.slice p n c) (some (.int .i64 (l : Int))) none none).run Try.prog W = .ok (.slice (cutQ p l c 1) (n - l) (c - l)) W := by
  simp [Instr.slice, run_underlying Try.underlying50, Instr.sliceBounds, Instr.sliceBound, asIntOf, h1, cutQ]
theorem int_cutHigh (p : Option Addr) (n c h : Nat) (h1 : h ≤ c) (W : World) :
    (Instr.slice 50 (.slice p n c) none (some (.int .i64 (h : Int))) none).run Try.prog W = .ok (.slice (cutQ p 0 c 1) (h - 0) (c - 0)) W := by
  simp [Instr.slice, run_underlying Try.underlying50, Instr.sliceBounds, Instr.sliceBound, asIntOf, h1, cutQ]

theorem int_clear {w : World} {g off n c : Nat} (hR : RoomAt w g off c) (l : Nat) (h1 : l ≤ n) (h2 : n ≤ c) :
    ∃ w', (∀ ty, (Builtin.clear_ #[50] ty #[.slice (cutQ (some ⟨g, off, none⟩) l c 1) (n - l) (c - l)]).run Try.prog w = .ok (.tuple #[]) w') ∧ w.grownBy w' (some g) ∧ RoomAt w' g off c ∧ ∀ j, j < l → w'.cell? ⟨g, off + j, none⟩ = w.cell? ⟨g, off + j, none⟩ := by
  by_cases hz : n - l = 0
  · refine ⟨w, fun ty => ?_, ⟨rfl, rfl, rfl, Nat.le_refl _, fun _ _ _ => rfl⟩, hR, fun _ _ => rfl⟩
    rw [hz, cutQ_some]
    simp [Builtin.clear_, run_underlying Try.underlying50]
  · have hml : ¬ c = l := by omega
    rw [cutQ_some, if_neg hml, Nat.mul_one]
    have hlen : (Builtin.zeroCells #[.int .i64 0] (n - l)).toList.length = n - l := by
      rw [Array.length_toList, size_zeroCells]
      exact Nat.mul_one _
    have hone : ∀ u ∈ (Builtin.zeroCells #[.int .i64 0] (n - l)).toList, u.oneCell' = true := by
      intro u hu
      rw [Array.mem_toList_iff] at hu
      unfold Builtin.zeroCells at hu
      simp at hu
      obtain ⟨q, hq, hu⟩ := hu
      rw [← hu, Nat.mod_one]
      rfl
    have hst := run_storeCells_cells (P := Try.prog) g (off + l) (Builtin.zeroCells #[.int .i64 0] (n - l)).toList 0 w
      (fun j hj => by rw [hlen] at hj; rw [Nat.add_zero, Nat.add_assoc]; exact (hR _ (by omega)).1) (fun j hj => by rw [hlen] at hj; rw [Nat.add_zero, Nat.add_assoc]; exact (hR _ (by omega)).2) hone
    simp only [Nat.add_zero] at hst
    refine ⟨w.setCells g (off + l) (Builtin.zeroCells #[.int .i64 0] (n - l)).toList, fun ty => ?_, grown_setCells _ _ _ _, hR.setCells _ _ _, fun j hj => ?_⟩
    · obtain ⟨q, hq⟩ : ∃ q, n - l = q + 1 := ⟨n - l - 1, by omega⟩
      rw [hq] at hst ⊢
      simp [Builtin.clear_, run_underlying Try.underlying50, Value.cells, hst]
    · refine World.cell?_setCells_out g _ _ w ⟨g, off + j, none⟩ (fun _ _ => ?_)
      rw [hlen]
      show off + j < off + l ∨ off + l + (n - l) ≤ off + j
      omega

/-- A row of numbers, by its block. -/
theorem ints_cells {w : World} {v : Value} {l : List Nat} (h : RowC w 1 v l.length (intsL l)) (hn : 0 < l.length) : ∃ g off c, v = .slice (some ⟨g, off, none⟩) l.length c ∧ cBlk v = some g ∧ l.length ≤ c ∧ c ≤ maxLen ∧ RoomAt w g off c ∧ ∀ (j x : Nat), l[j]? = some x → w.cell? ⟨g, off + j, none⟩ = some (.int .i64 (x : Int)) := by
  obtain ⟨g, off, c, hv, h1, h2, hR, hC⟩ := h.cells hn
  refine ⟨g, off, c + 1, hv, by rw [hv]; rfl, h1, h2, by rw [Nat.mul_one] at hR; exact hR, fun j x hx => hC j _ (intsL_at hx)⟩

/-- The first number of which p is true. -/
def FirstN (l : List Nat) (p : Nat → Bool) (r : Int) : Prop := (r = -1 ∧ ∀ x ∈ l, p x = false) ∨ ∃ (k x : Nat), r = (k : Int) ∧ l[k]? = some x ∧ p x = true ∧ ∀ q y : Nat, q < k → l[q]? = some y → p y = false

def cloO (bx bd : Nat) : Value := .func (.func 49) #[] #[.pointer (some ⟨bx, 0, none⟩), .pointer (some ⟨bd, 0, none⟩)]
def CloO (bx bd : Nat) (p : Nat → Bool) (l : List Nat) (X : World) : Prop := ∀ x : Nat, x ∈ l → Calls Try.prog 49 #[.int .i64 (x : Int), .pointer (some ⟨bx, 0, none⟩), .pointer (some ⟨bd, 0, none⟩)] X fun e w' => e = .returned (.bool (p x)) ∧ Below X.heap.size X w'
set_option maxHeartbeats 800000 in
theorem IndexFuncN_c {w : World} {v : Value} {l : List Nat} {p : Nat → Bool} {bx bd : Nat} (h : RowC w 1 v l.length (intsL l)) (hm2 : l.length ≤ 1000)
    (hp : ∀ X, Below w.heap.size w X → CloO bx bd p l X) :
    Calls Try.prog 65 #[v, .func (.func 49) #[] #[.pointer (some ⟨bx, 0, none⟩), .pointer (some ⟨bd, 0, none⟩)]] w fun e w' => (∃ r, e = .returned (.int .i64 r) ∧ FirstN l p r) ∧ Below w.heap.size w w' := by
  have HI : Hid (∀ k, k < l.length → ∃ (x : Nat), l[k]? = some x ∧ ∃ g off c, v = .slice (some ⟨g, off, none⟩) l.length c ∧ ∀ X, Below w.heap.size w X → X.cell? ⟨g, off + k, none⟩ = some (.int .i64 (x : Int))) := by
    intro k hk
    obtain ⟨x, hx⟩ : ∃ x, l[k]? = some x := ⟨_, List.getElem?_eq_getElem hk⟩
    obtain ⟨g, off, c, hv, _, _, _, _, hC⟩ := ints_cells h (by omega)
    refine ⟨x, hx, g, off, c, hv, fun X hX => ?_⟩
    have y0 := hC k x hx
    exact (hX.cell (p := ⟨g, _, none⟩) (World.block_lt_of_cell? _ _ y0)).trans y0
  have HP : Hid (∀ X (x : Nat), x ∈ l → Below w.heap.size w X → Calls Try.prog 49 #[.int .i64 (x : Int), .pointer (some ⟨bx, 0, none⟩), .pointer (some ⟨bd, 0, none⟩)] X fun e w' => e = .returned (.bool (p x)) ∧ Below w.heap.size w w') := fun X x hx hX => by
    refine (hp X hX x hx).mono ?_
    rintro e w' ⟨rfl, hb⟩
    exact ⟨rfl, hX.trans (hb.mono hX.size)⟩
  obtain ⟨pp, cc, hv, _, _⟩ := h.form
  obtain ⟨m, hm⟩ : ∃ m, m = l.length := ⟨_, rfl⟩
  have HM : Hid (m = l.length) := hm
  rw [← hm] at HI hv hm2
  clear h hp hm
  subst hv
  go_enter Try.func65, Try.ntmps65
  go_wp2
  go_loopw [8] (fun iv wr => ∃ k : Nat, iv = .int .i64 (k : Int) ∧ k ≤ m ∧ Hid (Below w.heap.size w wr ∧ ∀ q y : Nat, q < k → l[q]? = some y → p y = false)) (fun iv _ => m - (intOf iv).toNat)
  case atStart => exact ⟨0, rfl, Nat.zero_le _, Below.refl _ _, fun q y hq => by omega⟩
  case round =>
    obtain ⟨k, rfl, hkm, HV⟩ := hrel
    by_cases hlt : k < m
    · obtain ⟨x, hl, g, off, c, hp, hX⟩ := HI.out k hlt
      injection hp with hp1 _ hp3
      subst hp1 hp3
      have y0 := hX wr HV.out.1
      have HL : Hid (l[k]? = some x) := hl
      have hk0 : (0 : Int) ≤ (k : Int) := Int.natCast_nonneg k
      have HCl := HP.out wr x (List.mem_of_getElem? hl) HV.out.1
      clear hX hl
      cases hq : p x with
      | true =>
        rw [hq] at HCl
        have HCl : Hid _ := HCl
        have HF : Hid (FirstN l p (k : Int)) := .inr ⟨k, x, rfl, HL.out, hq, HV.out.2⟩
        clear hq
        go_wp2_with fail
        refine Calls.mono HCl.out ?_
        rintro e X ⟨rfl, hb⟩
        have HB : Hid _ := hb
        clear hb
        go_wp2
        go_ret
        exact ⟨⟨_, rfl, HF.out⟩, HB.out⟩
      | false =>
        rw [hq] at HCl
        have HCl : Hid _ := HCl
        have HNx : Hid (∀ q y : Nat, q < k + 1 → l[q]? = some y → p y = false) := fun q y hq' hl' => by
          by_cases hqk : q < k
          · exact HV.out.2 q y hqk hl'
          · have : q = k := by omega
            subst this
            rw [HL.out] at hl'
            injection hl' with hl'
            rw [← hl']
            exact hq
        clear hq
        go_wp2_with fail
        refine Calls.mono HCl.out ?_
        rintro e X ⟨rfl, hb⟩
        have HB : Hid _ := hb
        clear hb
        go_wp2
        go_roundw
        case rel => exact ⟨k + 1, by go_num, by omega, HB.out, HNx.out⟩
        case measure => simp [intOf]; omega
    · obtain rfl : k = m := by omega
      have HF : Hid (FirstN l p (-1)) := .inl ⟨rfl, fun x hx => by
        obtain ⟨q, hq, e⟩ := List.getElem_of_mem hx
        exact HV.out.2 q x (by rw [HM.out]; exact hq) (by rw [List.getElem?_eq_getElem hq, e])⟩
      go_wp2
      go_ret
      exact ⟨⟨_, rfl, HF.out⟩, HV.out.1⟩

/-- What Index finds. -/
theorem IndexN_c {w : World} {v : Value} {l : List Nat} (y : Int) (h : RowC w 1 v l.length (intsL l)) (hm2 : l.length ≤ 1000) :
    Calls Try.prog 69 #[v, .int .i64 y] w fun e w' => (∃ r : Int, e = .returned (.int .i64 r) ∧ decide (0 ≤ r) = l.any fun (x : Nat) => decide ((x : Int) = y)) ∧ w' = w := by
  have HI : Hid (∀ k, k < l.length → ∃ (x : Nat), l[k]? = some x ∧ ∃ g off c, v = .slice (some ⟨g, off, none⟩) l.length c ∧ w.cell? ⟨g, off + k, none⟩ = some (.int .i64 (x : Int))) := by
    intro k hk
    obtain ⟨x, hx⟩ : ∃ x, l[k]? = some x := ⟨_, List.getElem?_eq_getElem hk⟩
    obtain ⟨g, off, c, hv, _, _, _, _, hC⟩ := ints_cells h (by omega)
    exact ⟨x, hx, g, off, c, hv, hC k x hx⟩
  obtain ⟨pp, cc, hv, _, _⟩ := h.form
  obtain ⟨m, hm⟩ : ∃ m, m = l.length := ⟨_, rfl⟩
  have HM : Hid (m = l.length) := hm
  rw [← hm] at HI hv hm2
  clear h hm
  subst hv
  go_enter Try.func69, Try.ntmps69
  go_wp2
  go_loopw [8] (fun iv wr => ∃ k : Nat, iv = .int .i64 (k : Int) ∧ k ≤ m ∧ wr = w ∧ Hid (∀ q x : Nat, q < k → l[q]? = some x → (x : Int) ≠ y)) (fun iv _ => m - (intOf iv).toNat)
  case atStart => exact ⟨0, rfl, Nat.zero_le _, rfl, fun q y hq => by omega⟩
  case round =>
    obtain ⟨k, rfl, hkm, hw, HV⟩ := hrel
    subst hw
    by_cases hlt : k < m
    · obtain ⟨x, hl, g, off, c, hp, y0⟩ := HI.out k hlt
      injection hp with hp1 _ hp3
      subst hp1 hp3
      have HL : Hid (l[k]? = some x) := hl
      have hk0 : (0 : Int) ≤ (k : Int) := Int.natCast_nonneg k
      clear hl
      by_cases hq : y = (x : Int)
      · have HF : Hid (decide (0 ≤ (k : Int)) = l.any fun (x : Nat) => decide ((x : Int) = y)) := by
          have h1 : decide (0 ≤ (k : Int)) = true := by simp
          have h2 : (l.any fun (x : Nat) => decide ((x : Int) = y)) = true := List.any_eq_true.2 ⟨x, List.mem_of_getElem? HL.out, by simp [hq]⟩
          exact h1.trans h2.symm
        subst hq
        go_wp2
        go_ret
        exact ⟨⟨_, rfl, HF.out⟩, rfl⟩
      · have HNx : Hid (∀ q x : Nat, q < k + 1 → l[q]? = some x → (x : Int) ≠ y) := fun q z hq' hl' => by
          by_cases hqk : q < k
          · exact HV.out q z hqk hl'
          · have : q = k := by omega
            subst this
            rw [HL.out] at hl'
            injection hl' with hl'
            rw [← hl']
            exact fun e => hq e.symm
        go_wp2
        go_roundw
        case rel => exact ⟨k + 1, by go_num, by omega, by first | rfl | trivial, HNx⟩
        case measure => simp [intOf]; omega
    · obtain rfl : k = m := by omega
      have HF : Hid (decide (0 ≤ (-1 : Int)) = l.any fun (x : Nat) => decide ((x : Int) = y)) := by
        have h1 : decide (0 ≤ (-1 : Int)) = false := by simp
        have h2 : (l.any fun (x : Nat) => decide ((x : Int) = y)) = false := List.any_eq_false.2 fun x hx => by
          obtain ⟨q, hq, e⟩ := List.getElem_of_mem hx
          have := HV.out q x (by rw [HM.out]; exact hq) (by rw [List.getElem?_eq_getElem hq, e])
          simpa using this
        exact h1.trans h2.symm
      go_wp2
      go_ret
      exact ⟨⟨_, rfl, HF.out⟩, rfl⟩
theorem ContainsN_c {w : World} {v : Value} {l : List Nat} (y : Int) (h : RowC w 1 v l.length (intsL l)) (hm2 : l.length ≤ 1000) :
    Calls Try.prog 57 #[v, .int .i64 y] w fun e w' => e = .returned (.bool (l.any fun (x : Nat) => decide ((x : Int) = y))) ∧ w' = w := by
  have HI : Hid _ := IndexN_c y h hm2
  obtain ⟨b, hb⟩ : ∃ b, b = l.any fun (x : Nat) => decide ((x : Int) = y) := ⟨_, rfl⟩
  rw [← hb] at HI ⊢
  clear h hb
  go_enter Try.func57, Try.ntmps57
  go_wp2_with fail
  refine Calls.mono HI.out ?_
  rintro e w1 ⟨⟨r, rfl, hr⟩, hw1⟩
  have hw1 := hw1.symm
  subst hw1
  have HR : Hid (decide (0 ≤ r) = b) := hr
  clear hr
  go_wp2
  go_ret
  exact ⟨ret_bool (by rw [← HR.out]), rfl⟩
end Go.Proofs.Ytepbmfjimppgcaa
