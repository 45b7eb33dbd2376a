/-
  Arguments that are slices of elements of several cells: what a walk wants of them.
-/
import Derived.ProofKit
import Derived.OpenShut
import Derived.ShutString
import Derived.Deep.Strs
import Derived.Test.YtepbmfjimppgcaaRows
import Derived.Test.YtepbmfjimppgcaaOwn
namespace Go.Proofs.Ytepbmfjimppgcaa
open Go.ChangeShapes Go.WideShapes Go.ChangeAt Go.RowKit Go.Deep

/-- A number of 64 bits. -/
def In64 (a : Int) : Prop := -9223372036854775808 ≤ a ∧ a ≤ 9223372036854775807

theorem wf6 {n : Int} (h : (Lit.int .i64 n).wf = true) : -9223372036854775808 ≤ n ∧ n ≤ 9223372036854775807 := by
  simpa [Lit.wf, IntKind.min, IntKind.max, IntKind.signed, IntKind.bits] using h

/-- The slice v holds elements, so many cells each, the cells by f. -/
def Elems {α : Type} (w : World) (K : Nat) (f : α → List Value) (good : α → Prop) (v : Value) (l : List α) : Prop :=
  ∃ ao c, v = .slice ao l.length c ∧ l.length ≤ c ∧ c ≤ maxLen ∧ (∀ x ∈ l, good x) ∧ (l = [] ∨ ∃ g o, ao = some ⟨g, o, none⟩ ∧ g < w.heap.size ∧ ∀ j x, l[j]? = some x → ∀ q u, (f x)[q]? = some u → w.cell? ⟨g, o + j * K + q, none⟩ = some u)

theorem Elems.below {α : Type} {w w' : World} {K : Nat} {f : α → List Value} {good : α → Prop} {v : Value} {l : List α} (h : Elems w K f good v l) (hb : ∀ k, k < w.heap.size → w'.heap[k]? = w.heap[k]?) (hs : w.heap.size ≤ w'.heap.size) : Elems w' K f good v l := by
  obtain ⟨ao, c, h1, h2, h3, h4, h5 | ⟨g, o, h6, h7, h8⟩⟩ := h
  · exact ⟨ao, c, h1, h2, h3, h4, .inl h5⟩
  · refine ⟨ao, c, h1, h2, h3, h4, .inr ⟨g, o, h6, Nat.lt_of_lt_of_le h7 hs, fun j x hj q u hu => ?_⟩⟩
    rw [World.cell?_of_block (a := ⟨g, o + j * K + q, none⟩) (hb g h7)]
    exact h8 j x hj q u hu

section
variable {H : Type} {enc : TypeId × Value → H} {w : World} {base : Nat} {sp : Nat → Bool} {held : Bool}

set_option maxRecDepth 20000 in
/-- A slice argument, opened. -/
theorem open_elems {α : Type} {t e : TypeId} {K : Nat} {f : α → List Value} {good : α → Prop} (hK : 0 < K) (hf0 : ∀ x, (f x).length = K) (ht : Try.prog.underlying t = some (.slice e)) (hce : Try.prog.cellsOf e = K)
    (hof : ∀ (fuel : Nat) (cs : List Value) (x : DataW H × List MemPlace), cs.length = K → DataW.trod enc Try.prog w base sp held fuel e cs = some x → ∃ y, cs = f y ∧ good y)
    {r : Reach} {b0 : Nat} {v : Value} {d : DataW H} {p : List MemPlace} (hv : Value.okWide Try.prog w r b0 t v) (h : DataW.Trod enc Try.prog w base sp held t v d p) : ∃ l, Elems w K f good v l := by
  obtain ⟨a0, len, cap, rfl⟩ := okWide_slice ht hv
  obtain ⟨fuel, hf⟩ := h
  rcases open_slice ht hf with ⟨hcs, _⟩ | ⟨a, len', cap', m, n, D, Pl, hcs, _, hl, hm, hmm, _, hx⟩
  · simp [Value.cells] at hcs
    obtain ⟨rfl, rfl, rfl⟩ := hcs
    exact ⟨[], none, 0, rfl, Nat.le_refl _, by unfold maxLen; omega, fun _ h => (by cases h), .inl rfl⟩
  · simp [Value.cells] at hcs
    obtain ⟨rfl, rfl, rfl⟩ := hcs
    have hlm : len ≤ m := by rw [hmm]; split <;> omega
    have key : ∀ j, j < len → ∃ y, good y ∧ ∀ q u, (f y)[q]? = some u → w.cell? (a.add (j * K + q)) = some u := by
      intro j hj
      obtain ⟨cs', h1, h2⟩ := hx j (by omega)
      rw [hce] at h1
      obtain ⟨_, hlen, hcell⟩ := World.cells?_some h1
      obtain ⟨y, hy, hin⟩ := hof _ _ _ hlen h2
      subst hy
      refine ⟨y, hin, fun q u hu => ?_⟩
      have hq := (List.getElem?_eq_some_iff.1 hu).1
      have := hcell q (by rw [← hlen]; exact hq)
      rw [add_add] at this
      rw [this]
      first
        | exact hu
        | (rw [← hu]; simp)
        | (simpa using hu)
    obtain ⟨l, hll, hlk⟩ : ∃ l : List α, l.length = len ∧ ∀ j y, l[j]? = some y → good y ∧ ∀ q u, (f y)[q]? = some u → w.cell? (a.add (j * K + q)) = some u := by
      have : ∀ n, n ≤ len → ∃ l : List α, l.length = n ∧ ∀ j y, l[j]? = some y → good y ∧ ∀ q u, (f y)[q]? = some u → w.cell? (a.add (j * K + q)) = some u := by
        intro n
        induction n with
        | zero => intro _; exact ⟨[], rfl, fun j y q => by simp at q⟩
        | succ n ih =>
          intro hn
          obtain ⟨l, h1, h2⟩ := ih (by omega)
          obtain ⟨y, hy⟩ := key n (by omega)
          refine ⟨l ++ [y], by simp [h1], fun j z q => ?_⟩
          by_cases e : j < l.length
          · rw [List.getElem?_append_left e] at q
            exact h2 j z q
          · have e2 : j = n := by
              have := (List.getElem?_eq_some_iff.1 q).1
              rw [List.length_append] at this
              simp at this
              omega
            subst e2
            rw [← h1] at q
            simp at q
            subst q
            rw [← h1] at hy
            rw [← h1]
            exact hy
      exact this len (Nat.le_refl _)
    refine ⟨l, some a, cap, by rw [hll], by omega, hm, fun x hx => ?_, ?_⟩
    · obtain ⟨j, hj⟩ := List.getElem?_of_mem hx
      exact (hlk j x hj).1
    · rcases Nat.eq_zero_or_pos len with h0 | h0
      · exact .inl (List.eq_nil_of_length_eq_zero (by omega))
      · right
        obtain ⟨b, off, spot⟩ := a
        obtain ⟨y0, _, k0⟩ := key 0 h0
        have k0 := k0 0 _ (List.getElem?_eq_getElem (by rw [hf0]; exact hK))
        have hspot : spot = none := by simpa [Addr.add] using World.cell?_spot k0
        subst hspot
        refine ⟨b, off, rfl, ?_, fun j y hj q u hu => ?_⟩
        · have := World.block_lt_of_cell? _ _ k0
          simpa [Addr.add] using this
        · have := (hlk j y hj).2 q u hu
          simp only [add_plain] at this
          rw [Nat.add_assoc]
          exact this

/-- A number that came in. -/
def i1Cells (x : Int) : List Value := [.int .i64 x]
/-- Two numbers that came in. -/
def A2In (x : Int × Int) : Prop := In64 x.1 ∧ In64 x.2
def a2Cells (x : Int × Int) : List Value := [.int .i64 x.1, .int .i64 x.2]
set_option maxRecDepth 20000 in
theorem i1_of {fuel : Nat} {cs : List Value} {x : DataW H × List MemPlace} (hl : cs.length = 1) (h : DataW.trod enc Try.prog w base sp held fuel 3 cs = some x) : ∃ r, cs = i1Cells r ∧ In64 r := by
  match cs, hl with
  | [c0], _ =>
    obtain ⟨x, ex, _, wx⟩ := DataW.trod_int Try.underlying3 h
    simp at ex
    subst ex
    exact ⟨x, rfl, wf6 wx⟩

set_option maxRecDepth 20000 in
theorem a2_of {fuel : Nat} {cs : List Value} {x : DataW H × List MemPlace} (hl : cs.length = 2) (h : DataW.trod enc Try.prog w base sp held fuel 27 cs = some x) : ∃ r, cs = a2Cells r ∧ A2In r := by
  have hce : Try.prog.cellsOf 3 = 1 := by kernel_rfl
  obtain ⟨xs, m, _, _, _, hx2, hxs⟩ := DataW.trod_array Try.underlying27 h
  match cs, hl with
  | [c0, c1], _ =>
    obtain ⟨y0, y1, rfl⟩ : ∃ y0 y1, xs = [y0, y1] := by
      match xs, hx2 with
      | [y0, y1], _ => exact ⟨y0, y1, rfl⟩
    have e0 := hxs 0 (by omega)
    have e1 := hxs 1 (by omega)
    rw [hce] at e0 e1
    simp at e0 e1
    obtain ⟨x, ex, _, wx⟩ := DataW.trod_int Try.underlying3 e0
    obtain ⟨y, ey, _, wy⟩ := DataW.trod_int Try.underlying3 e1
    simp at ex ey
    subst ex ey
    exact ⟨(x, y), rfl, wf6 wx, wf6 wy⟩

set_option maxRecDepth 20000 in
theorem open_ints8 {r : Reach} {b0 : Nat} {v : Value} {d : DataW H} {p : List MemPlace} (hv : Value.okWide Try.prog w r b0 50 v) (h : DataW.Trod enc Try.prog w base sp held 50 v d p) :
    ∃ l, Elems w 1 i1Cells In64 v l :=
  open_elems (K := 1) (by omega) (fun _ => rfl) Try.underlying50 (by kernel_rfl) (fun _ _ _ hl h => i1_of hl h) hv h
set_option maxRecDepth 20000 in
theorem open_a2s {r : Reach} {b0 : Nat} {v : Value} {d : DataW H} {p : List MemPlace} (hv : Value.okWide Try.prog w r b0 22 v) (h : DataW.Trod enc Try.prog w base sp held 22 v d p) :
    ∃ l, Elems w 2 a2Cells A2In v l :=
  open_elems (K := 2) (by omega) (fun _ => rfl) Try.underlying22 (by kernel_rfl) (fun _ _ _ hl h => a2_of hl h) hv h

end
end Go.Proofs.Ytepbmfjimppgcaa
