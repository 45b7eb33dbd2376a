/-
  Arguments: an op, slices of ops and of numbers: what a walk wants of them.
-/
import Derived.ProofKit
import Derived.OpenShut
import Derived.ShutString
import Derived.Deep.Strs
import Derived.Test.YtkioeahlajjmiaaMoCheck
namespace Go.Proofs.Ytkioeahlajjmiaa
open Go.ChangeShapes Go.WideShapes Go.ChangeAt Go.RowKit Go.Deep

theorem wf6 {n : Int} (h : (Lit.int .i64 n).wf = true) : -9223372036854775808 ≤ n ∧ n ≤ 9223372036854775807 := by
  simpa [Lit.wf, IntKind.min, IntKind.max, IntKind.signed, IntKind.bits] using h

/-- The slice v holds elements, so many cells each, the cells by f. -/
def Elems {α : Type} (w : World) (K : Nat) (f : α → List Value) (good : α → Prop) (v : Value) (l : List α) : Prop :=
  ∃ ao c, v = .slice ao l.length c ∧ l.length ≤ c ∧ c ≤ maxLen ∧ (∀ x ∈ l, good x) ∧ (l = [] ∨ ∃ g o, ao = some ⟨g, o, none⟩ ∧ g < w.heap.size ∧ ∀ j x, l[j]? = some x → ∀ q u, (f x)[q]? = some u → w.cell? ⟨g, o + j * K + q, none⟩ = some u)

theorem Elems.below {α : Type} {w w' : World} {K : Nat} {f : α → List Value} {good : α → Prop} {v : Value} {l : List α} (h : Elems w K f good v l) (hb : ∀ k, k < w.heap.size → w'.heap[k]? = w.heap[k]?) (hs : w.heap.size ≤ w'.heap.size) : Elems w' K f good v l := by
  obtain ⟨ao, c, h1, h2, h3, h4, h5 | ⟨g, o, h6, h7, h8⟩⟩ := h
  · exact ⟨ao, c, h1, h2, h3, h4, .inl h5⟩
  · refine ⟨ao, c, h1, h2, h3, h4, .inr ⟨g, o, h6, Nat.lt_of_lt_of_le h7 hs, fun j x hj q u hu => ?_⟩⟩
    rw [World.cell?_of_block (a := ⟨g, o + j * K + q, none⟩) (hb g h7)]
    exact h8 j x hj q u hu

/-- A number of 64 bits. -/
def In64 (a : Int) : Prop := -9223372036854775808 ≤ a ∧ a ≤ 9223372036854775807

section
variable {H : Type} {enc : TypeId × Value → H} {w : World} {base : Nat} {sp : Nat → Bool} {held : Bool}

set_option maxRecDepth 20000 in
/-- A slice argument, opened. -/
theorem open_elems {α : Type} {t e : TypeId} {K : Nat} {f : α → List Value} {good : α → Prop} (hK : 0 < K) (hf0 : ∀ x, (f x).length = K) (ht : Try.prog.underlying t = some (.slice e)) (hce : Try.prog.cellsOf e = K)
    (hof : ∀ (fuel : Nat) (cs : List Value) (x : DataW H × List MemPlace), cs.length = K → DataW.trod enc Try.prog w base sp held fuel e cs = some x → ∃ y, cs = f y ∧ good y)
    {r : Reach} {b0 : Nat} {v : Value} {d : DataW H} {p : List MemPlace} (hv : Value.okWide Try.prog w r b0 t v) (h : DataW.Trod enc Try.prog w base sp held t v d p) : ∃ l, Elems w K f good v l := by
  obtain ⟨a0, len, cap, rfl⟩ := okWide_slice ht hv
  obtain ⟨fuel, hf⟩ := h
  rcases open_slice ht hf with ⟨hcs, _⟩ | ⟨a, len', cap', m, n, D, Pl, hcs, _, hl, hm, hmm, _, hx⟩
  · simp [Value.cells] at hcs
    obtain ⟨rfl, rfl, rfl⟩ := hcs
    exact ⟨[], none, 0, rfl, Nat.le_refl _, by unfold maxLen; omega, fun _ h => (by cases h), .inl rfl⟩
  · simp [Value.cells] at hcs
    obtain ⟨rfl, rfl, rfl⟩ := hcs
    have hlm : len ≤ m := by rw [hmm]; split <;> omega
    have key : ∀ j, j < len → ∃ y, good y ∧ ∀ q u, (f y)[q]? = some u → w.cell? (a.add (j * K + q)) = some u := by
      intro j hj
      obtain ⟨cs', h1, h2⟩ := hx j (by omega)
      rw [hce] at h1
      obtain ⟨_, hlen, hcell⟩ := World.cells?_some h1
      obtain ⟨y, hy, hin⟩ := hof _ _ _ hlen h2
      subst hy
      refine ⟨y, hin, fun q u hu => ?_⟩
      have hq := (List.getElem?_eq_some_iff.1 hu).1
      have := hcell q (by rw [← hlen]; exact hq)
      rw [add_add] at this
      rw [this]
      first
        | exact hu
        | (rw [← hu]; simp)
        | (simpa using hu)
    obtain ⟨l, hll, hlk⟩ : ∃ l : List α, l.length = len ∧ ∀ j y, l[j]? = some y → good y ∧ ∀ q u, (f y)[q]? = some u → w.cell? (a.add (j * K + q)) = some u := by
      have : ∀ n, n ≤ len → ∃ l : List α, l.length = n ∧ ∀ j y, l[j]? = some y → good y ∧ ∀ q u, (f y)[q]? = some u → w.cell? (a.add (j * K + q)) = some u := by
        intro n
        induction n with
        | zero => intro _; exact ⟨[], rfl, fun j y q => by simp at q⟩
        | succ n ih =>
          intro hn
          obtain ⟨l, h1, h2⟩ := ih (by omega)
          obtain ⟨y, hy⟩ := key n (by omega)
          refine ⟨l ++ [y], by simp [h1], fun j z q => ?_⟩
          by_cases e : j < l.length
          · rw [List.getElem?_append_left e] at q
            exact h2 j z q
          · have e2 : j = n := by
              have := (List.getElem?_eq_some_iff.1 q).1
              rw [List.length_append] at this
              simp at this
              omega
            subst e2
            rw [← h1] at q
            simp at q
            subst q
            rw [← h1] at hy
            rw [← h1]
            exact hy
      exact this len (Nat.le_refl _)
    refine ⟨l, some a, cap, by rw [hll], by omega, hm, fun x hx => ?_, ?_⟩
    · obtain ⟨j, hj⟩ := List.getElem?_of_mem hx
      exact (hlk j x hj).1
    · rcases Nat.eq_zero_or_pos len with h0 | h0
      · exact .inl (List.eq_nil_of_length_eq_zero (by omega))
      · right
        obtain ⟨b, off, spot⟩ := a
        obtain ⟨y0, _, k0⟩ := key 0 h0
        have k0 := k0 0 _ (List.getElem?_eq_getElem (by rw [hf0]; exact hK))
        have hspot : spot = none := by simpa [Addr.add] using World.cell?_spot k0
        subst hspot
        refine ⟨b, off, rfl, ?_, fun j y hj q u hu => ?_⟩
        · have := World.block_lt_of_cell? _ _ k0
          simpa [Addr.add] using this
        · have := (hlk j y hj).2 q u hu
          simp only [add_plain] at this
          rw [Nat.add_assoc]
          exact this

/-- A number that came in. -/
def i1Cells (x : Int) : List Value := [.int .i64 x]
set_option maxRecDepth 20000 in
theorem i1_of {fuel : Nat} {cs : List Value} {x : DataW H × List MemPlace} (hl : cs.length = 1) (h : DataW.trod enc Try.prog w base sp held fuel 3 cs = some x) : ∃ r, cs = i1Cells r ∧ In64 r := by
  match cs, hl with
  | [c0], _ =>
    obtain ⟨x, ex, _, wx⟩ := DataW.trod_int Try.underlying3 h
    simp at ex
    subst ex
    exact ⟨x, rfl, wf6 wx⟩

/-- An op's cells. -/
def op9Cells (o : Mo.Op) : List Value := [.int .i64 o.kind, .string o.space, .string o.channel, .string o.user, .string o.text, .string o.toSpace, .string o.to, .int .i64 o.frm, .int .i64 o.most]
def Op9In (o : Mo.Op) : Prop := OpOk o ∧ In64 o.kind ∧ In64 o.frm ∧ In64 o.most

theorem op9_struct : ∃ f0 f1 f2 f3 f4 f5 f6 f7 f8 : Field, Try.prog.underlying 32 = some (.struct #[f0, f1, f2, f3, f4, f5, f6, f7, f8]) ∧ (f0.type, f0.offset) = (3, 0) ∧ (f1.type, f1.offset) = (9, 1) ∧ (f2.type, f2.offset) = (9, 2) ∧ (f3.type, f3.offset) = (9, 3) ∧ (f4.type, f4.offset) = (9, 4) ∧ (f5.type, f5.offset) = (9, 5) ∧ (f6.type, f6.offset) = (9, 6) ∧ (f7.type, f7.offset) = (3, 7) ∧ (f8.type, f8.offset) = (3, 8) :=
  ⟨_, _, _, _, _, _, _, _, _, Try.underlying32, rfl, rfl, rfl, rfl, rfl, rfl, rfl, rfl, rfl⟩

set_option maxHeartbeats 800000 in
set_option maxRecDepth 20000 in
theorem op9_of {fuel : Nat} {cs : List Value} {x : DataW H × List MemPlace} (hl : cs.length = 9) (h : DataW.trod enc Try.prog w base sp held fuel 32 cs = some x) : ∃ r, cs = op9Cells r ∧ Op9In r := by
  have hc1 : Try.prog.cellsOf 3 = 1 := by kernel_rfl
  have hc2 : Try.prog.cellsOf 9 = 1 := by kernel_rfl
  obtain ⟨f0, f1, f2, f3, f4, f5, f6, f7, f8, hst, e0, e1, e2, e3, e4, e5, e6, e7, e8⟩ := op9_struct
  injection e0 with e0 e0'
  injection e1 with e1 e1'
  injection e2 with e2 e2'
  injection e3 with e3 e3'
  injection e4 with e4 e4'
  injection e5 with e5 e5'
  injection e6 with e6 e6'
  injection e7 with e7 e7'
  injection e8 with e8 e8'
  obtain ⟨xs, n', _, _, _, hxl, hfs⟩ := DataW.trod_struct hst h
  match cs, hl with
  | [v0, v1, v2, v3, v4, v5, v6, v7, v8], _ =>
    match xs, hxl with
    | [y0, y1, y2, y3, y4, y5, y6, y7, y8], _ =>
      have t0 := hfs 0 f0 rfl
      rw [e0, e0', hc1] at t0
      have t1 := hfs 1 f1 rfl
      rw [e1, e1', hc2] at t1
      have t2 := hfs 2 f2 rfl
      rw [e2, e2', hc2] at t2
      have t3 := hfs 3 f3 rfl
      rw [e3, e3', hc2] at t3
      have t4 := hfs 4 f4 rfl
      rw [e4, e4', hc2] at t4
      have t5 := hfs 5 f5 rfl
      rw [e5, e5', hc2] at t5
      have t6 := hfs 6 f6 rfl
      rw [e6, e6', hc2] at t6
      have t7 := hfs 7 f7 rfl
      rw [e7, e7', hc1] at t7
      have t8 := hfs 8 f8 rfl
      rw [e8, e8', hc1] at t8
      obtain ⟨n0, q0, _, w0⟩ := DataW.trod_int Try.underlying3 t0
      obtain ⟨n1, q1, _, w1⟩ := DataW.trod_string Try.underlying9 t1
      obtain ⟨n2, q2, _, w2⟩ := DataW.trod_string Try.underlying9 t2
      obtain ⟨n3, q3, _, w3⟩ := DataW.trod_string Try.underlying9 t3
      obtain ⟨n4, q4, _, w4⟩ := DataW.trod_string Try.underlying9 t4
      obtain ⟨n5, q5, _, w5⟩ := DataW.trod_string Try.underlying9 t5
      obtain ⟨n6, q6, _, w6⟩ := DataW.trod_string Try.underlying9 t6
      obtain ⟨n7, q7, _, w7⟩ := DataW.trod_int Try.underlying3 t7
      obtain ⟨n8, q8, _, w8⟩ := DataW.trod_int Try.underlying3 t8
      simp at q0 q1 q2 q3 q4 q5 q6 q7 q8
      subst q0 q1 q2 q3 q4 q5 q6 q7 q8
      exact ⟨⟨n0, n1, n2, n3, n4, n5, n6, n7, n8⟩, rfl, ⟨w1, w2, w3, w4, w5, w6⟩, wf6 w0, wf6 w7, wf6 w8⟩

set_option maxRecDepth 20000 in
theorem open_op9 {r : Reach} {b0 : Nat} {v : Value} {d : DataW H} {p : List MemPlace} (hv : Value.okWide Try.prog w r b0 32 v) (h : DataW.Trod enc Try.prog w base sp held 32 v d p) :
    ∃ o : Mo.Op, v = .agg #[.int .i64 o.kind, .string o.space, .string o.channel, .string o.user, .string o.text, .string o.toSpace, .string o.to, .int .i64 o.frm, .int .i64 o.most] ∧ Op9In o := by
  simp only [Value.okWide, Try.underlying32] at hv
  obtain ⟨cs, rfl, hs, _⟩ := hv
  rw [show Try.prog.cellsOf 32 = 9 by kernel_rfl] at hs
  obtain ⟨fuel, hf⟩ := h
  have hf' : DataW.trod enc Try.prog w base sp held fuel 32 cs.toList = some (d, p) := by simpa [Value.cells] using hf
  obtain ⟨o, ho, hin⟩ := op9_of (by simpa using hs) hf'
  refine ⟨o, ?_, hin⟩
  have : cs = (op9Cells o).toArray := by rw [← ho]
  rw [this]
  rfl
set_option maxRecDepth 20000 in
theorem open_ops9 {r : Reach} {b0 : Nat} {v : Value} {d : DataW H} {p : List MemPlace} (hv : Value.okWide Try.prog w r b0 38 v) (h : DataW.Trod enc Try.prog w base sp held 38 v d p) :
    ∃ l, Elems w 9 op9Cells Op9In v l :=
  open_elems (K := 9) (by omega) (fun _ => rfl) Try.underlying38 (by kernel_rfl) (fun _ _ _ hl h => op9_of hl h) hv h
set_option maxRecDepth 20000 in
theorem open_ints9 {r : Reach} {b0 : Nat} {v : Value} {d : DataW H} {p : List MemPlace} (hv : Value.okWide Try.prog w r b0 40 v) (h : DataW.Trod enc Try.prog w base sp held 40 v d p) :
    ∃ l, Elems w 1 i1Cells In64 v l :=
  open_elems (K := 1) (by omega) (fun _ => rfl) Try.underlying40 (by kernel_rfl) (fun _ _ _ hl h => i1_of hl h) hv h

end
end Go.Proofs.Ytkioeahlajjmiaa
