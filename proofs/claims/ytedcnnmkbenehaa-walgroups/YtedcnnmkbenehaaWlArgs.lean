/-
  Arguments that are a record, or a script of calls of a log: what a walk wants of them.
-/
import Derived.ProofKit
import Derived.OpenShut
import Derived.ShutString
import Derived.Deep.Strs
import Derived.Test.YtedcnnmkbenehaaWlRec
namespace Go.Proofs.Ytedcnnmkbenehaa
open Go.ChangeShapes Go.WideShapes Go.ChangeAt Go.RowKit Go.Deep

theorem rec_struct : ∃ f0 f1 f2 f3 f4 f5 : Field, Try.prog.underlying 37 = some (.struct #[f0, f1, f2, f3, f4, f5]) ∧ (f0.type, f0.offset) = (3, 0) ∧ (f1.type, f1.offset) = (3, 1) ∧ (f2.type, f2.offset) = (3, 2) ∧ (f3.type, f3.offset) = (3, 3) ∧ (f4.type, f4.offset) = (3, 4) ∧ (f5.type, f5.offset) = (9, 5) :=
  ⟨_, _, _, _, _, _, Try.underlying37, rfl, rfl, rfl, rfl, rfl, rfl⟩

/-- The fields of a record that came in lie in their bounds. -/
def RecIn (r : W.Rec) : Prop :=
  (-9223372036854775808 ≤ r.group ∧ r.group ≤ 9223372036854775807) ∧ (-9223372036854775808 ≤ r.kind ∧ r.kind ≤ 9223372036854775807) ∧ (-9223372036854775808 ≤ r.index ∧ r.index ≤ 9223372036854775807) ∧ (-9223372036854775808 ≤ r.term ∧ r.term ≤ 9223372036854775807) ∧ (-9223372036854775808 ≤ r.vote ∧ r.vote ≤ 9223372036854775807) ∧ r.data.size ≤ maxLen

theorem wf5 {n : Int} (h : (Lit.int .i64 n).wf = true) : -9223372036854775808 ≤ n ∧ n ≤ 9223372036854775807 := by
  simpa [Lit.wf, IntKind.min, IntKind.max, IntKind.signed, IntKind.bits] using h

section
variable {H : Type} {enc : TypeId × Value → H} {w : World} {base : Nat} {sp : Nat → Bool} {held : Bool}

set_option maxRecDepth 20000 in
theorem rec_of {fuel : Nat} {cs : List Value} {x : DataW H × List MemPlace} (hl : cs.length = 6) (h : DataW.trod enc Try.prog w base sp held fuel 37 cs = some x) :
    ∃ r : W.Rec, cs = [.int .i64 r.group, .int .i64 r.kind, .int .i64 r.index, .int .i64 r.term, .int .i64 r.vote, .string r.data] ∧ RecIn r := by
  have hc1 : Try.prog.cellsOf 3 = 1 := by kernel_rfl
  have hc2 : Try.prog.cellsOf 9 = 1 := by kernel_rfl
  obtain ⟨f0, f1, f2, f3, f4, f5, hst, e0, e1, e2, e3, e4, e5⟩ := rec_struct
  injection e0 with e0 e0'
  injection e1 with e1 e1'
  injection e2 with e2 e2'
  injection e3 with e3 e3'
  injection e4 with e4 e4'
  injection e5 with e5 e5'
  obtain ⟨xs, n', _, _, _, hxl, hfs⟩ := DataW.trod_struct hst h
  match cs, hl with
  | [v0, v1, v2, v3, v4, v5], _ =>
    match xs, hxl with
    | [y0, y1, y2, y3, y4, y5], _ =>
      have t0 := hfs 0 f0 rfl
      have t1 := hfs 1 f1 rfl
      have t2 := hfs 2 f2 rfl
      have t3 := hfs 3 f3 rfl
      have t4 := hfs 4 f4 rfl
      have t5 := hfs 5 f5 rfl
      rw [e0, e0', hc1] at t0
      rw [e1, e1', hc1] at t1
      rw [e2, e2', hc1] at t2
      rw [e3, e3', hc1] at t3
      rw [e4, e4', hc1] at t4
      rw [e5, e5', hc2] at t5
      obtain ⟨n0, q0, _, w0⟩ := DataW.trod_int Try.underlying3 t0
      obtain ⟨n1, q1, _, w1⟩ := DataW.trod_int Try.underlying3 t1
      obtain ⟨n2, q2, _, w2⟩ := DataW.trod_int Try.underlying3 t2
      obtain ⟨n3, q3, _, w3⟩ := DataW.trod_int Try.underlying3 t3
      obtain ⟨n4, q4, _, w4⟩ := DataW.trod_int Try.underlying3 t4
      obtain ⟨s5, q5, _, hs5⟩ := DataW.trod_string Try.underlying9 t5
      simp at q0 q1 q2 q3 q4 q5
      subst q0 q1 q2 q3 q4 q5
      have hin : RecIn ⟨n0, n1, n2, n3, n4, s5⟩ := And.intro (wf5 w0) (And.intro (wf5 w1) (And.intro (wf5 w2) (And.intro (wf5 w3) (And.intro (wf5 w4) hs5))))
      exact ⟨_, rfl, hin⟩

set_option maxRecDepth 20000 in
theorem open_rec {r : Reach} {b0 : Nat} {v : Value} {d : DataW H} {p : List MemPlace} (hv : Value.okWide Try.prog w r b0 37 v) (h : DataW.Trod enc Try.prog w base sp held 37 v d p) :
    ∃ x : W.Rec, v = recV x ∧ RecIn x := by
  simp only [Value.okWide, Try.underlying37] at hv
  obtain ⟨cs, rfl, hs, _⟩ := hv
  rw [show Try.prog.cellsOf 37 = 6 by kernel_rfl] at hs
  obtain ⟨fuel, hf⟩ := h
  obtain ⟨x, hx, hin⟩ := rec_of (cs := cs.toList) (by simpa using hs) (by simpa [Value.cells] using hf)
  refine ⟨x, ?_, hin⟩
  unfold recV
  rw [← Array.toArray_toList (xs := cs), hx]

theorem op5_struct : ∃ f0 f1 f2 : Field, Try.prog.underlying 39 = some (.struct #[f0, f1, f2]) ∧ (f0.type, f0.offset) = (3, 0) ∧ (f1.type, f1.offset) = (37, 1) ∧ (f2.type, f2.offset) = (4, 7) :=
  ⟨_, _, _, Try.underlying39, rfl, rfl, rfl⟩

/-- A call of a script. -/
structure Op5 where
  kind : Int
  r : W.Rec
  next : Bool

/-- At that place lies a call. -/
def OpAt5 (w : World) (g o : Nat) (x : Op5) : Prop :=
  w.cell? ⟨g, o, none⟩ = some (.int .i64 x.kind) ∧ w.cell? ⟨g, o + 1, none⟩ = some (.int .i64 x.r.group) ∧ w.cell? ⟨g, o + 1 + 1, none⟩ = some (.int .i64 x.r.kind) ∧ w.cell? ⟨g, o + 1 + 2, none⟩ = some (.int .i64 x.r.index) ∧ w.cell? ⟨g, o + 1 + 3, none⟩ = some (.int .i64 x.r.term) ∧
    w.cell? ⟨g, o + 1 + 4, none⟩ = some (.int .i64 x.r.vote) ∧ w.cell? ⟨g, o + 1 + 5, none⟩ = some (.string x.r.data) ∧ w.cell? ⟨g, o + 7, none⟩ = some (.bool x.next)

/-- The slice v holds a script. -/
def Scr (w : World) (v : Value) (l : List Op5) : Prop :=
  ∃ ao c, v = .slice ao l.length c ∧ l.length ≤ c ∧ c ≤ maxLen ∧ (∀ x ∈ l, RecIn x.r) ∧ (l = [] ∨ ∃ g o, ao = some ⟨g, o, none⟩ ∧ g < w.heap.size ∧ ∀ j x, l[j]? = some x → OpAt5 w g (o + j * 8) x)

set_option maxRecDepth 20000 in
theorem op5_of {fuel : Nat} {cs : List Value} {x : DataW H × List MemPlace} (hl : cs.length = 8) (h : DataW.trod enc Try.prog w base sp held fuel 39 cs = some x) :
    ∃ y : Op5, cs = [.int .i64 y.kind, .int .i64 y.r.group, .int .i64 y.r.kind, .int .i64 y.r.index, .int .i64 y.r.term, .int .i64 y.r.vote, .string y.r.data, .bool y.next] ∧ RecIn y.r := by
  have hc1 : Try.prog.cellsOf 3 = 1 := by kernel_rfl
  have hc2 : Try.prog.cellsOf 37 = 6 := by kernel_rfl
  have hc3 : Try.prog.cellsOf 4 = 1 := by kernel_rfl
  obtain ⟨f0, f1, f2, hst, e0, e1, e2⟩ := op5_struct
  injection e0 with e0 e0'
  injection e1 with e1 e1'
  injection e2 with e2 e2'
  obtain ⟨xs, n', _, _, _, hxl, hfs⟩ := DataW.trod_struct hst h
  match cs, hl with
  | [v0, v1, v2, v3, v4, v5, v6, v7], _ =>
    match xs, hxl with
    | [y0, y1, y2], _ =>
      have t0 := hfs 0 f0 rfl
      have t1 := hfs 1 f1 rfl
      have t2 := hfs 2 f2 rfl
      rw [e0, e0', hc1] at t0
      rw [e1, e1', hc2] at t1
      rw [e2, e2', hc3] at t2
      obtain ⟨n0, q0, _, w0⟩ := DataW.trod_int Try.underlying3 t0
      obtain ⟨r, q1, hin⟩ := rec_of (by rfl) t1
      obtain ⟨b2, q2, _⟩ := DataW.trod_bool Try.underlying4 t2
      simp at q0 q1 q2
      obtain ⟨k1, k2, k3, k4, k5, k6⟩ := q1
      subst q0 k1 k2 k3 k4 k5 k6 q2
      exact ⟨⟨n0, r, b2⟩, rfl, hin⟩

set_option maxRecDepth 20000 in
theorem open_ops5 {r : Reach} {b0 : Nat} {v : Value} {d : DataW H} {p : List MemPlace}
    (hv : Value.okWide Try.prog w r b0 22 v) (h : DataW.Trod enc Try.prog w base sp held 22 v d p) : ∃ l, Scr w v l := by
  obtain ⟨a0, len, cap, rfl⟩ := okWide_slice Try.underlying22 hv
  obtain ⟨fuel, hf⟩ := h
  have hce : Try.prog.cellsOf 39 = 8 := by kernel_rfl
  rcases open_slice Try.underlying22 hf with ⟨hcs, _⟩ | ⟨a, len', cap', m, n, D, Pl, hcs, _, hl, hm, hmm, _, hx⟩
  · simp [Value.cells] at hcs
    obtain ⟨rfl, rfl, rfl⟩ := hcs
    exact ⟨[], none, 0, rfl, Nat.le_refl _, by unfold maxLen; omega, fun _ h => (by cases h), .inl rfl⟩
  · simp [Value.cells] at hcs
    obtain ⟨rfl, rfl, rfl⟩ := hcs
    have hlm : len ≤ m := by rw [hmm]; split <;> omega
    have key : ∀ j, j < len → ∃ y : Op5, RecIn y.r ∧ w.cell? (a.add (j * 8)) = some (.int .i64 y.kind) ∧ w.cell? (a.add (j * 8 + 1)) = some (.int .i64 y.r.group) ∧ w.cell? (a.add (j * 8 + 1 + 1)) = some (.int .i64 y.r.kind) ∧ w.cell? (a.add (j * 8 + 1 + 2)) = some (.int .i64 y.r.index) ∧ w.cell? (a.add (j * 8 + 1 + 3)) = some (.int .i64 y.r.term) ∧
        w.cell? (a.add (j * 8 + 1 + 4)) = some (.int .i64 y.r.vote) ∧ w.cell? (a.add (j * 8 + 1 + 5)) = some (.string y.r.data) ∧ w.cell? (a.add (j * 8 + 7)) = some (.bool y.next) := by
      intro j hj
      obtain ⟨cs', h1, h2⟩ := hx j (by omega)
      rw [hce] at h1
      obtain ⟨_, hlen, hcell⟩ := World.cells?_some h1
      obtain ⟨y, hy, hin⟩ := op5_of hlen h2
      subst hy
      have c := fun i hi => hcell i hi
      simp only [add_add] at c
      exact ⟨y, hin, by simpa using c 0 (by omega), by simpa using c 1 (by omega), by simpa using c 2 (by omega), by simpa using c 3 (by omega), by simpa using c 4 (by omega), by simpa using c 5 (by omega), by simpa using c 6 (by omega), by simpa using c 7 (by omega)⟩
    obtain ⟨l, hll, hlk⟩ : ∃ l : List Op5, l.length = len ∧ ∀ j y, l[j]? = some y → RecIn y.r ∧ w.cell? (a.add (j * 8)) = some (.int .i64 y.kind) ∧ w.cell? (a.add (j * 8 + 1)) = some (.int .i64 y.r.group) ∧ w.cell? (a.add (j * 8 + 1 + 1)) = some (.int .i64 y.r.kind) ∧ w.cell? (a.add (j * 8 + 1 + 2)) = some (.int .i64 y.r.index) ∧ w.cell? (a.add (j * 8 + 1 + 3)) = some (.int .i64 y.r.term) ∧
        w.cell? (a.add (j * 8 + 1 + 4)) = some (.int .i64 y.r.vote) ∧ w.cell? (a.add (j * 8 + 1 + 5)) = some (.string y.r.data) ∧ w.cell? (a.add (j * 8 + 7)) = some (.bool y.next) := by
      have : ∀ n, n ≤ len → ∃ l : List Op5, l.length = n ∧ ∀ j y, l[j]? = some y → RecIn y.r ∧ w.cell? (a.add (j * 8)) = some (.int .i64 y.kind) ∧ w.cell? (a.add (j * 8 + 1)) = some (.int .i64 y.r.group) ∧ w.cell? (a.add (j * 8 + 1 + 1)) = some (.int .i64 y.r.kind) ∧ w.cell? (a.add (j * 8 + 1 + 2)) = some (.int .i64 y.r.index) ∧ w.cell? (a.add (j * 8 + 1 + 3)) = some (.int .i64 y.r.term) ∧
          w.cell? (a.add (j * 8 + 1 + 4)) = some (.int .i64 y.r.vote) ∧ w.cell? (a.add (j * 8 + 1 + 5)) = some (.string y.r.data) ∧ w.cell? (a.add (j * 8 + 7)) = some (.bool y.next) := by
        intro n
        induction n with
        | zero => intro _; exact ⟨[], rfl, fun j y q => by simp at q⟩
        | succ n ih =>
          intro hn
          obtain ⟨l, h1, h2⟩ := ih (by omega)
          obtain ⟨y, hy⟩ := key n (by omega)
          refine ⟨l ++ [y], by simp [h1], fun j z q => ?_⟩
          by_cases e : j < l.length
          · rw [List.getElem?_append_left e] at q
            exact h2 j z q
          · have e2 : j = n := by
              have := (List.getElem?_eq_some_iff.1 q).1
              rw [List.length_append] at this
              simp at this
              omega
            subst e2
            rw [← h1] at q
            simp at q
            subst q
            exact hy
      exact this len (Nat.le_refl _)
    refine ⟨l, some a, cap, by rw [hll], by omega, hm, fun x hx => ?_, ?_⟩
    · obtain ⟨j, hj⟩ := List.getElem?_of_mem hx
      exact (hlk j x hj).1
    · rcases Nat.eq_zero_or_pos len with h0 | h0
      · exact .inl (List.eq_nil_of_length_eq_zero (by omega))
      · right
        obtain ⟨b, off, spot⟩ := a
        obtain ⟨_, _, k0, _⟩ := key 0 h0
        have hspot : spot = none := by simpa [Addr.add] using World.cell?_spot k0
        subst hspot
        refine ⟨b, off, rfl, ?_, fun j y hj => ?_⟩
        · have := World.block_lt_of_cell? _ _ k0
          simpa [Addr.add] using this
        · have := (hlk j y hj).2
          simp only [add_plain] at this
          simpa [OpAt5, Nat.add_assoc] using this
end

theorem Scr.below {w w' : World} {v : Value} {l : List Op5} (h : Scr w v l) (hb : Below w.heap.size w w') : Scr w' v l := by
  obtain ⟨ao, c, h1, h2, h3, h4, h5 | ⟨g, o, h6, h7, h8⟩⟩ := h
  · exact ⟨ao, c, h1, h2, h3, h4, .inl h5⟩
  · refine ⟨ao, c, h1, h2, h3, h4, .inr ⟨g, o, h6, Nat.lt_of_lt_of_le h7 hb.size, fun j x hj => ?_⟩⟩
    have q := h8 j x hj
    have hc : ∀ k, w'.cell? ⟨g, k, none⟩ = w.cell? ⟨g, k, none⟩ := fun k => hb.cell (p := ⟨g, k, none⟩) h7
    unfold OpAt5 at q ⊢
    rw [hc, hc, hc, hc, hc, hc, hc, hc]
    exact q

end Go.Proofs.Ytedcnnmkbenehaa
