/-
  Arguments: an id, slices of ids, of posts, of a law's calls: what a walk wants of them.
-/
import Derived.ProofKit
import Derived.OpenShut
import Derived.ShutString
import Derived.SizedLaws
import Derived.Deep.Strs
import Derived.Test.YtnfjfhjhofaodaaSeMem
namespace Go.Proofs.Ytnfjfhjhofaodaa
open Go.ChangeShapes Go.WideShapes Go.ChangeAt Go.RowKit Go.Deep

theorem wf6 {n : Int} (h : (Lit.int .i64 n).wf = true) : In64 n := by
  simpa [In64, Lit.wf, IntKind.min, IntKind.max, IntKind.signed, IntKind.bits] using h

/-- The slice v holds elements, so many cells each, the cells by f. -/
def Elems {α : Type} (w : World) (K : Nat) (f : α → List Value) (good : α → Prop) (v : Value) (l : List α) : Prop :=
  ∃ ao c, v = .slice ao l.length c ∧ l.length ≤ c ∧ c ≤ maxLen ∧ (ao = none → c = 0) ∧ (∀ x ∈ l, good x) ∧ (l = [] ∨ ∃ g o, ao = some ⟨g, o, none⟩ ∧ g < w.heap.size ∧ ∀ j x, l[j]? = some x → ∀ q u, (f x)[q]? = some u → w.cell? ⟨g, o + j * K + q, none⟩ = some u)

theorem Elems.below {α : Type} {w w' : World} {K : Nat} {f : α → List Value} {good : α → Prop} {v : Value} {l : List α} (h : Elems w K f good v l) (hb : ∀ k, k < w.heap.size → w'.heap[k]? = w.heap[k]?) (hs : w.heap.size ≤ w'.heap.size) : Elems w' K f good v l := by
  obtain ⟨ao, c, h1, h2, h3, hn, h4, h5 | ⟨g, o, h6, h7, h8⟩⟩ := h
  · exact ⟨ao, c, h1, h2, h3, hn, h4, .inl h5⟩
  · refine ⟨ao, c, h1, h2, h3, hn, h4, .inr ⟨g, o, h6, Nat.lt_of_lt_of_le h7 hs, fun j x hj q u hu => ?_⟩⟩
    rw [World.cell?_of_block (a := ⟨g, o + j * K + q, none⟩) (hb g h7)]
    exact h8 j x hj q u hu

theorem weights_all {H : Type} {P : Program} {e : TypeId} : ∀ {l : List (DataW H)} {d : DataW H}, d ∈ l → ∀ n ∈ d.weights P e, n ∈ DataW.weightsAll P e l
  | x :: l, d, h, n, hn => by
    simp only [DataW.weightsAll, List.mem_append]
    rcases List.mem_cons.1 h with e | e
    · rw [← e]; exact .inl hn
    · exact .inr (weights_all e n hn)

section
variable {H : Type} {enc : TypeId × Value → H} {w : World} {base : Nat} {sp : Nat → Bool} {held : Bool}

set_option maxRecDepth 20000 in
/-- A slice that was read, opened. -/
theorem elems_core {α : Type} {t e : TypeId} {K : Nat} {f : α → List Value} {good : α → Prop} (hK : 0 < K) (hf0 : ∀ x, (f x).length = K) (ht : Try.prog.underlying t = some (.slice e)) (hce : Try.prog.cellsOf e = K)
    (hof : ∀ (fuel : Nat) (cs : List Value) (x : DataW H × List MemPlace), cs.length = K → DataW.trod enc Try.prog w base sp held fuel e cs = some x → (∀ n ∈ x.1.weights Try.prog e, n ≤ reachBytes) → ∃ y, cs = f y ∧ good y)
    {fuel : Nat} {cs : List Value} {x : DataW H × List MemPlace} (hf : DataW.trod enc Try.prog w base sp held fuel t cs = some x) (hw : ∀ n ∈ x.1.weights Try.prog t, n ≤ reachBytes) : ∃ v l, cs = [v] ∧ Elems w K f good v l := by
  rcases open_slice ht hf with ⟨hcs, _⟩ | ⟨a, len, cap, m, n, D, Pl, hcs, _, hl, hm, hmm, hxx, hx⟩
  · exact ⟨_, [], hcs, none, 0, rfl, Nat.le_refl _, by unfold maxLen; omega, fun _ => rfl, fun _ h => (by cases h), .inl rfl⟩
  · have hlm : len ≤ m := by rw [hmm]; split <;> omega
    have key : ∀ j, j < len → ∃ y, good y ∧ ∀ q u, (f y)[q]? = some u → w.cell? (a.add (j * K + q)) = some u := by
      intro j hj
      obtain ⟨cs', h1, h2⟩ := hx j (by omega)
      rw [hce] at h1
      obtain ⟨_, hlen, hcell⟩ := World.cells?_some h1
      obtain ⟨y, hy, hin⟩ := hof _ _ _ hlen h2 (fun k hk => hw k (by
        rw [hxx]
        simp only [DataW.weights, ht]
        exact List.mem_cons_of_mem _ (List.mem_append_left _ (weights_all (List.mem_map.2 ⟨j, List.mem_range.2 hj, rfl⟩) k hk))))
      subst hy
      refine ⟨y, hin, fun q u hu => ?_⟩
      have hq := (List.getElem?_eq_some_iff.1 hu).1
      have := hcell q (by rw [← hlen]; exact hq)
      rw [add_add] at this
      rw [this]
      first
        | exact hu
        | (rw [← hu]; simp)
        | (simpa using hu)
    obtain ⟨l, hll, hlk⟩ : ∃ l : List α, l.length = len ∧ ∀ j y, l[j]? = some y → good y ∧ ∀ q u, (f y)[q]? = some u → w.cell? (a.add (j * K + q)) = some u := by
      have : ∀ n, n ≤ len → ∃ l : List α, l.length = n ∧ ∀ j y, l[j]? = some y → good y ∧ ∀ q u, (f y)[q]? = some u → w.cell? (a.add (j * K + q)) = some u := by
        intro n
        induction n with
        | zero => intro _; exact ⟨[], rfl, fun j y q => by simp at q⟩
        | succ n ih =>
          intro hn
          obtain ⟨l, h1, h2⟩ := ih (by omega)
          obtain ⟨y, hy⟩ := key n (by omega)
          refine ⟨l ++ [y], by simp [h1], fun j z q => ?_⟩
          by_cases e : j < l.length
          · rw [List.getElem?_append_left e] at q
            exact h2 j z q
          · have e2 : j = n := by
              have := (List.getElem?_eq_some_iff.1 q).1
              rw [List.length_append] at this
              simp at this
              omega
            subst e2
            rw [← h1] at q
            simp at q
            subst q
            rw [← h1] at hy
            rw [← h1]
            exact hy
      exact this len (Nat.le_refl _)
    refine ⟨_, l, hcs, some a, cap, by rw [hll], by omega, hm, (fun e => by cases e), fun x hx => ?_, ?_⟩
    · obtain ⟨j, hj⟩ := List.getElem?_of_mem hx
      exact (hlk j x hj).1
    · rcases Nat.eq_zero_or_pos len with h0 | h0
      · exact .inl (List.eq_nil_of_length_eq_zero (by omega))
      · right
        obtain ⟨b, off, spot⟩ := a
        obtain ⟨y0, _, k0⟩ := key 0 h0
        have k0 := k0 0 _ (List.getElem?_eq_getElem (by rw [hf0]; exact hK))
        have hspot : spot = none := by simpa [Addr.add] using World.cell?_spot k0
        subst hspot
        refine ⟨b, off, rfl, ?_, fun j y hj q u hu => ?_⟩
        · have := World.block_lt_of_cell? _ _ k0
          simpa [Addr.add] using this
        · have := (hlk j y hj).2 q u hu
          simp only [add_plain] at this
          rw [Nat.add_assoc]
          exact this

set_option maxRecDepth 20000 in
/-- A slice argument, opened. -/
theorem open_elems {α : Type} {t e : TypeId} {K : Nat} {f : α → List Value} {good : α → Prop} (hK : 0 < K) (hf0 : ∀ x, (f x).length = K) (ht : Try.prog.underlying t = some (.slice e)) (hce : Try.prog.cellsOf e = K)
    (hof : ∀ (fuel : Nat) (cs : List Value) (x : DataW H × List MemPlace), cs.length = K → DataW.trod enc Try.prog w base sp held fuel e cs = some x → (∀ n ∈ x.1.weights Try.prog e, n ≤ reachBytes) → ∃ y, cs = f y ∧ good y)
    {r : Reach} {b0 : Nat} {v : Value} {d : DataW H} {p : List MemPlace} (hv : Value.okWide Try.prog w r b0 t v) (h : DataW.Trod enc Try.prog w base sp held t v d p) (hw : ∀ n ∈ d.weights Try.prog t, n ≤ reachBytes) : ∃ l, Elems w K f good v l := by
  obtain ⟨a0, len, cap, rfl⟩ := okWide_slice ht hv
  obtain ⟨fuel, hf⟩ := h
  obtain ⟨v, l, hcs, hl⟩ := elems_core hK hf0 ht hce hof hf hw
  simp [Value.cells] at hcs
  subst hcs
  exact ⟨l, hl⟩

/-! ### an id -/
theorem id_struct : ∃ f0 f1 : Field, Try.prog.underlying 27 = some (.struct #[f0, f1]) ∧ (f0.type, f0.offset) = (3, 0) ∧ (f1.type, f1.offset) = (3, 1) :=
  ⟨_, _, Try.underlying27, rfl, rfl⟩
def idCells (x : Int × Int) : List Value := [.int .i64 x.1, .int .i64 x.2]
def IdIn (x : Int × Int) : Prop := In64 x.1 ∧ In64 x.2

set_option maxRecDepth 20000 in
theorem id_of {fuel : Nat} {cs : List Value} {x : DataW H × List MemPlace} (hl : cs.length = 2) (h : DataW.trod enc Try.prog w base sp held fuel 27 cs = some x) : ∃ r, cs = idCells r ∧ IdIn r := by
  have hc1 : Try.prog.cellsOf 3 = 1 := by kernel_rfl
  obtain ⟨f0, f1, hst, e0, e1⟩ := id_struct
  injection e0 with e0 e0'
  injection e1 with e1 e1'
  obtain ⟨xs, n', _, _, _, hxl, hfs⟩ := DataW.trod_struct hst h
  match cs, hl with
  | [v0, v1], _ =>
    match xs, hxl with
    | [y0, y1], _ =>
      have t0 := hfs 0 f0 rfl
      have t1 := hfs 1 f1 rfl
      rw [e0, e0', hc1] at t0
      rw [e1, e1', hc1] at t1
      obtain ⟨n0, q0, _, w0⟩ := DataW.trod_int Try.underlying3 t0
      obtain ⟨n1, q1, _, w1⟩ := DataW.trod_int Try.underlying3 t1
      simp at q0 q1
      subst q0 q1
      exact ⟨(n0, n1), rfl, wf6 w0, wf6 w1⟩

set_option maxRecDepth 20000 in
theorem open_id11 {r : Reach} {b0 : Nat} {v : Value} {d : DataW H} {p : List MemPlace} (hv : Value.okWide Try.prog w r b0 27 v) (h : DataW.Trod enc Try.prog w base sp held 27 v d p) :
    ∃ x : Int × Int, v = .agg #[.int .i64 x.1, .int .i64 x.2] ∧ IdIn x := by
  simp only [Value.okWide, Try.underlying27] at hv
  obtain ⟨cs, rfl, hs, _⟩ := hv
  rw [show Try.prog.cellsOf 27 = 2 by kernel_rfl] at hs
  obtain ⟨fuel, hf⟩ := h
  obtain ⟨x, hx, hin⟩ := id_of (cs := cs.toList) (by simpa using hs) (by simpa [Value.cells] using hf)
  refine ⟨x, ?_, hin⟩
  have : cs = (idCells x).toArray := by rw [← hx]
  rw [this]
  rfl
set_option maxRecDepth 20000 in
theorem open_ids11 {r : Reach} {b0 : Nat} {v : Value} {d : DataW H} {p : List MemPlace} (hv : Value.okWide Try.prog w r b0 22 v) (h : DataW.Trod enc Try.prog w base sp held 22 v d p) (hw : ∀ n ∈ d.weights Try.prog 22, n ≤ reachBytes) :
    ∃ l, Elems w 2 idCells IdIn v l :=
  open_elems (K := 2) (by omega) (fun _ => rfl) Try.underlying22 (by kernel_rfl) (fun _ _ _ hl h _ => id_of hl h) hv h hw

/-! ### posts -/
theorem po_struct : ∃ f0 f1 : Field, Try.prog.underlying 74 = some (.struct #[f0, f1]) ∧ (f0.type, f0.offset) = (9, 0) ∧ (f1.type, f1.offset) = (9, 1) :=
  ⟨_, _, Try.underlying74, rfl, rfl⟩
def poCells1 (p : Mo.Po) : List Value := [.string p.user, .string p.text]
def PoIn (p : Mo.Po) : Prop := p.user.size ≤ 140737488351232 ∧ p.text.size ≤ 140737488351232

set_option maxRecDepth 20000 in
theorem po_of {fuel : Nat} {cs : List Value} {x : DataW H × List MemPlace} (hl : cs.length = 2) (h : DataW.trod enc Try.prog w base sp held fuel 74 cs = some x) (hw : ∀ n ∈ x.1.weights Try.prog 74, n ≤ reachBytes) : ∃ r, cs = poCells1 r ∧ PoIn r := by
  have hc1 : Try.prog.cellsOf 9 = 1 := by kernel_rfl
  obtain ⟨f0, f1, hst, e0, e1⟩ := po_struct
  injection e0 with e0 e0'
  injection e1 with e1 e1'
  obtain ⟨xs, n', _, hx, _, hxl, hfs⟩ := DataW.trod_struct hst h
  have hw2 : ∀ (j : Nat) (f : Field) (d : DataW H) (q : List MemPlace), (#[f0, f1] : Array Field)[j]? = some f → xs[j]? = some (d, q) → ∀ n ∈ d.weights Try.prog f.type, n ≤ reachBytes := fun j f d q hf hd n hn => hw n (by
    rw [hx]
    simp only [DataW.weights, hst]
    refine DataW.weights_mem_each (j := j) (t := f.type) (d := d) ?_ ?_ n hn
    · rw [List.getElem?_map, Array.getElem?_toList, hf]
      rfl
    · rw [List.getElem?_map, hd]
      rfl)
  match cs, hl with
  | [v0, v1], _ =>
    match xs, hxl with
    | [y0, y1], _ =>
      have t0 := hfs 0 f0 rfl
      have t1 := hfs 1 f1 rfl
      rw [e0, e0', hc1] at t0
      rw [e1, e1', hc1] at t1
      obtain ⟨n0, q0, x0, w0⟩ := DataW.trod_string Try.underlying9 t0
      obtain ⟨n1, q1, x1, w1⟩ := DataW.trod_string Try.underlying9 t1
      simp at q0 q1
      subst q0 q1 x0 x1
      have b0 := hw2 0 f0 _ _ rfl rfl n0.data.toList.length (by simp [DataW.weights])
      have b1 := hw2 1 f1 _ _ rfl rfl n1.data.toList.length (by simp [DataW.weights])
      exact ⟨⟨n0, n1⟩, rfl, by simpa [reachBytes] using b0, by simpa [reachBytes] using b1⟩

theorem PoR.ofElems {v : Value} {l : List Mo.Po} (h : Elems w 2 poCells1 PoIn v l) : PoR w v l ∧ ∀ p ∈ l, PoIn p := by
  obtain ⟨ao, c, h1, h2, h3, hn, h4, h5⟩ := h
  refine ⟨⟨ao, c, h1, h2, h3, hn, fun a ha j x hx => ?_⟩, h4⟩
  rcases h5 with h5 | ⟨g, o, h6, h7, h8⟩
  · rw [h5] at hx
    simp [poCells] at hx
  · rw [h6] at ha
    injection ha with ha
    rw [← ha, Addr.add_lit]
    have hj := (List.getElem?_eq_some_iff.1 hx).1
    rw [poCells_len] at hj
    have hi : j / 2 < l.length := by omega
    have hat := poCells_at l (j / 2) l[j / 2] (List.getElem?_eq_getElem hi)
    have hc := h8 (j / 2) l[j / 2] (List.getElem?_eq_getElem hi)
    rcases Nat.mod_two_eq_zero_or_one j with e | e
    · have ej : j / 2 * 2 = j := by omega
      rw [ej] at hat
      rw [hat.1] at hx
      injection hx with hx
      subst hx
      have := hc 0 _ rfl
      rw [ej] at this
      exact this
    · have ej : j / 2 * 2 + 1 = j := by omega
      rw [ej] at hat
      rw [hat.2] at hx
      injection hx with hx
      subst hx
      have := hc 1 _ rfl
      rw [Nat.add_assoc, ej] at this
      exact this

set_option maxRecDepth 20000 in
theorem open_posts11 {r : Reach} {b0 : Nat} {v : Value} {d : DataW H} {p : List MemPlace} (hv : Value.okWide Try.prog w r b0 29 v) (h : DataW.Trod enc Try.prog w base sp held 29 v d p) (hw : ∀ n ∈ d.weights Try.prog 29, n ≤ reachBytes) :
    ∃ l, PoR w v l ∧ ∀ p ∈ l, PoIn p := by
  obtain ⟨l, hl⟩ := open_elems (K := 2) (by omega) (fun _ => rfl) Try.underlying29 (by kernel_rfl) (fun _ _ _ hl h hw => po_of hl h hw) hv h hw
  exact ⟨l, PoR.ofElems hl⟩

/-! ### replies -/
theorem re_struct : ∃ f0 f1 f2 : Field, Try.prog.underlying 31 = some (.struct #[f0, f1, f2]) ∧ (f0.type, f0.offset) = (28, 0) ∧ (f1.type, f1.offset) = (3, 1) ∧ (f2.type, f2.offset) = (29, 2) :=
  ⟨_, _, _, Try.underlying31, rfl, rfl, rfl⟩

set_option maxHeartbeats 800000 in
set_option maxRecDepth 20000 in
theorem re_of {fuel : Nat} {cs : List Value} {x : DataW H × List MemPlace} (hl : cs.length = 3) (h : DataW.trod enc Try.prog w base sp held fuel 31 cs = some x) (hw : ∀ n ∈ x.1.weights Try.prog 31, n ≤ reachBytes) :
    ∃ (r : Mo.Re) (pv : Value), cs = [.int .i64 r.err, .int .i64 r.at_, pv] ∧ PoR w pv r.posts ∧ (∀ p ∈ r.posts, PoIn p) ∧ In64 r.err ∧ In64 r.at_ := by
  have hc1 : Try.prog.cellsOf 3 = 1 := by kernel_rfl
  have hc2 : Try.prog.cellsOf 28 = 1 := by kernel_rfl
  have hc3 : Try.prog.cellsOf 29 = 1 := by kernel_rfl
  obtain ⟨f0, f1, f2, hst, e0, e1, e2⟩ := re_struct
  injection e0 with e0 e0'
  injection e1 with e1 e1'
  injection e2 with e2 e2'
  obtain ⟨xs, n', _, hx, _, hxl, hfs⟩ := DataW.trod_struct hst h
  have hw2 : ∀ (j : Nat) (f : Field) (d : DataW H) (q : List MemPlace), (#[f0, f1, f2] : Array Field)[j]? = some f → xs[j]? = some (d, q) → ∀ n ∈ d.weights Try.prog f.type, n ≤ reachBytes := fun j f d q hf hd n hn => hw n (by
    rw [hx]
    simp only [DataW.weights, hst]
    refine DataW.weights_mem_each (j := j) (t := f.type) (d := d) ?_ ?_ n hn
    · rw [List.getElem?_map, Array.getElem?_toList, hf]
      rfl
    · rw [List.getElem?_map, hd]
      rfl)
  match cs, hl with
  | [v0, v1, v2], _ =>
    match xs, hxl with
    | [y0, y1, y2], _ =>
      have t0 := hfs 0 f0 rfl
      have t1 := hfs 1 f1 rfl
      have t2 := hfs 2 f2 rfl
      rw [e0, e0', hc2] at t0
      rw [e1, e1', hc1] at t1
      rw [e2, e2', hc3] at t2
      obtain ⟨n0, q0, _, w0⟩ := DataW.trod_int Try.underlying28 t0
      obtain ⟨n1, q1, _, w1⟩ := DataW.trod_int Try.underlying3 t1
      have hw3 := hw2 2 f2 y2.1 y2.2 rfl rfl
      rw [e2] at hw3
      obtain ⟨v, l, hcs, hel⟩ := elems_core (K := 2) (f := poCells1) (good := PoIn) (by omega) (fun _ => rfl) Try.underlying29 (by kernel_rfl) (fun _ _ _ hl h hw => po_of hl h hw) t2 hw3
      simp at q0 q1 hcs
      subst q0 q1 hcs
      have hp := PoR.ofElems hel
      exact ⟨⟨n0, n1, l⟩, v2, rfl, hp.1, hp.2, wf6 w0, wf6 w1⟩

/-! ### a law's calls -/
structure Op11 where
  kind : Int
  ses : Int
  seq : Int
  re : Mo.Re
  pv : Value
theorem o11_struct : ∃ f0 f1 f2 : Field, Try.prog.underlying 45 = some (.struct #[f0, f1, f2]) ∧ (f0.type, f0.offset) = (3, 0) ∧ (f1.type, f1.offset) = (27, 1) ∧ (f2.type, f2.offset) = (31, 3) :=
  ⟨_, _, _, Try.underlying45, rfl, rfl, rfl⟩
def o11Cells (o : Op11) : List Value := [.int .i64 o.kind, .int .i64 o.ses, .int .i64 o.seq, .int .i64 o.re.err, .int .i64 o.re.at_, o.pv]
def O11In (w : World) (o : Op11) : Prop := In64 o.kind ∧ (In64 o.ses ∧ In64 o.seq) ∧ PoR w o.pv o.re.posts ∧ (∀ p ∈ o.re.posts, PoIn p) ∧ In64 o.re.err ∧ In64 o.re.at_

set_option maxHeartbeats 800000 in
set_option maxRecDepth 20000 in
theorem o11_of {fuel : Nat} {cs : List Value} {x : DataW H × List MemPlace} (hl : cs.length = 6) (h : DataW.trod enc Try.prog w base sp held fuel 45 cs = some x) (hw : ∀ n ∈ x.1.weights Try.prog 45, n ≤ reachBytes) : ∃ o, cs = o11Cells o ∧ O11In w o := by
  have hc1 : Try.prog.cellsOf 3 = 1 := by kernel_rfl
  have hc2 : Try.prog.cellsOf 27 = 2 := by kernel_rfl
  have hc3 : Try.prog.cellsOf 31 = 3 := by kernel_rfl
  obtain ⟨f0, f1, f2, hst, e0, e1, e2⟩ := o11_struct
  injection e0 with e0 e0'
  injection e1 with e1 e1'
  injection e2 with e2 e2'
  obtain ⟨xs, n', _, hx, _, hxl, hfs⟩ := DataW.trod_struct hst h
  have hw2 : ∀ (j : Nat) (f : Field) (d : DataW H) (q : List MemPlace), (#[f0, f1, f2] : Array Field)[j]? = some f → xs[j]? = some (d, q) → ∀ n ∈ d.weights Try.prog f.type, n ≤ reachBytes := fun j f d q hf hd n hn => hw n (by
    rw [hx]
    simp only [DataW.weights, hst]
    refine DataW.weights_mem_each (j := j) (t := f.type) (d := d) ?_ ?_ n hn
    · rw [List.getElem?_map, Array.getElem?_toList, hf]
      rfl
    · rw [List.getElem?_map, hd]
      rfl)
  match cs, hl with
  | [v0, v1, v2, v3, v4, v5], _ =>
    match xs, hxl with
    | [y0, y1, y2], _ =>
      have t0 := hfs 0 f0 rfl
      have t1 := hfs 1 f1 rfl
      have t2 := hfs 2 f2 rfl
      rw [e0, e0', hc1] at t0
      rw [e1, e1', hc2] at t1
      rw [e2, e2', hc3] at t2
      obtain ⟨n0, q0, _, w0⟩ := DataW.trod_int Try.underlying3 t0
      obtain ⟨d1, q1, w1⟩ := id_of rfl t1
      have hw3 := hw2 2 f2 y2.1 y2.2 rfl rfl
      rw [e2] at hw3
      obtain ⟨re, pv, q2, w2⟩ := re_of rfl t2 hw3
      simp [idCells] at q0 q1 q2
      obtain ⟨q1, q1'⟩ := q1
      obtain ⟨q2, q2', q2''⟩ := q2
      subst q0 q1 q1' q2 q2' q2''
      exact ⟨⟨n0, d1.1, d1.2, re, v5⟩, rfl, wf6 w0, w1, w2⟩
set_option maxRecDepth 20000 in
theorem open_ops11 {r : Reach} {b0 : Nat} {v : Value} {d : DataW H} {p : List MemPlace} (hv : Value.okWide Try.prog w r b0 40 v) (h : DataW.Trod enc Try.prog w base sp held 40 v d p) (hw : ∀ n ∈ d.weights Try.prog 40, n ≤ reachBytes) :
    ∃ l, Elems w 6 o11Cells (O11In w) v l :=
  open_elems (K := 6) (by omega) (fun _ => rfl) Try.underlying40 (by kernel_rfl) (fun _ _ _ hl h hw => o11_of hl h hw) hv h hw

end
end Go.Proofs.Ytnfjfhjhofaodaa
