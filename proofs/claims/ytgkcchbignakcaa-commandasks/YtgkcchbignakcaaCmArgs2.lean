/-
  Arguments of layer 12's laws, opened: a message, a reply, with their lists.
-/
import Derived.Test.YtgkcchbignakcaaCmArgs
import Derived.Test.YtgkcchbignakcaaCmEls
import Derived.ProofKit
import Derived.OpenShut
import Derived.ShutString
import Derived.SizedLaws
import Derived.Deep.Strs
namespace Go.Proofs.Ytgkcchbignakcaa
open Go.ChangeShapes Go.WideShapes Go.ChangeAt Go.RowKit Go.Deep

def ElA {α : Type} (w : World) (K : Nat) (f : α → List Value) (good : α → Prop) (v : Value) (l : List α) : Prop :=
  ∃ ao c, v = .slice ao l.length c ∧ l.length ≤ c ∧ c ≤ maxLen ∧ (ao = none → c = 0) ∧ (∀ x ∈ l, good x) ∧ (l = [] ∨ ∃ g o, ao = some ⟨g, o, none⟩ ∧ g < w.heap.size ∧ ∀ j x, l[j]? = some x → ∀ q u, (f x)[q]? = some u → w.cell? ⟨g, o + j * K + q, none⟩ = some u)

section
variable {H : Type} {enc : TypeId × Value → H} {w : World} {base : Nat} {sp : Nat → Bool} {held : Bool}

set_option maxRecDepth 20000 in
/-- A slice that was read, opened. -/
theorem elems12 {α : Type} {t e : TypeId} {K : Nat} {f : α → List Value} {good : α → Prop} (hK : 0 < K) (hf0 : ∀ x, (f x).length = K) (ht : Try.prog.underlying t = some (.slice e)) (hce : Try.prog.cellsOf e = K)
    (hof : ∀ (fuel : Nat) (cs : List Value) (x : DataW H × List MemPlace), cs.length = K → DataW.trod enc Try.prog w base sp held fuel e cs = some x → ∃ y, cs = f y ∧ good y)
    {fuel : Nat} {cs : List Value} {x : DataW H × List MemPlace} (hf : DataW.trod enc Try.prog w base sp held fuel t cs = some x) : ∃ v l, cs = [v] ∧ ElA w K f good v l := by
  rcases open_slice ht hf with ⟨hcs, _⟩ | ⟨a, len, cap, m, n, D, Pl, hcs, _, hl, hm, hmm, _, hx⟩
  · exact ⟨_, [], hcs, none, 0, rfl, Nat.le_refl _, by unfold maxLen; omega, fun _ => rfl, fun _ h => (by cases h), .inl rfl⟩
  · have hlm : len ≤ m := by rw [hmm]; split <;> omega
    have key : ∀ j, j < len → ∃ y, good y ∧ ∀ q u, (f y)[q]? = some u → w.cell? (a.add (j * K + q)) = some u := by
      intro j hj
      obtain ⟨cs', h1, h2⟩ := hx j (by omega)
      rw [hce] at h1
      obtain ⟨_, hlen, hcell⟩ := World.cells?_some h1
      obtain ⟨y, hy, hin⟩ := hof _ _ _ hlen h2
      subst hy
      refine ⟨y, hin, fun q u hu => ?_⟩
      have hq := (List.getElem?_eq_some_iff.1 hu).1
      have := hcell q (by rw [← hlen]; exact hq)
      rw [add_add] at this
      rw [this]
      first
        | exact hu
        | (rw [← hu]; simp)
        | (simpa using hu)
    obtain ⟨l, hll, hlk⟩ : ∃ l : List α, l.length = len ∧ ∀ j y, l[j]? = some y → good y ∧ ∀ q u, (f y)[q]? = some u → w.cell? (a.add (j * K + q)) = some u := by
      have : ∀ n, n ≤ len → ∃ l : List α, l.length = n ∧ ∀ j y, l[j]? = some y → good y ∧ ∀ q u, (f y)[q]? = some u → w.cell? (a.add (j * K + q)) = some u := by
        intro n
        induction n with
        | zero => intro _; exact ⟨[], rfl, fun j y q => by simp at q⟩
        | succ n ih =>
          intro hn
          obtain ⟨l, h1, h2⟩ := ih (by omega)
          obtain ⟨y, hy⟩ := key n (by omega)
          refine ⟨l ++ [y], by simp [h1], fun j z q => ?_⟩
          by_cases e : j < l.length
          · rw [List.getElem?_append_left e] at q
            exact h2 j z q
          · have e2 : j = n := by
              have := (List.getElem?_eq_some_iff.1 q).1
              rw [List.length_append] at this
              simp at this
              omega
            subst e2
            rw [← h1] at q
            simp at q
            subst q
            rw [← h1] at hy
            rw [← h1]
            exact hy
      exact this len (Nat.le_refl _)
    refine ⟨_, l, hcs, some a, cap, by rw [hll], by omega, hm, (fun e => by cases e), fun x hx => ?_, ?_⟩
    · obtain ⟨j, hj⟩ := List.getElem?_of_mem hx
      exact (hlk j x hj).1
    · rcases Nat.eq_zero_or_pos len with h0 | h0
      · exact .inl (List.eq_nil_of_length_eq_zero (by omega))
      · right
        obtain ⟨b, off, spot⟩ := a
        obtain ⟨y0, _, k0⟩ := key 0 h0
        have k0 := k0 0 _ (List.getElem?_eq_getElem (by rw [hf0]; exact hK))
        have hspot : spot = none := by simpa [Addr.add] using World.cell?_spot k0
        subst hspot
        refine ⟨b, off, rfl, ?_, fun j y hj q u hu => ?_⟩
        · have := World.block_lt_of_cell? _ _ k0
          simpa [Addr.add] using this
        · have := (hlk j y hj).2 q u hu
          simp only [add_plain] at this
          rw [Nat.add_assoc]
          exact this


theorem ent12_struct : ∃ f0 f1 : Field, Try.prog.underlying 54 = some (.struct #[f0, f1]) ∧ (f0.type, f0.offset) = (3, 0) ∧ (f1.type, f1.offset) = (9, 1) :=
  ⟨_, _, Try.underlying54, rfl, rfl⟩
def entC (e : Int × ByteArray) : List Value := [.int .i64 e.1, .string e.2]
def entG (e : Int × ByteArray) : Prop := fit e.1 ∧ fits e.2
set_option maxRecDepth 20000 in
theorem ent12_of {fuel : Nat} {cs : List Value} {x : DataW H × List MemPlace} (hl : cs.length = 2) (h : DataW.trod enc Try.prog w base sp held fuel 54 cs = some x) : ∃ r, cs = entC r ∧ entG r := by
  have hc1 : Try.prog.cellsOf 3 = 1 := by kernel_rfl
  have hc2 : Try.prog.cellsOf 9 = 1 := by kernel_rfl
  obtain ⟨f0, f1, hst, e0, e1⟩ := ent12_struct
  injection e0 with e0 e0'
  injection e1 with e1 e1'
  obtain ⟨xs, n', _, _, _, hxl, hfs⟩ := DataW.trod_struct hst h
  match cs, hl with
  | [v0, v1], _ =>
    match xs, hxl with
    | [y0, y1], _ =>
      have t0 := hfs 0 f0 rfl
      have t1 := hfs 1 f1 rfl
      rw [e0, e0', hc1] at t0
      rw [e1, e1', hc2] at t1
      obtain ⟨n0, q0, _, w0⟩ := DataW.trod_int Try.underlying3 t0
      obtain ⟨n1, q1, _, w1⟩ := DataW.trod_string Try.underlying9 t1
      simp at q0 q1
      subst q0 q1
      exact ⟨(n0, n1), rfl, fit_of w0, fits_of w1⟩
theorem ElA.toEnts {v : Value} {l : List (Int × ByteArray)} (h : ElA w 2 entC entG v l) : ∃ p c, v = .slice p l.length c ∧ EntsIn w p l ∧ EntsOk l ∧ l.length ≤ maxLen := by
  obtain ⟨ao, c, h1, h2, h3, _, h4, h5⟩ := h
  refine ⟨ao, c, h1, ?_, h4, by omega⟩
  rcases h5 with h5 | ⟨g, o, h6, h7, h8⟩
  · exact .inl h5
  · refine .inr ⟨g, o, h6, h7, fun i e he => ⟨?_, ?_⟩⟩
    · exact h8 i e he 0 _ rfl
    · exact h8 i e he 1 _ rfl

theorem post12_struct : ∃ f0 f1 : Field, Try.prog.underlying 41 = some (.struct #[f0, f1]) ∧ (f0.type, f0.offset) = (9, 0) ∧ (f1.type, f1.offset) = (9, 1) :=
  ⟨_, _, Try.underlying41, rfl, rfl⟩
def postC (e : ByteArray × ByteArray) : List Value := [.string e.1, .string e.2]
def postG (e : ByteArray × ByteArray) : Prop := fits e.1 ∧ fits e.2
set_option maxRecDepth 20000 in
theorem post12_of {fuel : Nat} {cs : List Value} {x : DataW H × List MemPlace} (hl : cs.length = 2) (h : DataW.trod enc Try.prog w base sp held fuel 41 cs = some x) : ∃ r, cs = postC r ∧ postG r := by
  have hc1 : Try.prog.cellsOf 3 = 1 := by kernel_rfl
  have hc2 : Try.prog.cellsOf 9 = 1 := by kernel_rfl
  obtain ⟨f0, f1, hst, e0, e1⟩ := post12_struct
  injection e0 with e0 e0'
  injection e1 with e1 e1'
  obtain ⟨xs, n', _, _, _, hxl, hfs⟩ := DataW.trod_struct hst h
  match cs, hl with
  | [v0, v1], _ =>
    match xs, hxl with
    | [y0, y1], _ =>
      have t0 := hfs 0 f0 rfl
      have t1 := hfs 1 f1 rfl
      rw [e0, e0', hc2] at t0
      rw [e1, e1', hc2] at t1
      obtain ⟨n0, q0, _, w0⟩ := DataW.trod_string Try.underlying9 t0
      obtain ⟨n1, q1, _, w1⟩ := DataW.trod_string Try.underlying9 t1
      simp at q0 q1
      subst q0 q1
      exact ⟨(n0, n1), rfl, fits_of w0, fits_of w1⟩
theorem ElA.toPosts {v : Value} {l : List (ByteArray × ByteArray)} (h : ElA w 2 postC postG v l) : ∃ p c, v = .slice p l.length c ∧ PostsIn w p l ∧ PostsOk l ∧ l.length ≤ maxLen := by
  obtain ⟨ao, c, h1, h2, h3, _, h4, h5⟩ := h
  refine ⟨ao, c, h1, ?_, h4, by omega⟩
  rcases h5 with h5 | ⟨g, o, h6, h7, h8⟩
  · exact .inl h5
  · refine .inr ⟨g, o, h6, h7, fun i e he => ⟨?_, ?_⟩⟩
    · exact h8 i e he 0 _ rfl
    · exact h8 i e he 1 _ rfl

def MsgD.Ok0 (x : MsgD) : Prop := fit x.kind ∧ fit x.group ∧ fit x.frm ∧ fit x.to ∧ fit x.term ∧ fit x.index ∧ fit x.at_ ∧ fit x.commit ∧ fits x.data ∧ EntsOk x.ents
def MsgIn (w : World) (x : MsgD) : Prop := x.Ok0 ∧ EntsIn w x.p x.ents ∧ x.ents.length ≤ maxLen
theorem msg12_struct : ∃ f0 f1 f2 f3 f4 f5 f6 f7 f8 f9 f10 : Field, Try.prog.underlying 52 = some (.struct #[f0, f1, f2, f3, f4, f5, f6, f7, f8, f9, f10]) ∧ (f0.type, f0.offset) = (3, 0) ∧ (f1.type, f1.offset) = (3, 1) ∧ (f2.type, f2.offset) = (3, 2) ∧ (f3.type, f3.offset) = (3, 3) ∧ (f4.type, f4.offset) = (3, 4) ∧ (f5.type, f5.offset) = (3, 5) ∧ (f6.type, f6.offset) = (3, 6) ∧ (f7.type, f7.offset) = (50, 7) ∧ (f8.type, f8.offset) = (3, 8) ∧ (f9.type, f9.offset) = (4, 9) ∧ (f10.type, f10.offset) = (9, 10) :=
  ⟨_, _, _, _, _, _, _, _, _, _, _, Try.underlying52, rfl, rfl, rfl, rfl, rfl, rfl, rfl, rfl, rfl, rfl, rfl⟩

set_option maxHeartbeats 800000 in
set_option maxRecDepth 20000 in
theorem open_msg12 {r : Reach} {b0 : Nat} {v : Value} {d : DataW H} {p : List MemPlace} (hv : Value.okWide Try.prog w r b0 52 v) (h : DataW.Trod enc Try.prog w base sp held 52 v d p) :
    ∃ (x : MsgD) (c : Nat), v = .agg (x.cellsC c).toArray ∧ MsgIn w x := by
  simp only [Value.okWide, Try.underlying52] at hv
  obtain ⟨cs, rfl, hs, _⟩ := hv
  rw [show Try.prog.cellsOf 52 = 11 by kernel_rfl] at hs
  obtain ⟨fuel, hf⟩ := h
  have hf' : DataW.trod enc Try.prog w base sp held fuel 52 cs.toList = some (d, p) := by simpa [Value.cells] using hf
  have hl : cs.toList.length = 11 := by simpa using hs
  have hc1 : Try.prog.cellsOf 3 = 1 := by kernel_rfl
  have hc2 : Try.prog.cellsOf 9 = 1 := by kernel_rfl
  have hc3 : Try.prog.cellsOf 4 = 1 := by kernel_rfl
  have hc4 : Try.prog.cellsOf 50 = 1 := by kernel_rfl
  obtain ⟨f0, f1, f2, f3, f4, f5, f6, f7, f8, f9, f10, hst, e0, e1, e2, e3, e4, e5, e6, e7, e8, e9, e10⟩ := msg12_struct
  injection e0 with e0 e0'
  injection e1 with e1 e1'
  injection e2 with e2 e2'
  injection e3 with e3 e3'
  injection e4 with e4 e4'
  injection e5 with e5 e5'
  injection e6 with e6 e6'
  injection e7 with e7 e7'
  injection e8 with e8 e8'
  injection e9 with e9 e9'
  injection e10 with e10 e10'
  obtain ⟨xs, n', _, _, _, hxl, hfs⟩ := DataW.trod_struct hst hf'
  obtain ⟨l, hll⟩ : ∃ l, l = cs.toList := ⟨_, rfl⟩
  rw [← hll] at hl hfs
  match l, hl with
  | [v0, v1, v2, v3, v4, v5, v6, v7, v8, v9, v10], _ =>
    match xs, hxl with
    | [y0, y1, y2, y3, y4, y5, y6, y7, y8, y9, y10], _ =>
      have t0 := hfs 0 f0 rfl
      have t1 := hfs 1 f1 rfl
      have t2 := hfs 2 f2 rfl
      have t3 := hfs 3 f3 rfl
      have t4 := hfs 4 f4 rfl
      have t5 := hfs 5 f5 rfl
      have t6 := hfs 6 f6 rfl
      have t7 := hfs 7 f7 rfl
      have t8 := hfs 8 f8 rfl
      have t9 := hfs 9 f9 rfl
      have t10 := hfs 10 f10 rfl
      rw [e0, e0', hc1] at t0
      rw [e1, e1', hc1] at t1
      rw [e2, e2', hc1] at t2
      rw [e3, e3', hc1] at t3
      rw [e4, e4', hc1] at t4
      rw [e5, e5', hc1] at t5
      rw [e6, e6', hc1] at t6
      rw [e7, e7', hc4] at t7
      rw [e8, e8', hc1] at t8
      rw [e9, e9', hc3] at t9
      rw [e10, e10', hc2] at t10
      obtain ⟨n0, q0, _, w0⟩ := DataW.trod_int Try.underlying3 t0
      obtain ⟨n1, q1, _, w1⟩ := DataW.trod_int Try.underlying3 t1
      obtain ⟨n2, q2, _, w2⟩ := DataW.trod_int Try.underlying3 t2
      obtain ⟨n3, q3, _, w3⟩ := DataW.trod_int Try.underlying3 t3
      obtain ⟨n4, q4, _, w4⟩ := DataW.trod_int Try.underlying3 t4
      obtain ⟨n5, q5, _, w5⟩ := DataW.trod_int Try.underlying3 t5
      obtain ⟨n6, q6, _, w6⟩ := DataW.trod_int Try.underlying3 t6
      obtain ⟨n8, q8, _, w8⟩ := DataW.trod_int Try.underlying3 t8
      obtain ⟨v7b, l7, q7, hel⟩ := elems12 (K := 2) (f := entC) (good := entG) (by omega) (fun _ => rfl) Try.underlying50 (by kernel_rfl) (fun _ _ _ hl h => ent12_of hl h) t7
      obtain ⟨b9, q9, _⟩ := DataW.trod_bool Try.underlying4 t9
      obtain ⟨s10, q10, _, w10⟩ := DataW.trod_string Try.underlying9 t10
      simp at q0 q1 q2 q3 q4 q5 q6 q7 q8 q9 q10
      subst q0 q1 q2 q3 q4 q5 q6 q7 q8 q9 q10
      obtain ⟨p7, c7, q7b, hin, hok, hlen⟩ := hel.toEnts
      subst q7b
      refine ⟨⟨n0, n1, n2, n3, n4, n5, n6, p7, l7, n8, b9, s10⟩, c7, ?_, ⟨fit_of w0, fit_of w1, fit_of w2, fit_of w3, fit_of w4, fit_of w5, fit_of w6, fit_of w8, fits_of w10, hok⟩, hin, hlen⟩
      unfold MsgD.cellsC
      rw [← Array.toArray_toList (xs := cs), ← hll]

def RepD.Ok0 (x : RepD) : Prop := fit x.err ∧ fit x.at_ ∧ PostsOk x.posts
def RepIn (w : World) (x : RepD) : Prop := x.Ok0 ∧ PostsIn w x.p x.posts ∧ x.posts.length ≤ maxLen
theorem rep12_struct : ∃ f0 f1 f2 : Field, Try.prog.underlying 39 = some (.struct #[f0, f1, f2]) ∧ (f0.type, f0.offset) = (26, 0) ∧ (f1.type, f1.offset) = (3, 1) ∧ (f2.type, f2.offset) = (37, 2) :=
  ⟨_, _, _, Try.underlying39, rfl, rfl, rfl⟩
set_option maxHeartbeats 800000 in
set_option maxRecDepth 20000 in
theorem open_rep12 {r : Reach} {b0 : Nat} {v : Value} {d : DataW H} {p : List MemPlace} (hv : Value.okWide Try.prog w r b0 39 v) (h : DataW.Trod enc Try.prog w base sp held 39 v d p) :
    ∃ (x : RepD) (c : Nat), v = .agg (x.cellsC c).toArray ∧ RepIn w x := by
  simp only [Value.okWide, Try.underlying39] at hv
  obtain ⟨cs, rfl, hs, _⟩ := hv
  rw [show Try.prog.cellsOf 39 = 3 by kernel_rfl] at hs
  obtain ⟨fuel, hf⟩ := h
  have hf' : DataW.trod enc Try.prog w base sp held fuel 39 cs.toList = some (d, p) := by simpa [Value.cells] using hf
  have hl : cs.toList.length = 3 := by simpa using hs
  have hc1 : Try.prog.cellsOf 3 = 1 := by kernel_rfl
  have hc2 : Try.prog.cellsOf 26 = 1 := by kernel_rfl
  have hc3 : Try.prog.cellsOf 37 = 1 := by kernel_rfl
  obtain ⟨f0, f1, f2, hst, e0, e1, e2⟩ := rep12_struct
  injection e0 with e0 e0'
  injection e1 with e1 e1'
  injection e2 with e2 e2'
  obtain ⟨xs, n', _, _, _, hxl, hfs⟩ := DataW.trod_struct hst hf'
  obtain ⟨l, hll⟩ : ∃ l, l = cs.toList := ⟨_, rfl⟩
  rw [← hll] at hl hfs
  match l, hl with
  | [v0, v1, v2], _ =>
    match xs, hxl with
    | [y0, y1, y2], _ =>
      have t0 := hfs 0 f0 rfl
      have t1 := hfs 1 f1 rfl
      have t2 := hfs 2 f2 rfl
      rw [e0, e0', hc2] at t0
      rw [e1, e1', hc1] at t1
      rw [e2, e2', hc3] at t2
      obtain ⟨n0, q0, _, w0⟩ := DataW.trod_int Try.underlying26 t0
      obtain ⟨n1, q1, _, w1⟩ := DataW.trod_int Try.underlying3 t1
      obtain ⟨v2b, l2, q2, hel⟩ := elems12 (K := 2) (f := postC) (good := postG) (by omega) (fun _ => rfl) Try.underlying37 (by kernel_rfl) (fun _ _ _ hl h => post12_of hl h) t2
      simp at q0 q1 q2
      subst q0 q1 q2
      obtain ⟨p2, c2, q2b, hin, hok, hlen⟩ := hel.toPosts
      subst q2b
      refine ⟨⟨n0, n1, p2, l2⟩, c2, ?_, ⟨fit_of w0, fit_of w1, hok⟩, hin, hlen⟩
      unfold RepD.cellsC
      rw [← Array.toArray_toList (xs := cs), ← hll]
end
end Go.Proofs.Ytgkcchbignakcaa
