/-
  Arguments that are a record, or a script of calls of a log: what a walk wants of them. Several logs beside one another; short scripts; an append, refused or not.
-/
import Derived.ProofKit
import Derived.OpenShut
import Derived.ShutString
import Derived.Deep.Strs
import Derived.Test.YtpfnkjfbhcffiaaWlRec
import Derived.Test.YtpfnkjfbhcffiaaWlOpen
namespace Go.Proofs.Ytpfnkjfbhcffiaa
open Go.ChangeShapes Go.WideShapes Go.ChangeAt Go.RowKit Go.Deep

theorem rec_struct : ∃ f0 f1 f2 f3 f4 f5 : Field, Try.prog.underlying 37 = some (.struct #[f0, f1, f2, f3, f4, f5]) ∧ (f0.type, f0.offset) = (3, 0) ∧ (f1.type, f1.offset) = (3, 1) ∧ (f2.type, f2.offset) = (3, 2) ∧ (f3.type, f3.offset) = (3, 3) ∧ (f4.type, f4.offset) = (3, 4) ∧ (f5.type, f5.offset) = (9, 5) :=
  ⟨_, _, _, _, _, _, Try.underlying37, rfl, rfl, rfl, rfl, rfl, rfl⟩

/-- The fields of a record that came in lie in their bounds. -/
def RecIn (r : W.Rec) : Prop :=
  (-9223372036854775808 ≤ r.group ∧ r.group ≤ 9223372036854775807) ∧ (-9223372036854775808 ≤ r.kind ∧ r.kind ≤ 9223372036854775807) ∧ (-9223372036854775808 ≤ r.index ∧ r.index ≤ 9223372036854775807) ∧ (-9223372036854775808 ≤ r.term ∧ r.term ≤ 9223372036854775807) ∧ (-9223372036854775808 ≤ r.vote ∧ r.vote ≤ 9223372036854775807) ∧ r.data.size ≤ maxLen

theorem wf5 {n : Int} (h : (Lit.int .i64 n).wf = true) : -9223372036854775808 ≤ n ∧ n ≤ 9223372036854775807 := by
  simpa [Lit.wf, IntKind.min, IntKind.max, IntKind.signed, IntKind.bits] using h

section
variable {H : Type} {enc : TypeId × Value → H} {w : World} {base : Nat} {sp : Nat → Bool} {held : Bool}

set_option maxRecDepth 20000 in
theorem rec_of {fuel : Nat} {cs : List Value} {x : DataW H × List MemPlace} (hl : cs.length = 6) (h : DataW.trod enc Try.prog w base sp held fuel 37 cs = some x) :
    ∃ r : W.Rec, cs = [.int .i64 r.group, .int .i64 r.kind, .int .i64 r.index, .int .i64 r.term, .int .i64 r.vote, .string r.data] ∧ RecIn r := by
  have hc1 : Try.prog.cellsOf 3 = 1 := by kernel_rfl
  have hc2 : Try.prog.cellsOf 9 = 1 := by kernel_rfl
  obtain ⟨f0, f1, f2, f3, f4, f5, hst, e0, e1, e2, e3, e4, e5⟩ := rec_struct
  injection e0 with e0 e0'
  injection e1 with e1 e1'
  injection e2 with e2 e2'
  injection e3 with e3 e3'
  injection e4 with e4 e4'
  injection e5 with e5 e5'
  obtain ⟨xs, n', _, _, _, hxl, hfs⟩ := DataW.trod_struct hst h
  match cs, hl with
  | [v0, v1, v2, v3, v4, v5], _ =>
    match xs, hxl with
    | [y0, y1, y2, y3, y4, y5], _ =>
      have t0 := hfs 0 f0 rfl
      have t1 := hfs 1 f1 rfl
      have t2 := hfs 2 f2 rfl
      have t3 := hfs 3 f3 rfl
      have t4 := hfs 4 f4 rfl
      have t5 := hfs 5 f5 rfl
      rw [e0, e0', hc1] at t0
      rw [e1, e1', hc1] at t1
      rw [e2, e2', hc1] at t2
      rw [e3, e3', hc1] at t3
      rw [e4, e4', hc1] at t4
      rw [e5, e5', hc2] at t5
      obtain ⟨n0, q0, _, w0⟩ := DataW.trod_int Try.underlying3 t0
      obtain ⟨n1, q1, _, w1⟩ := DataW.trod_int Try.underlying3 t1
      obtain ⟨n2, q2, _, w2⟩ := DataW.trod_int Try.underlying3 t2
      obtain ⟨n3, q3, _, w3⟩ := DataW.trod_int Try.underlying3 t3
      obtain ⟨n4, q4, _, w4⟩ := DataW.trod_int Try.underlying3 t4
      obtain ⟨s5, q5, _, hs5⟩ := DataW.trod_string Try.underlying9 t5
      simp at q0 q1 q2 q3 q4 q5
      subst q0 q1 q2 q3 q4 q5
      have hin : RecIn ⟨n0, n1, n2, n3, n4, s5⟩ := And.intro (wf5 w0) (And.intro (wf5 w1) (And.intro (wf5 w2) (And.intro (wf5 w3) (And.intro (wf5 w4) hs5))))
      exact ⟨_, rfl, hin⟩

set_option maxRecDepth 20000 in
theorem open_rec {r : Reach} {b0 : Nat} {v : Value} {d : DataW H} {p : List MemPlace} (hv : Value.okWide Try.prog w r b0 37 v) (h : DataW.Trod enc Try.prog w base sp held 37 v d p) :
    ∃ x : W.Rec, v = recV x ∧ RecIn x := by
  simp only [Value.okWide, Try.underlying37] at hv
  obtain ⟨cs, rfl, hs, _⟩ := hv
  rw [show Try.prog.cellsOf 37 = 6 by kernel_rfl] at hs
  obtain ⟨fuel, hf⟩ := h
  obtain ⟨x, hx, hin⟩ := rec_of (cs := cs.toList) (by simpa using hs) (by simpa [Value.cells] using hf)
  refine ⟨x, ?_, hin⟩
  unfold recV
  rw [← Array.toArray_toList (xs := cs), hx]

theorem op5_struct : ∃ f0 f1 f2 : Field, Try.prog.underlying 39 = some (.struct #[f0, f1, f2]) ∧ (f0.type, f0.offset) = (3, 0) ∧ (f1.type, f1.offset) = (37, 1) ∧ (f2.type, f2.offset) = (4, 7) :=
  ⟨_, _, _, Try.underlying39, rfl, rfl, rfl⟩

/-- A call of a script. -/
structure Op5 where
  kind : Int
  r : W.Rec
  next : Bool

/-- At that place lies a call. -/
def OpAt5 (w : World) (g o : Nat) (x : Op5) : Prop :=
  w.cell? ⟨g, o, none⟩ = some (.int .i64 x.kind) ∧ w.cell? ⟨g, o + 1, none⟩ = some (.int .i64 x.r.group) ∧ w.cell? ⟨g, o + 1 + 1, none⟩ = some (.int .i64 x.r.kind) ∧ w.cell? ⟨g, o + 1 + 2, none⟩ = some (.int .i64 x.r.index) ∧ w.cell? ⟨g, o + 1 + 3, none⟩ = some (.int .i64 x.r.term) ∧
    w.cell? ⟨g, o + 1 + 4, none⟩ = some (.int .i64 x.r.vote) ∧ w.cell? ⟨g, o + 1 + 5, none⟩ = some (.string x.r.data) ∧ w.cell? ⟨g, o + 7, none⟩ = some (.bool x.next)

/-- The slice v holds a script. -/
def Scr (w : World) (v : Value) (l : List Op5) : Prop :=
  ∃ ao c, v = .slice ao l.length c ∧ l.length ≤ c ∧ c ≤ maxLen ∧ (∀ x ∈ l, RecIn x.r) ∧ (l = [] ∨ ∃ g o, ao = some ⟨g, o, none⟩ ∧ g < w.heap.size ∧ ∀ j x, l[j]? = some x → OpAt5 w g (o + j * 8) x)

set_option maxRecDepth 20000 in
theorem op5_of {fuel : Nat} {cs : List Value} {x : DataW H × List MemPlace} (hl : cs.length = 8) (h : DataW.trod enc Try.prog w base sp held fuel 39 cs = some x) :
    ∃ y : Op5, cs = [.int .i64 y.kind, .int .i64 y.r.group, .int .i64 y.r.kind, .int .i64 y.r.index, .int .i64 y.r.term, .int .i64 y.r.vote, .string y.r.data, .bool y.next] ∧ RecIn y.r := by
  have hc1 : Try.prog.cellsOf 3 = 1 := by kernel_rfl
  have hc2 : Try.prog.cellsOf 37 = 6 := by kernel_rfl
  have hc3 : Try.prog.cellsOf 4 = 1 := by kernel_rfl
  obtain ⟨f0, f1, f2, hst, e0, e1, e2⟩ := op5_struct
  injection e0 with e0 e0'
  injection e1 with e1 e1'
  injection e2 with e2 e2'
  obtain ⟨xs, n', _, _, _, hxl, hfs⟩ := DataW.trod_struct hst h
  match cs, hl with
  | [v0, v1, v2, v3, v4, v5, v6, v7], _ =>
    match xs, hxl with
    | [y0, y1, y2], _ =>
      have t0 := hfs 0 f0 rfl
      have t1 := hfs 1 f1 rfl
      have t2 := hfs 2 f2 rfl
      rw [e0, e0', hc1] at t0
      rw [e1, e1', hc2] at t1
      rw [e2, e2', hc3] at t2
      obtain ⟨n0, q0, _, w0⟩ := DataW.trod_int Try.underlying3 t0
      obtain ⟨r, q1, hin⟩ := rec_of (by rfl) t1
      obtain ⟨b2, q2, _⟩ := DataW.trod_bool Try.underlying4 t2
      simp at q0 q1 q2
      obtain ⟨k1, k2, k3, k4, k5, k6⟩ := q1
      subst q0 k1 k2 k3 k4 k5 k6 q2
      exact ⟨⟨n0, r, b2⟩, rfl, hin⟩

set_option maxRecDepth 20000 in
theorem open_ops5 {r : Reach} {b0 : Nat} {v : Value} {d : DataW H} {p : List MemPlace}
    (hv : Value.okWide Try.prog w r b0 22 v) (h : DataW.Trod enc Try.prog w base sp held 22 v d p) : ∃ l, Scr w v l := by
  obtain ⟨a0, len, cap, rfl⟩ := okWide_slice Try.underlying22 hv
  obtain ⟨fuel, hf⟩ := h
  have hce : Try.prog.cellsOf 39 = 8 := by kernel_rfl
  rcases open_slice Try.underlying22 hf with ⟨hcs, _⟩ | ⟨a, len', cap', m, n, D, Pl, hcs, _, hl, hm, hmm, _, hx⟩
  · simp [Value.cells] at hcs
    obtain ⟨rfl, rfl, rfl⟩ := hcs
    exact ⟨[], none, 0, rfl, Nat.le_refl _, by unfold maxLen; omega, fun _ h => (by cases h), .inl rfl⟩
  · simp [Value.cells] at hcs
    obtain ⟨rfl, rfl, rfl⟩ := hcs
    have hlm : len ≤ m := by rw [hmm]; split <;> omega
    have key : ∀ j, j < len → ∃ y : Op5, RecIn y.r ∧ w.cell? (a.add (j * 8)) = some (.int .i64 y.kind) ∧ w.cell? (a.add (j * 8 + 1)) = some (.int .i64 y.r.group) ∧ w.cell? (a.add (j * 8 + 1 + 1)) = some (.int .i64 y.r.kind) ∧ w.cell? (a.add (j * 8 + 1 + 2)) = some (.int .i64 y.r.index) ∧ w.cell? (a.add (j * 8 + 1 + 3)) = some (.int .i64 y.r.term) ∧
        w.cell? (a.add (j * 8 + 1 + 4)) = some (.int .i64 y.r.vote) ∧ w.cell? (a.add (j * 8 + 1 + 5)) = some (.string y.r.data) ∧ w.cell? (a.add (j * 8 + 7)) = some (.bool y.next) := by
      intro j hj
      obtain ⟨cs', h1, h2⟩ := hx j (by omega)
      rw [hce] at h1
      obtain ⟨_, hlen, hcell⟩ := World.cells?_some h1
      obtain ⟨y, hy, hin⟩ := op5_of hlen h2
      subst hy
      have c := fun i hi => hcell i hi
      simp only [add_add] at c
      exact ⟨y, hin, by simpa using c 0 (by omega), by simpa using c 1 (by omega), by simpa using c 2 (by omega), by simpa using c 3 (by omega), by simpa using c 4 (by omega), by simpa using c 5 (by omega), by simpa using c 6 (by omega), by simpa using c 7 (by omega)⟩
    obtain ⟨l, hll, hlk⟩ : ∃ l : List Op5, l.length = len ∧ ∀ j y, l[j]? = some y → RecIn y.r ∧ w.cell? (a.add (j * 8)) = some (.int .i64 y.kind) ∧ w.cell? (a.add (j * 8 + 1)) = some (.int .i64 y.r.group) ∧ w.cell? (a.add (j * 8 + 1 + 1)) = some (.int .i64 y.r.kind) ∧ w.cell? (a.add (j * 8 + 1 + 2)) = some (.int .i64 y.r.index) ∧ w.cell? (a.add (j * 8 + 1 + 3)) = some (.int .i64 y.r.term) ∧
        w.cell? (a.add (j * 8 + 1 + 4)) = some (.int .i64 y.r.vote) ∧ w.cell? (a.add (j * 8 + 1 + 5)) = some (.string y.r.data) ∧ w.cell? (a.add (j * 8 + 7)) = some (.bool y.next) := by
      have : ∀ n, n ≤ len → ∃ l : List Op5, l.length = n ∧ ∀ j y, l[j]? = some y → RecIn y.r ∧ w.cell? (a.add (j * 8)) = some (.int .i64 y.kind) ∧ w.cell? (a.add (j * 8 + 1)) = some (.int .i64 y.r.group) ∧ w.cell? (a.add (j * 8 + 1 + 1)) = some (.int .i64 y.r.kind) ∧ w.cell? (a.add (j * 8 + 1 + 2)) = some (.int .i64 y.r.index) ∧ w.cell? (a.add (j * 8 + 1 + 3)) = some (.int .i64 y.r.term) ∧
          w.cell? (a.add (j * 8 + 1 + 4)) = some (.int .i64 y.r.vote) ∧ w.cell? (a.add (j * 8 + 1 + 5)) = some (.string y.r.data) ∧ w.cell? (a.add (j * 8 + 7)) = some (.bool y.next) := by
        intro n
        induction n with
        | zero => intro _; exact ⟨[], rfl, fun j y q => by simp at q⟩
        | succ n ih =>
          intro hn
          obtain ⟨l, h1, h2⟩ := ih (by omega)
          obtain ⟨y, hy⟩ := key n (by omega)
          refine ⟨l ++ [y], by simp [h1], fun j z q => ?_⟩
          by_cases e : j < l.length
          · rw [List.getElem?_append_left e] at q
            exact h2 j z q
          · have e2 : j = n := by
              have := (List.getElem?_eq_some_iff.1 q).1
              rw [List.length_append] at this
              simp at this
              omega
            subst e2
            rw [← h1] at q
            simp at q
            subst q
            exact hy
      exact this len (Nat.le_refl _)
    refine ⟨l, some a, cap, by rw [hll], by omega, hm, fun x hx => ?_, ?_⟩
    · obtain ⟨j, hj⟩ := List.getElem?_of_mem hx
      exact (hlk j x hj).1
    · rcases Nat.eq_zero_or_pos len with h0 | h0
      · exact .inl (List.eq_nil_of_length_eq_zero (by omega))
      · right
        obtain ⟨b, off, spot⟩ := a
        obtain ⟨_, _, k0, _⟩ := key 0 h0
        have hspot : spot = none := by simpa [Addr.add] using World.cell?_spot k0
        subst hspot
        refine ⟨b, off, rfl, ?_, fun j y hj => ?_⟩
        · have := World.block_lt_of_cell? _ _ k0
          simpa [Addr.add] using this
        · have := (hlk j y hj).2
          simp only [add_plain] at this
          simpa [OpAt5, Nat.add_assoc] using this
end

theorem Scr.below {w w' : World} {v : Value} {l : List Op5} (h : Scr w v l) (hb : Below w.heap.size w w') : Scr w' v l := by
  obtain ⟨ao, c, h1, h2, h3, h4, h5 | ⟨g, o, h6, h7, h8⟩⟩ := h
  · exact ⟨ao, c, h1, h2, h3, h4, .inl h5⟩
  · refine ⟨ao, c, h1, h2, h3, h4, .inr ⟨g, o, h6, Nat.lt_of_lt_of_le h7 hb.size, fun j x hj => ?_⟩⟩
    have q := h8 j x hj
    have hc : ∀ k, w'.cell? ⟨g, k, none⟩ = w.cell? ⟨g, k, none⟩ := fun k => hb.cell (p := ⟨g, k, none⟩) h7
    unfold OpAt5 at q ⊢
    rw [hc, hc, hc, hc, hc, hc, hc, hc]
    exact q

end Go.Proofs.Ytpfnkjfbhcffiaa

namespace Go.Proofs.Ytpfnkjfbhcffiaa
open Go.RowKit

/-- Scripts and their data are short. -/
def Short (l : List Op5) : Prop := l.length ≤ 100 ∧ ∀ x ∈ l, x.r.data.size ≤ 200

/-- What fine answers. -/
def FineOut (w : World) (l : List Op5) (e : Ending) (w' : World) : Prop := ∃ b, e = .returned (.bool b) ∧ (b = true → Short l) ∧ w' = w

set_option maxHeartbeats 800000 in
set_option maxRecDepth 20000 in
theorem fine_c {w : World} {v : Value} {l : List Op5} (h : Scr w v l) :
    Calls Try.prog 5 #[v] w (FineOut w l) := by
  obtain ⟨ao, c, rfl, h2, h3, h4, h5⟩ := h
  have HC : Hid _ := h5
  obtain ⟨n, hn⟩ : ∃ n, n = l.length := ⟨_, rfl⟩
  have HN : Hid (n = l.length) := hn
  rw [← hn] at h2 ⊢
  have hb : n < 9223372036854775808 := by unfold maxLen at h3; omega
  have HD : Hid (∀ x ∈ l, x.r.data.size ≤ maxLen) := fun x hx => (h4 x hx).2.2.2.2.2
  clear h3 h4 h5 hn
  go_enter Try.func5, Try.ntmps5
  go_wp2
  go_loop [3] (fun x => ∃ k : Nat, x = .int .i64 (k : Int) ∧ k ≤ n ∧ Hid (∀ x ∈ l.take k, x.r.data.size ≤ 200)) (fun x => n - (intOf x).toNat)
  case atStart => exact ⟨0, rfl, Nat.zero_le _, fun x hx => by simp at hx⟩
  case round =>
    obtain ⟨k, rfl, hk, HS⟩ := hrel
    by_cases hlt : k < n
    · obtain ⟨x, hx⟩ : ∃ x, l[k]? = some x := ⟨_, List.getElem?_eq_getElem (by have := HN.out; omega)⟩
      have HX : Hid (l[k]? = some x) := hx
      obtain ⟨g, o, rfl, q⟩ : ∃ g o, ao = some ⟨g, o, none⟩ ∧ w.cell? ⟨g, o + k * 8 + 1 + 5, none⟩ = some (.string x.r.data) := by
        rcases HC.out with e | ⟨g, o, e1, _, e2⟩
        · rw [e] at hx; simp at hx
        · exact ⟨g, o, e1, (e2 k x hx).2.2.2.2.2.2.1⟩
      obtain ⟨d, hd⟩ : ∃ d, d = x.r.data := ⟨_, rfl⟩
      have HDd : Hid (d = x.r.data) := hd
      rw [← hd] at q
      have hk0 : (0 : Int) ≤ (k : Int) := by omega
      have hkn : (k : Int) < (n : Int) := by omega
      clear hx hd
      by_cases hs : 200 < d.size
      · go_wp2
        go_ret
        exact ⟨false, rfl, fun e => (by cases e), rfl⟩
      · go_wp2
        go_round
        case rel =>
          refine ⟨k + 1, by go_num, by omega, ?_⟩
          intro y hy
          rw [List.take_add_one, HX.out, List.mem_append] at hy
          rcases hy with hy | hy
          · exact HS.out y hy
          · simp at hy
            subst hy
            rw [← HDd.out]
            omega
        case measure => simp [intOf]; omega
    · obtain rfl : k = n := by omega
      have HT : Hid (∀ x ∈ l, x.r.data.size ≤ 200) := by
        have := HS.out
        rw [List.take_of_length_le (by have := HN.out; omega)] at this
        exact this
      go_wp2
      go_ret
      refine ⟨decide ((k : Int) ≤ 100), rfl, fun e => ?_, rfl⟩
      have := of_decide_eq_true e
      exact ⟨by rw [← HN.out]; omega, HT.out⟩

theorem recB_small {r : W.Rec} (h : W.may r = true) : (W.recB r).size ≤ 54 + r.data.size := by
  obtain ⟨g, k, i, t, v, hg, hk, hi, ht, hv, lg, lk, li, lt, lv⟩ := may_nums h
  unfold W.recB
  rw [F.record_size]
  show 9 + (W.payload r).toArray.size ≤ _
  rw [List.size_toArray]
  unfold W.payload
  simp only [List.length_append]
  have h1 := M.putVar_length9 (n := r.group.toNat) (by omega)
  have h2 := M.putVar_length9 (n := r.kind.toNat) (by omega)
  have h3 := M.putVar_length9 (n := r.index.toNat) (by omega)
  have h4 := M.putVar_length9 (n := r.term.toNat) (by omega)
  have h5 := M.putVar_length9 (n := (r.vote + 1).toNat) (by omega)
  have h6 : r.data.data.toList.length = r.data.size := by simp
  omega

theorem wx_small (lim : Nat) (s : St) (ht : s.turn ≤ 1) (r : W.Rec) (hm : W.may r = true) (hd : r.data.size ≤ 200) : (wx lim s (W.recB r)).size ≤ 264 := by
  have h1 := recB_small hm
  unfold wx
  split
  · rw [size_app, head_size10 _ ht]; omega
  · omega

/-- What an append makes of a log, refused or not. -/
def app1 (lim : Nat) (s : St) (r : W.Rec) : St := if W.chk s.gs r = 0 then appd lim s r else s

theorem App_c {w : World} {p : Pl} {s : St} {own : Nat → Prop} (h : Lg w p s own) (r : W.Rec) (hd : r.data.size ≤ 200) (hroom : tot s.A + 264 ≤ p.room) (hn : s.n < 200) :
    Calls Try.prog 13 #[.pointer (some ⟨p.L, 0, none⟩), recV r] w fun e w' => e = .returned (.int .i64 (W.chk s.gs r)) ∧ Aft own w w' p (app1 p.limit s r) := by
  unfold app1
  by_cases hc : W.chk s.gs r = 0
  · rw [if_pos hc, hc]
    have hcl := cl_le p.limit s
    exact Append_yes h r hc (by have := wx_small p.limit s h.tt r (chk_may hc) hd; omega) (by omega)
  · rw [if_neg hc]
    refine (Append_no h r hc).mono ?_
    rintro e w' ⟨rfl, hb⟩
    exact ⟨rfl, Aft.same h hb⟩

theorem app1_small (lim : Nat) (s : St) (r : W.Rec) (ht : s.turn ≤ 1) (hd : r.data.size ≤ 200) (hn : s.n < 200) : tot (app1 lim s r).A ≤ tot s.A + 264 ∧ (app1 lim s r).n ≤ s.n + 1 ∧ (app1 lim s r).turn = s.turn ∧ (app1 lim s r).gs = if W.chk s.gs r = 0 then W.doR s.gs r else s.gs := by
  unfold app1
  by_cases hc : W.chk s.gs r = 0
  · rw [if_pos hc, if_pos hc]
    have hcl := cl_le lim s
    have h1 := wr_tot lim s (W.recB r) (by omega)
    have h2 := wx_small lim s ht r (chk_may hc) hd
    have h3 := wr_n lim s (W.recB r)
    refine ⟨?_, ?_, wr_turn lim s (W.recB r), rfl⟩
    · show tot (wr lim s (W.recB r)).A ≤ _; omega
    · show (wr lim s (W.recB r)).n ≤ _; omega
  · rw [if_neg hc, if_neg hc]
    exact ⟨by omega, by omega, rfl, rfl⟩

/-- n logs beside one another, all newer than w. -/
structure Fam (w wr : World) (n : Nat) (P : Nat → Pl) (T : Nat → St) (O : Nat → Nat → Prop) : Prop where
  old : Below w.heap.size w wr
  lg : ∀ i, i < n → Lg wr (P i) (T i) (O i)
  mine : ∀ i, i < n → ∀ k, O i k → w.heap.size ≤ k
  apart : ∀ i j, i < n → j < n → i ≠ j → ∀ k, O i k → O j k → False

theorem Fam.nil (w : World) (P : Nat → Pl) (T : Nat → St) (O : Nat → Nat → Prop) : Fam w w 0 P T O := ⟨Below.refl _ _, fun i h => by omega, fun i h => by omega, fun i j h => by omega⟩
theorem Fam.below {w wr w' : World} {n : Nat} {P : Nat → Pl} {T : Nat → St} {O : Nat → Nat → Prop} (h : Fam w wr n P T O) (hb : Below wr.heap.size wr w') : Fam w w' n P T O :=
  ⟨h.old.trans (hb.mono h.old.size), fun i hi => (h.lg i hi).below hb, h.mine, h.apart⟩
/-- A row that is none of the logs' has turned. -/
theorem Fam.grown {w wr w' : World} {n : Nat} {P : Nat → Pl} {T : Nat → St} {O : Nat → Nat → Prop} {row : Option Nat} (h : Fam w wr n P T O) (hg : wr.grownBy w' row) (hr : ∀ k, row = some k → w.heap.size ≤ k ∧ ∀ i, i < n → ¬ O i k) : Fam w w' n P T O := by
  refine ⟨⟨hg.os.trans h.old.os, hg.tape.trans h.old.tape, hg.output.trans h.old.output, Nat.le_trans h.old.size hg.size, fun k hk => ?_⟩, fun i hi => (h.lg i hi).carry hg.size (fun k hk => hg.block k ((h.lg i hi).here k hk) (fun e => (hr k e.symm).2 i hi hk)), h.mine, h.apart⟩
  rw [hg.block k (Nat.lt_of_lt_of_le hk h.old.size) (fun e => by have := (hr k e.symm).1; omega)]
  exact h.old.block k hk
/-- One log more. -/
theorem Fam.snoc {w wr w' : World} {n : Nat} {P : Nat → Pl} {T : Nat → St} {O : Nat → Nat → Prop} (h : Fam w wr n P T O) {p : Pl} {s : St} {own : Nat → Prop} (hf : Fresh wr w' p s own) : Fam w w' (n + 1) (upd P n p) (upd T n s) (upd O n own) := by
  have hb := h.below hf.old
  refine ⟨hb.old, fun i hi => ?_, fun i hi k hk => ?_, fun i j hi hj e k h1 h2 => ?_⟩
  · by_cases q : i = n
    · subst q; rw [upd_same, upd_same, upd_same]; exact hf.lg
    · rw [upd_other _ _ q, upd_other _ _ q, upd_other _ _ q]; exact hb.lg i (by omega)
  · by_cases q : i = n
    · subst q; rw [upd_same] at hk; exact Nat.le_trans h.old.size (hf.mine k hk)
    · rw [upd_other _ _ q] at hk; exact h.mine i (by omega) k hk
  · have hx : ∀ m, m < n → ∀ k, O m k → own k → False := fun m hm k q1 q2 => by
      have := (h.lg m hm).here k q1
      have := hf.mine k q2
      omega
    by_cases q : i = n
    · subst q
      rw [upd_same] at h1
      rw [upd_other _ _ (fun q => e q.symm)] at h2
      exact hx j (by omega) k h2 h1
    · rw [upd_other _ _ q] at h1
      by_cases q2 : j = n
      · subst q2
        rw [upd_same] at h2
        exact hx i (by omega) k h1 h2
      · rw [upd_other _ _ q2] at h2
        exact h.apart i j (by omega) (by omega) e k h1 h2
/-- One log has turned. -/
theorem Fam.step {w wr w' : World} {n : Nat} {P : Nat → Pl} {T : Nat → St} {O : Nat → Nat → Prop} (h : Fam w wr n P T O) {i : Nat} (hi : i < n) {s : St} (ha : Aft (O i) wr w' (P i) s) : Fam w w' n P (upd T i s) (upd O i (sinceS (O i) wr w')) := by
  refine ⟨h.old.trans (ha.2.below (h.mine i hi) h.old.size), fun j hj => ?_, fun j hj k hk => ?_, fun a b hab hb e k h1 h2 => ?_⟩
  · by_cases q : j = i
    · subst q; rw [upd_same, upd_same]; exact ha.1
    · rw [upd_other _ _ q, upd_other _ _ q]
      exact (h.lg j hj).carry ha.2.size (fun k hk => ha.2.block k ((h.lg j hj).here k hk) (fun e => h.apart j i hj hi q k hk e))
  · by_cases q : j = i
    · subst q
      rw [upd_same] at hk
      rcases hk with e | e
      · exact h.mine j hj k e
      · exact Nat.le_trans h.old.size e.1
    · rw [upd_other _ _ q] at hk; exact h.mine j hj k hk
  · have hx : ∀ m, m < n → m ≠ i → ∀ k, O m k → sinceS (O i) wr w' k → False := fun m hm hme k q1 q2 => by
      rcases q2 with q2 | q2
      · exact h.apart m i hm hi hme k q1 q2
      · have := (h.lg m hm).here k q1
        omega
    by_cases q : a = i
    · subst q
      rw [upd_same] at h1
      rw [upd_other _ _ (fun q => e q.symm)] at h2
      exact hx b hb (fun q => e q.symm) k h2 h1
    · rw [upd_other _ _ q] at h1
      by_cases q2 : b = i
      · subst q2
        rw [upd_same] at h2
        exact hx a hab q k h1 h2
      · rw [upd_other _ _ q2] at h2
        exact h.apart a b hab hb e k h1 h2

/-- From Z on only the n logs have turned. -/
structure Reach (w Z X : World) (n : Nat) (P : Nat → Pl) (T : Nat → St) (U : Nat → Prop) : Prop where
  ex : ∃ O, Fam w X n P T O ∧ ∀ i, i < n → ∀ k, O i k → U k ∨ Z.heap.size ≤ k
  kept : KeptS U Z X

theorem Reach.start {w Z : World} {n : Nat} {P : Nat → Pl} {T : Nat → St} {O : Nat → Nat → Prop} (h : Fam w Z n P T O) : Reach w Z Z n P T (fun k => ∃ i, i < n ∧ O i k) :=
  ⟨⟨O, h, fun i hi _ hk => .inl ⟨i, hi, hk⟩⟩, KeptS.refl _ _⟩
theorem Reach.below {w Z X Y : World} {n : Nat} {P : Nat → Pl} {T : Nat → St} {U : Nat → Prop} (h : Reach w Z X n P T U) (hb : Below X.heap.size X Y) : Reach w Z Y n P T U := by
  obtain ⟨⟨O, h1, h2⟩, h3⟩ := h
  exact ⟨⟨O, h1.below hb, h2⟩, h3.trans (KeptS.ofBelow (own := fun _ => False) hb) (fun _ _ e => e.elim)⟩
theorem Reach.cell {w Z X : World} {n : Nat} {P : Nat → Pl} {T : Nat → St} {U : Nat → Prop} (h : Reach w Z X n P T U) {b : Nat} (hb : b < Z.heap.size) (hu : ¬ U b) (j : Nat) : X.cell? ⟨b, j, none⟩ = Z.cell? ⟨b, j, none⟩ :=
  World.cell?_of_block (a := ⟨b, j, none⟩) (h.kept.block b hb hu)
theorem Reach.app {w Z X : World} {n : Nat} {P : Nat → Pl} {T : Nat → St} {U : Nat → Prop} (h : Reach w Z X n P T U) {i : Nat} (hi : i < n) (r : W.Rec) (hd : r.data.size ≤ 200) (hroom : tot (T i).A + 264 ≤ (P i).room) (hn : (T i).n < 200) :
    Calls Try.prog 13 #[.pointer (some ⟨(P i).L, 0, none⟩), recV r] X fun e w' => e = .returned (.int .i64 (W.chk (T i).gs r)) ∧ Reach w Z w' n P (upd T i (app1 (P i).limit (T i) r)) U := by
  obtain ⟨⟨O, h1, h2⟩, h3⟩ := h
  refine (App_c (h1.lg i hi) r hd hroom hn).mono ?_
  rintro e w' ⟨rfl, ha⟩
  refine ⟨rfl, ⟨_, h1.step hi ha, ?_⟩, ?_⟩
  · intro j hj k hk
    by_cases q : j = i
    · subst q
      rw [upd_same] at hk
      rcases hk with e | e
      · exact h2 j hj k e
      · exact .inr (Nat.le_trans h3.size e.1)
    · rw [upd_other _ _ q] at hk
      exact h2 j hj k hk
  · exact h3.trans ha.2 (fun q hq e => (h2 i hi q e).resolve_right (Nat.not_le.2 hq))
theorem Reach.saved {w Z X : World} {n : Nat} {P : Nat → Pl} {T : Nat → St} {U : Nat → Prop} (h : Reach w Z X n P T U) {i : Nat} (hi : i < n) (g : Nat) (g9 : g < 9) :
    Calls Try.prog 21 #[.pointer (some ⟨(P i).L, 0, none⟩), .int .i64 (g : Int)] X fun e w' => ∃ v', e = .returned (.tuple #[savV ((T i).gs g) v', .int .i64 0]) ∧ EntV w' v' ((T i).gs g).ents ∧ Below X.heap.size X w' := by
  obtain ⟨⟨O, h1, h2⟩, h3⟩ := h
  refine (Saved_c (h1.lg i hi) g g9).mono ?_
  rintro e w' ⟨v', rfl, h4, h5, _⟩
  exact ⟨v', rfl, h4, h5⟩

/-- The logs but for the first, by pointers. -/
def ptrs (P : Nat → Pl) (n : Nat) : List Value := (List.range n).map fun j => .pointer (some ⟨(P (j + 1)).L, 0, none⟩)
theorem ptrs_succ (P : Nat → Pl) (n : Nat) : ptrs P (n + 1) = ptrs P n ++ [.pointer (some ⟨(P (n + 1)).L, 0, none⟩)] := by unfold ptrs; rw [List.range_succ, List.map_append]; rfl
theorem ptrs_at (P : Nat → Pl) {n j : Nat} (hj : j < n) : (ptrs P n)[j]? = some (.pointer (some ⟨(P (j + 1)).L, 0, none⟩)) := by unfold ptrs; simp [hj]
theorem ptrs_upd (P : Nat → Pl) {n k : Nat} (h : n < k) (p : Pl) : ptrs (upd P k p) n = ptrs P n := by
  unfold ptrs
  refine List.map_congr_left (fun j hj => ?_)
  rw [upd_other _ _ (by have := List.mem_range.1 hj; omega)]

/-- n logs; k of them lie in the slice v. -/
structure Mk (w X : World) (n k : Nat) (v : Value) (P : Nat → Pl) (T : Nat → St) : Prop where
  ex : ∃ O, Fam w X n P T O ∧ ∀ q, rowBlk v = some q → w.heap.size ≤ q ∧ ∀ i, i < n → ¬ O i q
  row : RowV X 29 1 v k (ptrs P k)
theorem Mk.below {w X Y : World} {n k : Nat} {v : Value} {P : Nat → Pl} {T : Nat → St} (h : Mk w X n k v P T) (hb : Below X.heap.size X Y) : Mk w Y n k v P T := by
  obtain ⟨⟨O, h1, h2⟩, h3⟩ := h
  exact ⟨⟨O, h1.below hb, h2⟩, h3.carry (fun q hq => hb.block q (h3.lt hq))⟩
theorem Mk.fresh {w X Y : World} {n k : Nat} {v : Value} {P : Nat → Pl} {T : Nat → St} (h : Mk w X n k v P T) (hk : k < n) {p : Pl} {s : St} {own : Nat → Prop} (hf : Fresh X Y p s own) : Mk w Y (n + 1) k v (upd P n p) (upd T n s) := by
  have hb := h.below hf.old
  obtain ⟨⟨O, h1, h2⟩, h3⟩ := h
  refine ⟨⟨_, h1.snoc hf, fun q hq => ⟨(h2 q hq).1, fun i hi e => ?_⟩⟩, by rw [ptrs_upd P hk]; exact hb.row⟩
  by_cases q1 : i = n
  · subst q1
    rw [upd_same] at e
    have := hf.mine q e
    have := h3.lt hq
    omega
  · rw [upd_other _ _ q1] at e
    exact (h2 q hq).2 i (by omega) e
theorem Mk.push {w X Y : World} {n k : Nat} {v v' : Value} {P : Nat → Pl} {T : Nat → St} (h : Mk w X n k v P T) (hr : RowV Y 29 1 v' (k + 1) (ptrs P k ++ [.pointer (some ⟨(P (k + 1)).L, 0, none⟩)])) (hg : X.grownBy Y (rowBlk v)) (hl : ∀ q, rowBlk v' = some q → rowBlk v = some q ∨ X.heap.size ≤ q) : Mk w Y n (k + 1) v' P T := by
  obtain ⟨⟨O, h1, h2⟩, h3⟩ := h
  refine ⟨⟨O, h1.grown hg h2, fun q hq => ?_⟩, by rw [ptrs_succ]; exact hr⟩
  rcases hl q hq with e | e
  · exact h2 q e
  · exact ⟨Nat.le_trans h1.old.size e, fun i hi o => by have := (h1.lg i hi).here q o; omega⟩

theorem infoPtr : (Try.prog.info? 29).map (fun i => (i.zero, i.size, i.bytes)) = some (some (.pointer none), 1, 8) := by kernel_rfl

/-- Logs that hold nothing. -/
def Zs (n : Nat) (P : Nat → Pl) (T : Nat → St) : Prop := ∀ i, i < n → (T i).gs = (fun _ => W.new) ∧ tot (T i).A = 0 ∧ (T i).n = 0 ∧ (P i).room = 4194304
theorem Zs.snoc {X Y : World} {n : Nat} {P : Nat → Pl} {T : Nat → St} (h : Zs n P T) {p : Pl} {s : St} {own : Nat → Prop} (hf : Fresh X Y p s own) : Zs (n + 1) (upd P n p) (upd T n s) := by
  intro i hi
  by_cases q : i = n
  · subst q
    rw [upd_same, upd_same]
    exact ⟨hf.gs, tot_nil hf.A, hf.n, hf.room⟩
  · rw [upd_other _ _ q, upd_other _ _ q]
    exact h i (by omega)

/-- After i calls: each group has in its own log what it has in the first. -/
structure Alike (i : Nat) (P : Nat → Pl) (T : Nat → St) : Prop where
  room : ∀ j, j < 10 → (P j).room = 4194304
  tots : ∀ j, j < 10 → tot (T j).A ≤ 264 * i
  ns : ∀ j, j < 10 → (T j).n ≤ i
  turns : ∀ j, j < 10 → (T j).turn ≤ 1
  same : ∀ g, g < 9 → (T (g + 1)).gs g = (T 0).gs g
theorem Alike.more {i : Nat} {P : Nat → Pl} {T : Nat → St} (h : Alike i P T) : Alike (i + 1) P T :=
  ⟨h.room, fun j hj => by have := h.tots j hj; omega, fun j hj => by have := h.ns j hj; omega, h.turns, h.same⟩
theorem chk_local {gs gs' : Nat → W.Sv} {r : W.Rec} (h : gs r.group.toNat = gs' r.group.toNat) : W.chk gs r = W.chk gs' r := by unfold W.chk; rw [h]
theorem Alike.step {i : Nat} {P : Nat → Pl} {T : Nat → St} (h : Alike i P T) (hi : i < 60) {g : Nat} (hg : g < 9) {r : W.Rec} (hr : r.group.toNat = g) (hd : r.data.size ≤ 200) :
    Alike (i + 1) P (upd (upd T 0 (app1 (P 0).limit (T 0) r)) (g + 1) (app1 (P (g + 1)).limit (T (g + 1)) r)) := by
  have hs := h.same g hg
  have hc : W.chk (T (g + 1)).gs r = W.chk (T 0).gs r := chk_local (by rw [hr]; exact hs)
  have a0 := app1_small (P 0).limit (T 0) r (h.turns 0 (by omega)) hd (by have := h.ns 0 (by omega); omega)
  have a1 := app1_small (P (g + 1)).limit (T (g + 1)) r (h.turns (g + 1) (by omega)) hd (by have := h.ns (g + 1) (by omega); omega)
  have t0 := h.tots 0 (by omega)
  have t1 := h.tots (g + 1) (by omega)
  have n0 := h.ns 0 (by omega)
  have n1 := h.ns (g + 1) (by omega)
  have u0 := h.turns 0 (by omega)
  have u1 := h.turns (g + 1) (by omega)
  have at0 : (upd (upd T 0 (app1 (P 0).limit (T 0) r)) (g + 1) (app1 (P (g + 1)).limit (T (g + 1)) r)) 0 = app1 (P 0).limit (T 0) r := by rw [upd_other _ _ (by omega), upd_same]
  refine ⟨h.room, fun j hj => ?_, fun j hj => ?_, fun j hj => ?_, fun x hx => ?_⟩
  · by_cases q : j = g + 1
    · subst q; rw [upd_same]; omega
    · rw [upd_other _ _ q]
      by_cases q0 : j = 0
      · subst q0; rw [upd_same]; omega
      · rw [upd_other _ _ q0]; have := h.tots j hj; omega
  · by_cases q : j = g + 1
    · subst q; rw [upd_same]; omega
    · rw [upd_other _ _ q]
      by_cases q0 : j = 0
      · subst q0; rw [upd_same]; omega
      · rw [upd_other _ _ q0]; have := h.ns j hj; omega
  · by_cases q : j = g + 1
    · subst q; rw [upd_same, a1.2.2.1]; exact u1
    · rw [upd_other _ _ q]
      by_cases q0 : j = 0
      · subst q0; rw [upd_same, a0.2.2.1]; exact u0
      · rw [upd_other _ _ q0]; exact h.turns j hj
  · rw [at0, a0.2.2.2]
    by_cases q : x = g
    · subst q
      rw [upd_same, a1.2.2.2, hc]
      by_cases z : W.chk (T 0).gs r = 0
      · rw [if_pos z, if_pos z]
        unfold W.doR
        rw [hr, upd_same, upd_same, hs]
      · rw [if_neg z, if_neg z]; exact hs
    · rw [upd_other _ _ (by omega), upd_other _ _ (by omega), h.same x hx]
      by_cases z : W.chk (T 0).gs r = 0
      · rw [if_pos z]
        unfold W.doR
        rw [hr, upd_other _ _ q]
      · rw [if_neg z]

theorem Reach.held {w Z X : World} {n k : Nat} {v : Value} {P : Nat → Pl} {T T' : Nat → St} {U : Nat → Prop} (h : Reach w Z X n P T' U) (hz : Mk w Z n k v P T) (hu : ∀ q, rowBlk v = some q → ¬ U q) : Mk w X n k v P T' := by
  obtain ⟨⟨O, h1, h2⟩, h3⟩ := h
  obtain ⟨⟨O0, h4, h5⟩, h6⟩ := hz
  refine ⟨⟨O, h1, fun q hq => ⟨(h5 q hq).1, fun i hi e => ?_⟩⟩, h6.carry (fun q hq => h3.block q (h6.lt hq) (hu q hq))⟩
  have := h6.lt hq
  rcases h2 i hi q e with e | e
  · exact hu q hq e
  · omega

end Go.Proofs.Ytpfnkjfbhcffiaa
