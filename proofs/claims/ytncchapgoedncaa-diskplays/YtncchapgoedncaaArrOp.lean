/-
  An argument that is a script of calls: what a walk wants of it.
-/
import Derived.ProofKit
import Derived.OpenShut
import Derived.ShutString
import Derived.Deep.Strs
import Derived.Test.YtncchapgoedncaaDkCrash
namespace Go.Proofs.Ytncchapgoedncaa
open Go.ChangeShapes Go.WideShapes Go.ChangeAt Go.RowKit Go.Deep

/-- At that place lies a call. -/
def OpAt (w : World) (g o : Nat) : Prop :=
  ∃ (kind file a b : Int) (text : ByteArray) (kv : Value) (gk : Nat) (K : List Int), w.cell? ⟨g, o, none⟩ = some (.int .i64 kind) ∧ w.cell? ⟨g, o + 1, none⟩ = some (.int .i64 file) ∧ w.cell? ⟨g, o + 2, none⟩ = some (.int .i64 a) ∧ w.cell? ⟨g, o + 3, none⟩ = some (.int .i64 b) ∧
    w.cell? ⟨g, o + 4, none⟩ = some (.string text) ∧ w.cell? ⟨g, o + 5, none⟩ = some kv ∧ b ≤ 9223372036854775807 ∧ text.size ≤ maxLen ∧ Ints w gk kv K ∧ (K ≠ [] → gk < w.heap.size)
/-- The slice v holds n calls. -/
def Ops (w : World) (v : Value) (n : Nat) : Prop :=
  ∃ ao c, v = .slice ao n c ∧ n ≤ c ∧ c ≤ maxLen ∧ (n = 0 ∨ ∃ g o, ao = some ⟨g, o, none⟩ ∧ g < w.heap.size ∧ ∀ j, j < n → OpAt w g (o + j * 6))

theorem op_struct : ∃ f0 f1 f2 f3 f4 f5 : Field, Try.prog.underlying 35 = some (.struct #[f0, f1, f2, f3, f4, f5]) ∧ (f0.type, f0.offset) = (3, 0) ∧ (f1.type, f1.offset) = (3, 1) ∧ (f2.type, f2.offset) = (3, 2) ∧ (f3.type, f3.offset) = (3, 3) ∧ (f4.type, f4.offset) = (9, 4) ∧ (f5.type, f5.offset) = (28, 5) :=
  ⟨_, _, _, _, _, _, Try.underlying35, rfl, rfl, rfl, rfl, rfl, rfl⟩

theorem wf_i64 {n : Int} (h : (Lit.int .i64 n).wf = true) : n ≤ 9223372036854775807 := by
  have : -9223372036854775808 ≤ n ∧ n ≤ 9223372036854775807 := by simpa [Lit.wf, IntKind.min, IntKind.max, IntKind.signed, IntKind.bits] using h
  exact this.2

section
variable {H : Type} {enc : TypeId × Value → H} {w : World} {base : Nat} {sp : Nat → Bool} {held : Bool}

theorem ints_of {fuel : Nat} {cs : List Value} {x : DataW H × List MemPlace} (h : DataW.trod enc Try.prog w base sp held fuel 28 cs = some x) : ∃ kv gk K, cs = [kv] ∧ Ints w gk kv K ∧ (K ≠ [] → gk < w.heap.size) := by
  rcases open_ints Try.underlying28 Try.underlying3 (by kernel_rfl) h with ⟨rfl, _⟩ | ⟨a, len, cap, zs, rfl, _, hl, hm, hz, _, hc, hwf⟩
  · exact ⟨_, 0, [], rfl, ⟨none, 0, rfl, Nat.le_refl _, by omega, by simp, .inl rfl⟩, fun e => absurd rfl e⟩
  · have hlz : len ≤ zs.length := by rw [hz]; split <;> omega
    have hkl : (zs.take len).length = len := by rw [List.length_take]; omega
    rcases Nat.eq_zero_or_pos len with h0 | h0
    · subst h0
      exact ⟨_, 0, [], rfl, ⟨some a, cap, rfl, hl, by unfold maxLen at hm; omega, by simp, .inl rfl⟩, fun e => absurd rfl e⟩
    · obtain ⟨b, off, spot⟩ := a
      have h00 := hc 0 (by omega)
      have hspot : spot = none := by simpa [Addr.add] using World.cell?_spot h00
      subst hspot
      refine ⟨_, b, zs.take len, rfl, ⟨some ⟨b, off, none⟩, cap, by rw [hkl], by omega, by unfold maxLen at hm; omega, fun y hy => wf_i64 (hwf y (List.mem_of_mem_take hy)), .inr ⟨off, rfl, fun j hj => ?_⟩⟩, fun _ => ?_⟩
      · have := hc j (by omega)
        rw [add_plain] at this
        rw [this]
        have hj' : j < zs.length := by omega
        simp [hj']
      · have := World.block_lt_of_cell? _ _ h00
        simpa [Addr.add] using this

theorem open_opsV {r : Reach} {b0 : Nat} {v : Value} {d : DataW H} {p : List MemPlace}
    (hv : Value.okWide Try.prog w r b0 22 v) (h : DataW.Trod enc Try.prog w base sp held 22 v d p) : ∃ n, Ops w v n := by
  obtain ⟨a0, len, cap, rfl⟩ := okWide_slice Try.underlying22 hv
  obtain ⟨fuel, hf⟩ := h
  have hce : Try.prog.cellsOf 35 = 6 := by kernel_rfl
  have hc1 : Try.prog.cellsOf 3 = 1 := by kernel_rfl
  have hc2 : Try.prog.cellsOf 9 = 1 := by kernel_rfl
  have hc3 : Try.prog.cellsOf 28 = 1 := by kernel_rfl
  obtain ⟨f0, f1, f2, f3, f4, f5, hst, e0, e1, e2, e3, e4, e5⟩ := op_struct
  injection e0 with e0 e0'
  injection e1 with e1 e1'
  injection e2 with e2 e2'
  injection e3 with e3 e3'
  injection e4 with e4 e4'
  injection e5 with e5 e5'
  rcases open_slice Try.underlying22 hf with ⟨hcs, _⟩ | ⟨a, len', cap', m, n, D, Pl, hcs, _, hl, hm, hmm, _, hx⟩
  · simp [Value.cells] at hcs
    obtain ⟨rfl, rfl, rfl⟩ := hcs
    exact ⟨0, none, 0, rfl, Nat.le_refl _, by unfold maxLen; omega, .inl rfl⟩
  · simp [Value.cells] at hcs
    obtain ⟨rfl, rfl, rfl⟩ := hcs
    have hlm : len ≤ m := by rw [hmm]; split <;> omega
    refine ⟨len, some a, cap, rfl, hl, hm, ?_⟩
    rcases Nat.eq_zero_or_pos len with h0 | h0
    · exact .inl h0
    · right
      have key : ∀ j, j < len → ∃ (kind file x y : Int) (text : ByteArray) (kv : Value) (gk : Nat) (K : List Int), w.cell? (a.add (j * 6)) = some (.int .i64 kind) ∧ w.cell? (a.add (j * 6 + 1)) = some (.int .i64 file) ∧ w.cell? (a.add (j * 6 + 2)) = some (.int .i64 x) ∧ w.cell? (a.add (j * 6 + 3)) = some (.int .i64 y) ∧ w.cell? (a.add (j * 6 + 4)) = some (.string text) ∧ w.cell? (a.add (j * 6 + 5)) = some kv ∧ y ≤ 9223372036854775807 ∧ text.size ≤ maxLen ∧ Ints w gk kv K ∧ (K ≠ [] → gk < w.heap.size) := by
        intro j hj
        obtain ⟨cs', h1, h2⟩ := hx j (by omega)
        rw [hce] at h1
        obtain ⟨_, hlen, hcell⟩ := World.cells?_some h1
        obtain ⟨xs, n', _, _, _, hxl, hfs⟩ := DataW.trod_struct hst h2
        match cs', hlen with
        | [v0, v1, v2, v3, v4, v5], _ =>
          match xs, hxl with
          | [y0, y1, y2, y3, y4, y5], _ =>
            have t0 := hfs 0 f0 rfl
            have t1 := hfs 1 f1 rfl
            have t2 := hfs 2 f2 rfl
            have t3 := hfs 3 f3 rfl
            have t4 := hfs 4 f4 rfl
            have t5 := hfs 5 f5 rfl
            rw [e0, e0', hc1] at t0
            rw [e1, e1', hc1] at t1
            rw [e2, e2', hc1] at t2
            rw [e3, e3', hc1] at t3
            rw [e4, e4', hc2] at t4
            rw [e5, e5', hc3] at t5
            obtain ⟨n0, q0, _, _⟩ := DataW.trod_int Try.underlying3 t0
            obtain ⟨n1, q1, _, _⟩ := DataW.trod_int Try.underlying3 t1
            obtain ⟨n2, q2, _, _⟩ := DataW.trod_int Try.underlying3 t2
            obtain ⟨n3, q3, _, w3⟩ := DataW.trod_int Try.underlying3 t3
            obtain ⟨s4, q4, _, hs4⟩ := DataW.trod_string Try.underlying9 t4
            obtain ⟨kv, gk, K, q5, hI, hgk⟩ := ints_of t5
            simp at q0 q1 q2 q3 q4 q5
            subst q0 q1 q2 q3 q4 q5
            have c := fun i hi => hcell i hi
            simp only [add_add] at c
            refine ⟨n0, n1, n2, n3, s4, _, gk, K, by simpa using c 0 (by omega), by simpa using c 1 (by omega), by simpa using c 2 (by omega), by simpa using c 3 (by omega), by simpa using c 4 (by omega), by simpa using c 5 (by omega), wf_i64 w3, hs4, hI, hgk⟩
      obtain ⟨b, off, spot⟩ := a
      obtain ⟨_, _, _, _, _, _, _, _, k0, _⟩ := key 0 h0
      have hspot : spot = none := by simpa [Addr.add] using World.cell?_spot k0
      subst hspot
      refine ⟨b, off, rfl, ?_, fun j hj => ?_⟩
      · have := World.block_lt_of_cell? _ _ k0
        simpa [Addr.add] using this
      · have := key j hj
        simp only [add_plain] at this
        simpa [OpAt, Nat.add_assoc] using this
end

end Go.Proofs.Ytncchapgoedncaa
