/-
  The reader's number and text: the calls.
-/
import Derived.Test.YtnfjfhjhofaodaaCmRd
namespace Go.Proofs.Ytnfjfhjhofaodaa
open Go.RowKit

/-- What a cell has, as a field. -/
def cellV : Cm.V → Value
  | .inl v => .int .i64 v
  | .inr s => .string s

theorem run_from (s : ByteArray) (k : Nat) (h : k ≤ s.size) (W : World) : (Instr.slice 9 (.string s) (some (.int .i64 (k : Int))) none none).run Try.prog W = .ok (.string (s.extract k s.size)) W := by
  rw [run_slice_string_l (ht := Try.underlying9) (kl := .i64) (l := (k : Int)) (h0 := by omega) (h1 := by omega), Int.toNat_natCast]
theorem run_to (s : ByteArray) (k : Nat) (h : k ≤ s.size) (W : World) : (Instr.slice 9 (.string s) none (some (.int .i64 (k : Int))) none).run Try.prog W = .ok (.string (s.extract 0 k)) W := by
  rw [run_slice_string_h (ht := Try.underlying9) (kh := .i64) (h := (k : Int)) (h0 := by omega) (h2 := by omega), Int.toNat_natCast]

theorem rd_stored0 {w : World} {R : Nat} {s t : ByteArray} (h : Rd w R s) (ht : t.size ≤ 140737488351232) {b o : Nat} {x : Value} (hp : w.cell? ⟨b, o, none⟩ = some x) (hR : b ≠ R) (v : Value) :
    KeptC (fun c p => c = R ∨ (c = b ∧ p = o)) w ((w.setCell ⟨b, o, none⟩ v).setCell ⟨R, 0, none⟩ (.string t)) ∧ Rd ((w.setCell ⟨b, o, none⟩ v).setCell ⟨R, 0, none⟩ (.string t)) R t ∧ ((w.setCell ⟨b, o, none⟩ v).setCell ⟨R, 0, none⟩ (.string t)).cell? ⟨b, o, none⟩ = some v := by
  refine ⟨(((KeptC.refl _ w).setCell (fun _ => .inr ⟨rfl, rfl⟩) v).setCell (fun _ => .inl rfl) _), ?_, ?_⟩
  · have h1 : Rd (w.setCell ⟨b, o, none⟩ v) R s := h.kept ((KeptC.refl (fun c p => c = b ∧ p = o) w).setCell (fun _ => ⟨rfl, rfl⟩) v) (fun _ x => hR x.1.symm)
    exact h1.set ht
  · rw [World.cell?_setCell_other _ _ _ _ (by intro e; injection e with e1 e2; exact hR e1.symm)]
    exact World.cell?_setCell_same _ _ _ hp

theorem rd_stored {w : World} {R : Nat} {s t : ByteArray} (h : Rd w R s) (ht : t.size ≤ 140737488351232) {b o : Nat} {x : Value} (hp : w.cell? ⟨b, o, none⟩ = some x) (hR : b ≠ R) (v : Value) :
    KeptC (fun c p => c = R ∨ (c = b ∧ p = o)) w ((w.setCell ⟨b, o, none⟩ v).setCell ⟨R, 0, none⟩ (.string t)).drew ∧ Rd ((w.setCell ⟨b, o, none⟩ v).setCell ⟨R, 0, none⟩ (.string t)).drew R t ∧ ((w.setCell ⟨b, o, none⟩ v).setCell ⟨R, 0, none⟩ (.string t)).drew.cell? ⟨b, o, none⟩ = some v :=
  let ⟨a, b, c⟩ := rd_stored0 h ht hp hR v
  ⟨a.drew, b, c⟩

theorem below_undrew {w w' : World} (h : Below w.drew.heap.size w.drew w') : Below w.heap.size w w' := ⟨h.os, h.tape, h.output, h.size, h.block⟩

set_option maxHeartbeats 1000000 in
set_option maxRecDepth 100000 in
theorem rd_number {w : World} {R : Nat} {s : ByteArray} (h : Rd w R s) (b o : Nat) {x : Value} (hp : w.cell? ⟨b, o, none⟩ = some x) (hz : w.frozen? ⟨b, o, none⟩ = false) (hR : b ≠ R) (m : Nat) :
    Calls Try.prog 94 #[.pointer (some ⟨R, 0, none⟩), .pointer (some ⟨b, o, none⟩), .int .i64 (m : Int)] w
      (ROut w R (fun c p => c = b ∧ p = o) (Cm.dec [.n m] s.data.toList) fun w' vs => ∃ v, vs = [(.n m, .n v)] ∧ w'.cell? ⟨b, o, none⟩ = some (.int .i64 v)) := by
  have hbl : b < w.heap.size := World.block_lt_of_cell? _ _ hp
  obtain ⟨t1, t2, t3, t4⟩ := Cm.rdVar_top s.data.toList
  rw [Cm.toL_len] at t2
  have hs := h.2
  obtain ⟨n, hn⟩ : ∃ n, n = (M.rdVar s.data.toList).1 := ⟨_, rfl⟩
  obtain ⟨k, hk⟩ : ∃ k, k = (M.rdVar s.data.toList).2.1 := ⟨_, rfl⟩
  obtain ⟨q, hq⟩ : ∃ q, q = (M.rdVar s.data.toList).2.2 := ⟨_, rfl⟩
  have HV := hidden (bits_Var s w (by unfold maxLen; omega))
  rw [← hn, ← hk, ← hq] at HV
  have hd : Cm.dec1 (.n m) s.data.toList = if q = 0 ∧ n ≤ m then some (.n (n : Int), s.data.toList.drop k) else none := by
    rw [Cm.dec1, ← hn, ← hk, ← hq]
  have hD : Cm.dec [.n m] s.data.toList = if q = 0 ∧ n ≤ m then some ([(.n m, .n (n : Int))], s.data.toList.drop k) else none := by
    simp only [Cm.dec]
    rw [hd]
    by_cases hc : q = 0 ∧ n ≤ m
    · rw [if_pos hc, if_pos hc]
    · rw [if_neg hc, if_neg hc]
  rw [hD]
  rw [← hn] at t1
  rw [← hk] at t2
  have hrest := h.cell
  have hrz := h.frozen
  have HC := hidden (run_from s k t2)
  have HRS : Hid ((s.extract k s.size).size ≤ 140737488351232) := by unfold Hid; rw [ByteArray.size_extract]; omega
  clear hd hD t3 t4 hn hk hs
  by_cases hq0 : q = 0
  · by_cases hm : n ≤ m
    · rw [if_pos ⟨hq0, hm⟩]
      have hq1 : ((q : Int) == 0) = true := by simp [hq0]
      have hm1 : ¬ m < n := by omega
      have hcut := HC.out
      subst hq0
      clear t1 t2 hq
      go_enter Try.func94, Try.ntmps94
      go_wp2_with (go_at_call 96; refine (HV.out).mono ?_; rintro e w1 ⟨rfl, h1⟩; subst h1)
      go_region
      all_goals go_wp2
      all_goals go_end0
      all_goals
        obtain ⟨e1, e2, e3⟩ := rd_stored h HRS.out hp hR (.int .i64 (n : Int))
        exact ⟨e1, rfl, ⟨_, e2, Cm.toL_cut s k⟩, _, rfl, e3⟩
    · rw [if_neg (fun x => hm x.2)]
      have hq1 : ((q : Int) == 0) = true := by simp [hq0]
      have hm1 : m < n := by omega
      subst hq0
      clear t1 t2 hq
      go_enter Try.func94, Try.ntmps94
      go_wp2_with (go_at_call 96; refine (HV.out).mono ?_; rintro e w1 ⟨rfl, h1⟩; subst h1)
      exact ⟨rfl, KeptC.refl _ _, _, _, rfl⟩
  · rw [if_neg (fun x => hq0 x.1)]
    have hq1 : ((q : Int) == 0) = false := by simp; omega
    have hq2 : ¬ (q : Int) = 0 := by omega
    clear t1 t2 hq
    go_enter Try.func94, Try.ntmps94
    go_wp2_with (go_at_call 96; refine (HV.out).mono ?_; rintro e w1 ⟨rfl, h1⟩; subst h1)
    exact ⟨rfl, KeptC.refl _ _, _, _, rfl⟩

end Go.Proofs.Ytnfjfhjhofaodaa
