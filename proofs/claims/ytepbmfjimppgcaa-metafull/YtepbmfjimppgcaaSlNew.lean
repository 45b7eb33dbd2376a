/-
  What New answers: a map whose slots are dealt out evenly.
-/
import Derived.Test.YtepbmfjimppgcaaSlMem
namespace Go.Proofs.Ytepbmfjimppgcaa
open Go.RowKit

/-- The cells of an empty map. -/
def newCells10 : Array Value := Array.replicate 32 (.int .i64 0)

theorem run_build10 (w : World) : (Instr.build 77 #[]).run Try.prog w = .ok (.agg newCells10) w := by kernel_rfl
theorem wpList_build10 {w : World} {ops : Array Oper} {rest : List Oper} {o : Oper} {a : Act} {Q : Exit → Act → World → Prop} (hgd : o.guard = none)
    (ho : o.op = .build 77 #[]) (h : wpList Try.prog ops Q rest (a.put o.dst (.agg newCells10)) w) : wpList Try.prog ops Q (o :: rest) a w := by
  refine wpList_plain hgd fun _ hK => ?_
  unfold Oper.wp execOp
  simp only [ho, List.map_toArray, List.map_nil, Sem.run_bind, Sem.run_pure, Result.andThen_ok, run_build10]
  exact hK _ _ h
theorem newCells10_at : ∀ i, i < 32 → newCells10[i]? = some (.int .i64 0) := by
  intro i hi
  unfold newCells10
  rw [Array.getElem?_replicate, if_pos hi]

/-- A map that is being filled: the first n slots are s's. -/
structure Sf (w X : World) (B : Nat) (s : Sl.St) (n : Nat) : Prop where
  lt : B < X.heap.size
  o : ∀ i, i < n → X.cell? ⟨B, i * 2, none⟩ = some (.int .i64 (s.O i : Int))
  e : ∀ i, i < n → X.cell? ⟨B, i * 2 + 1, none⟩ = some (.int .i64 (s.E i : Int))
  z : ∀ j, n * 2 ≤ j → j < 32 → X.cell? ⟨B, j, none⟩ = some (.int .i64 0)
  f : ∀ j, j < 32 → X.frozen? ⟨B, j, none⟩ = false
  old : Below w.heap.size w X
  new : w.heap.size ≤ B

theorem Sf.begin {w W : World} (s : Sl.St) (h0 : Below w.heap.size w W) : Sf w (W.alloc (.cells newCells10 77)) W.heap.size s 0 :=
  ⟨by simp, fun i h => by omega, fun i h => by omega, fun j _ hj => by rw [World.cell?_alloc_mark]; exact newCells10_at j hj, fun j _ => by rw [World.frozen?_alloc_mark]; simp, h0.trans ((sl_below_alloc W _).mono h0.size), h0.size⟩

theorem Sf.below {w X Y : World} {B n : Nat} {s : Sl.St} (h : Sf w X B s n) (hb : Below X.heap.size X Y) : Sf w Y B s n :=
  ⟨Nat.lt_of_lt_of_le h.lt hb.size, fun i hi => (hb.cell (p := ⟨B, i * 2, none⟩) h.lt).trans (h.o i hi), fun i hi => (hb.cell (p := ⟨B, i * 2 + 1, none⟩) h.lt).trans (h.e i hi), fun j h1 h2 => (hb.cell (p := ⟨B, j, none⟩) h.lt).trans (h.z j h1 h2), fun j hj => (hb.frozen (p := ⟨B, j, none⟩) h.lt).trans (h.f j hj), h.old.trans (hb.mono h.old.size), h.new⟩

theorem Sf.put {w X : World} {B n : Nat} {s s' : Sl.St} (h : Sf w X B s n) (hn : n < 16) (hs : ∀ i, i < n → s'.O i = s.O i ∧ s'.E i = s.E i) : Sf w ((X.setCell ⟨B, n * 2, none⟩ (.int .i64 (s'.O n : Int))).setCell ⟨B, n * 2 + 1, none⟩ (.int .i64 (s'.E n : Int))) B s' (n + 1) := by
  have e1 := h.z (n * 2) (by omega) (by omega)
  have e2 := h.z (n * 2 + 1) (by omega) (by omega)
  have e3 : (X.setCell ⟨B, n * 2, none⟩ (.int .i64 (s'.O n : Int))).cell? ⟨B, n * 2 + 1, none⟩ = some (.int .i64 0) := by
    rw [sl_cell_set6 _ e1, if_neg (by omega)]
    exact e2
  have hnew := h.new
  refine ⟨by rw [sl_size_set6, sl_size_set6]; exact h.lt, fun i hi => ?_, fun i hi => ?_, fun j h1 h2 => ?_, fun j hj => by rw [World.frozen?_setCell, World.frozen?_setCell]; exact h.f j hj, (h.old.setCell (by simpa using hnew) _).setCell (by simpa using hnew) _, h.new⟩
  · rw [sl_cell_set6 _ e3, if_neg (by omega), sl_cell_set6 _ e1]
    by_cases e : i = n
    · subst e
      rw [if_pos rfl]
    · rw [if_neg (by omega), (hs i (by omega)).1]
      exact h.o i (by omega)
  · rw [sl_cell_set6 _ e3]
    by_cases e : i = n
    · subst e
      rw [if_pos rfl]
    · rw [if_neg (by omega), sl_cell_set6 _ e1, if_neg (by omega), (hs i (by omega)).2]
      exact h.e i (by omega)
  · rw [sl_cell_set6 _ e3, if_neg (by omega), sl_cell_set6 _ e1, if_neg (by omega)]
    exact h.z j (by omega) h2

theorem Sf.whole {w X : World} {B : Nat} {s : Sl.St} (h : Sf w X B s 16) (hs : Sl.Ok s) : Sm X B s := ⟨h.lt, h.o, h.e, h.f, hs⟩

theorem NewS_no (w : World) (k : Int) (h : ¬ (1 ≤ k ∧ k ≤ 8)) : Calls Try.prog 16 #[.int .i64 k] w fun e w' => e = .returned (.tuple #[.pointer none, .int .i64 1]) ∧ w' = w := by
  have HG : Hid (∀ X, Calls Try.prog 31 #[.int .i64 k] X fun e w' => e = .returned (.bool (decide (1 ≤ k) && decide (k ≤ 8))) ∧ w' = X) := fun X => isGroup_c k X
  have hq : (decide (1 ≤ k) && decide (k ≤ 8)) = false := by simp; omega
  clear h
  go_enter Try.func16, Try.ntmps16
  go_wp2_with fail
  refine (HG.out _).mono ?_
  rintro e w' ⟨rfl, rfl⟩
  go_wp2
  go_ret2
  exact ⟨rfl, rfl⟩

theorem mul_b (n k : Nat) (hn : n < 16) (hk : k ≤ 8) : n * k ≤ 120 := by
  have := Nat.mul_le_mul (show n ≤ 15 by omega) hk
  omega

set_option maxHeartbeats 800000 in
theorem NewS_yes (w : World) (k : Nat) (h : 1 ≤ k ∧ k ≤ 8) : Calls Try.prog 16 #[.int .i64 (k : Int)] w fun e w' => e = .returned (.tuple #[.pointer (some ⟨w.heap.size, 0, none⟩), .int .i64 0]) ∧ Sm w' w.heap.size (Sl.new k) ∧ Below w.heap.size w w' := by
  have HG : Hid (∀ X, Calls Try.prog 31 #[.int .i64 (k : Int)] X fun e w' => e = .returned (.bool (decide ((1 : Int) ≤ (k : Int)) && decide ((k : Int) ≤ 8))) ∧ w' = X) := fun X => isGroup_c k X
  have hq1 : decide ((1 : Int) ≤ (k : Int)) = true := by simp; omega
  have hq2 : decide ((k : Int) ≤ 8) = true := by simp; omega
  have HK : Hid (1 ≤ k ∧ k ≤ 8) := h
  have HB : Hid _ := Sf.begin (Sl.new k) (Below.refl w.heap.size w)
  obtain ⟨B, hB⟩ : ∃ B, B = w.heap.size := ⟨_, rfl⟩
  obtain ⟨W, hW⟩ : ∃ W, W = w.alloc (.cells newCells10 77) := ⟨_, rfl⟩
  have HB : Hid (Sf w W B (Sl.new k) 0) := by rw [hB, hW]; exact HB.out
  clear h
  go_enter Try.func16, Try.ntmps16
  go_wp2_with fail
  refine (HG.out _).mono ?_
  rintro e w' ⟨rfl, rfl⟩
  go_wp2_with (refine wpList_build10 rfl rfl ?_)
  rw [← hW, ← hB]
  have HX : Hid (B = w'.heap.size) := hB
  clear hW hB hq1 hq2 HG
  go_loopw [11] (fun x wr => ∃ n : Nat, x = .int .i64 (n : Int) ∧ n ≤ 16 ∧ Hid (Sf w' wr B (Sl.new k) n)) (fun x _ => 16 - (intOf x).toNat)
  case atStart => exact ⟨0, rfl, by omega, HB⟩
  case round =>
    clear HB
    obtain ⟨n, rfl, hn, HF⟩ := hrel
    by_cases hlt : n < 16
    · have hk1 := HK.out.1
      have hk8 := HK.out.2
      have hmb := mul_b n k hlt hk8
      have c0 := HF.out.z (n * 2) (by omega) (by omega)
      have c1 := HF.out.z (n * 2 + 1) (by omega) (by omega)
      have f0 := HF.out.f (n * 2) (by omega)
      have f1 := HF.out.f (n * 2 + 1) (by omega)
      have HN : Hid _ := HF.out.put hlt (s' := Sl.new k) (fun _ _ => ⟨rfl, rfl⟩)
      obtain ⟨m, hm⟩ : ∃ m : Nat, m = n * k := ⟨_, rfl⟩
      have hmI : (n : Int) * (k : Int) = (m : Int) := by rw [hm]; rfl
      have HE : Hid ((((Sl.new k).O n : Nat) : Int) = 1 + (m : Int) / 16) := by
        show (((1 + n * k / 16 : Nat)) : Int) = _
        rw [← hm]
        omega
      have hmb : m ≤ 120 := by rw [hm]; exact hmb
      clear hm hk1 hk8
      go_wp2
      go_roundw
      case rel => exact ⟨n + 1, by go_num, by omega, by have := HN.out; rw [HE.out] at this; exact this⟩
      case measure => simp [intOf]; omega
    · obtain rfl : n = 16 := by omega
      go_wp2
      go_ret2
      rw [← HX.out]
      exact ⟨rfl, HF.out.whole (Sl.new_ok HK.out), by rw [HX.out]; exact HF.out.old⟩

end Go.Proofs.Ytepbmfjimppgcaa
