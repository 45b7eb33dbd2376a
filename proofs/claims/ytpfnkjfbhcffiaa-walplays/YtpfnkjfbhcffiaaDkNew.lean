/-
  What New answers: a disk whose files are all empty.
-/
import Derived.Test.YtpfnkjfbhcffiaaDkSmall
namespace Go.Proofs.Ytpfnkjfbhcffiaa
open Go.RowKit

/-- The cells of a new disk. -/
def newCells (room : Int) : Array Value := #[.int .i64 room, .int .i64 0] ++ ((List.range 256).flatMap fun _ => [Value.slice none 0 0, .int .i64 0]).toArray

theorem New_no (room : Int) (w : World) (h : room < 1 ∨ 16777216 < room) : Calls Try.prog 7 #[.int .i64 room] w fun e w' => e = .returned (.tuple #[.pointer none, .int .i64 1]) ∧ w' = w := by
  go_enter Try.func7, Try.ntmps7
  rcases h with h | h
  · have h1 : decide (room < 1) = true := by simpa using h
    go_wp2
    go_ret2
    exact ⟨rfl, rfl⟩
  · have h1 : decide (room < 1) = false := by simp; omega
    have h2 : decide (16777216 < room) = true := by simpa using h
    go_wp2
    go_ret2
    exact ⟨rfl, rfl⟩

theorem run_build_new (room : Int) (w : World) : (Instr.build 65 #[(0, .int .i64 room)]).run Try.prog w = .ok (.agg (newCells room)) w := by kernel_rfl
theorem run_build_zero (w : World) : (Instr.build 65 #[]).run Try.prog w = .ok (.agg (newCells 0)) w := by kernel_rfl

theorem wpList_build_new {w : World} {ops : Array Oper} {rest : List Oper} {o : Oper} {a : Act} {Q : Exit → Act → World → Prop} (room : Int) (hgd : o.guard = none) (x : Operand)
    (ho : o.op = .build 65 #[(0, x)]) (hx : a.eval x = .int .i64 room) (h : wpList Try.prog ops Q rest (a.put o.dst (.agg (newCells room))) w) : wpList Try.prog ops Q (o :: rest) a w := by
  refine wpList_plain hgd fun _ hK => ?_
  unfold Oper.wp execOp
  simp only [ho, List.map_toArray, List.map_cons, List.map_nil, hx, Sem.run_bind, Sem.run_pure, Result.andThen_ok, run_build_new]
  exact hK _ _ h

theorem wpList_build_zero {w : World} {ops : Array Oper} {rest : List Oper} {o : Oper} {a : Act} {Q : Exit → Act → World → Prop} (hgd : o.guard = none)
    (ho : o.op = .build 65 #[]) (h : wpList Try.prog ops Q rest (a.put o.dst (.agg (newCells 0))) w) : wpList Try.prog ops Q (o :: rest) a w := by
  refine wpList_plain hgd fun _ hK => ?_
  unfold Oper.wp execOp
  simp only [ho, List.map_toArray, List.map_nil, Sem.run_bind, Sem.run_pure, Result.andThen_ok, run_build_zero]
  exact hK _ _ h

theorem New_yes (room : Nat) (w : World) (h : 1 ≤ room ∧ room ≤ 16777216) : Calls Try.prog 7 #[.int .i64 (room : Int)] w fun e w' => e = .returned (.tuple #[.pointer (some ⟨w.heap.size, 0, none⟩), .int .i64 0]) ∧ w' = w.alloc (.cells (newCells room) 65) := by
  have h1 : decide ((room : Int) < 1) = false := by simp; omega
  have h2 : decide (16777216 < (room : Int)) = false := by simp; omega
  clear h
  go_enter Try.func7, Try.ntmps7
  go_wp2_with (refine wpList_build_new (room : Int) rfl (.tmp 10) rfl rfl ?_)
  go_ret2
  exact ⟨rfl, rfl⟩

theorem newCells_size (room : Int) : (newCells room).size = 514 := by kernel_rfl
theorem newRow_len : ∀ n, ((List.range n).flatMap fun _ => [Value.slice none 0 0, Value.int .i64 0]).length = n * 2
  | 0 => rfl
  | n + 1 => by rw [List.range_succ, List.flatMap_append, List.length_append, newRow_len n]; simp; omega
theorem newCells_at (room : Int) : ∀ i, i < 256 → (newCells room)[2 + i * 2]? = some (.slice none 0 0) ∧ (newCells room)[2 + i * 2 + 1]? = some (.int .i64 0) := by
  intro i hi
  have h : ∀ n k, k < n → (((List.range n).flatMap fun _ => [Value.slice none 0 0, .int .i64 0]))[k * 2]? = some (.slice none 0 0) ∧ (((List.range n).flatMap fun _ => [Value.slice none 0 0, .int .i64 0]))[k * 2 + 1]? = some (.int .i64 0) := by
    intro n k hk
    induction n with
    | zero => omega
    | succ n ih =>
      have hl := newRow_len n
      rw [List.range_succ, List.flatMap_append]
      by_cases e : k < n
      · rw [List.getElem?_append_left (by omega), List.getElem?_append_left (by omega)]
        exact ih e
      · rw [List.getElem?_append_right (by omega), List.getElem?_append_right (by omega), hl]
        have e2 : k = n := by omega
        subst e2
        simp
  obtain ⟨h1, h2⟩ := h 256 i hi
  unfold newCells
  constructor
  · rw [Array.getElem?_append_right (by simp)]
    simpa using h1
  · rw [Array.getElem?_append_right (by simp; omega)]
    have : 2 + i * 2 + 1 - 2 = i * 2 + 1 := by omega
    simpa [this] using h2

theorem totTo_nil : ∀ n, totTo (fun _ => []) n = 0
  | 0 => rfl
  | n + 1 => by rw [totTo, totTo_nil n]; rfl

theorem dk_new (w : World) (room : Nat) (h : 1 ≤ room ∧ room ≤ 16777216) : Dk (w.alloc (.cells (newCells room) 65)) w.heap.size room (fun _ => []) (fun _ => 0) (fun _ => False) := by
  have hc : ∀ o, (w.alloc (.cells (newCells room) 65)).cell? ⟨w.heap.size, o, none⟩ = (newCells room)[o]? := fun o => World.cell?_alloc_mark _ _ _ _ _
  have ht : tot (fun _ => []) = 0 := totTo_nil 256
  refine ⟨fun _ => .slice none 0 0, ⟨by simp, by rw [hc]; kernel_rfl, by rw [hc, ht]; kernel_rfl, fun o _ => by rw [World.frozen?_alloc_mark]; simp, fun i hi => by rw [hc]; exact (newCells_at room i hi).1, fun i hi => by rw [hc]; exact (newCells_at room i hi).2, fun i _ => OwnB.nil _ _ _, ?_, ?_, fun _ _ => Nat.zero_le _, by rw [ht]; omega, h⟩⟩
  · intro i j _ _ _ k hk _
    simp [Value.ownBlock] at hk
  · intro i _ k hk
    simp [Value.ownBlock] at hk

end Go.Proofs.Ytpfnkjfbhcffiaa
