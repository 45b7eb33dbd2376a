/-
  Structs that are not the same.
-/
import Derived.Test.YtgkcchbignakcaaCmEq
namespace Go.Proofs.Ytgkcchbignakcaa
open Go.RowKit

theorem ne_of_eq {P : Program} {t : TypeId} {a b : Array Value} {w : World} {v : Bool} (h : (binOp .eql t (.agg a) (.agg b)).run P w = .ok (.bool v) w) : (binOp .neq t (.agg a) (.agg b)).run P w = .ok (.bool (!v)) w := by
  unfold binOp at h ⊢
  simp only [Sem.run_bind, Sem.run_pure] at h ⊢
  cases hq : (Op.equal t (.agg a) (.agg b)).run P w with
  | ok x w' =>
    rw [hq] at h
    simp only [Result.andThen_ok, Result.ok.injEq, Value.bool.injEq] at h
    obtain ⟨rfl, rfl⟩ := h
    simp only [Result.andThen_ok]
  | _ => rw [hq] at h; simp [Result.andThen] at h

theorem other_cmd (c d : CmdD) (w : World) : (binOp .neq 28 (.agg c.cells.toArray) (.agg d.cells.toArray)).run Try.prog w = .ok (.bool (!cmdEq c d)) w := ne_of_eq (same_cmd c d w)

end Go.Proofs.Ytgkcchbignakcaa
