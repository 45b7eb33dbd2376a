/-
  The map of kinds, made and looked up.
-/
import Derived.Test.YtagcnhkodmjkgaaWlFits
namespace Go.Proofs.Ytagcnhkodmjkgaa
open Go.RowKit

/-- A function as a value. -/
def fnV (f : Nat) : Value := .func (.func f) #[] #[]
/-- The three functions of a kind. -/
def kindV (a b c : Nat) : Value := .agg #[fnV a, fnV b, fnV c]
/-- The map's four entries. -/
def kindList : List MapEntry := [⟨.int .i64 1, kindV 49 50 51, 0⟩, ⟨.int .i64 2, kindV 52 53 54, 1⟩, ⟨.int .i64 3, kindV 55 56 57, 2⟩, ⟨.int .i64 4, kindV 58 59 60, 3⟩]
def kindMap : Obj := .map kindList.toArray 4

theorem ins_run (w : World) (es : Array MapEntry) (clock : Nat) (k : Int) (v : Value) (hf : Instr.findNow (.int .i64) (.int .i64 k) es.toList 0 = some none) :
    (Instr.mapUpdate 70 (.map (some w.heap.size)) (.int .i64 k) v).run Try.prog (w.alloc (.map es clock)) = .ok () (w.alloc (.map (es.push ⟨.int .i64 k, v, clock⟩) (clock + 1))) := by
  have hb : (w.alloc (.map es clock)).heap[w.heap.size]? = some (.map es clock) := heap_alloc_new w _
  have hck := MapKept.run_checkKey (P := Try.prog) (w := w.alloc (.map es clock)) (kt := 3) (d := .int .i64) (k := .int .i64 k) Try.underlying3 (by simp [MapKept.IsKey]) false 9999
  have hs := MapKept.run_setObj_map (P := Try.prog) (w := w.alloc (.map es clock)) (.map (es.push ⟨.int .i64 k, v, clock⟩) (clock + 1)) hb
  simp [Instr.mapUpdate, run_underlying Try.underlying70, MapKept.run_getObj_map hb, hck, Instr.findKey, run_underlying Try.underlying3, hf, hs, Result.andThen]
  have hp : ∀ o' : Obj, (w.heap.push (.map es clock)).setIfInBounds w.heap.size o' = w.heap.push o' := by
    intro o'
    apply Array.ext'
    simp
  show ({ w with heap := (w.heap.push (.map es clock)).setIfInBounds w.heap.size _ } : World) = _
  rw [hp]
  rfl

set_option maxRecDepth 20000 in
theorem kinds_c (w : World) : Calls Try.prog 25 #[] w fun e w' => e = .returned (.map (some w.heap.size)) ∧ w' = w.alloc kindMap := by
  have hmm := @run_makeMap Try.prog
  have h1 := ins_run w #[] 0 1 (.agg #[.func (.func 49) #[] #[], .func (.func 50) #[] #[], .func (.func 51) #[] #[]]) rfl
  have h2 := ins_run w #[⟨.int .i64 1, .agg #[.func (.func 49) #[] #[], .func (.func 50) #[] #[], .func (.func 51) #[] #[]], 0⟩] 1 2 (.agg #[.func (.func 52) #[] #[], .func (.func 53) #[] #[], .func (.func 54) #[] #[]]) rfl
  have h3 := ins_run w #[⟨.int .i64 1, .agg #[.func (.func 49) #[] #[], .func (.func 50) #[] #[], .func (.func 51) #[] #[]], 0⟩, ⟨.int .i64 2, .agg #[.func (.func 52) #[] #[], .func (.func 53) #[] #[], .func (.func 54) #[] #[]], 1⟩] 2 3 (.agg #[.func (.func 55) #[] #[], .func (.func 56) #[] #[], .func (.func 57) #[] #[]]) rfl
  have h4 := ins_run w #[⟨.int .i64 1, .agg #[.func (.func 49) #[] #[], .func (.func 50) #[] #[], .func (.func 51) #[] #[]], 0⟩, ⟨.int .i64 2, .agg #[.func (.func 52) #[] #[], .func (.func 53) #[] #[], .func (.func 54) #[] #[]], 1⟩, ⟨.int .i64 3, .agg #[.func (.func 55) #[] #[], .func (.func 56) #[] #[], .func (.func 57) #[] #[]], 2⟩] 3 4 (.agg #[.func (.func 58) #[] #[], .func (.func 59) #[] #[], .func (.func 60) #[] #[]]) rfl
  simp only [List.push_toArray, List.nil_append, List.cons_append, Nat.reduceAdd] at h1 h2 h3 h4
  go_enter Try.func25, Try.ntmps25
  go_wp2
  go_ret
  exact ⟨rfl, rfl⟩

end Go.Proofs.Ytagcnhkodmjkgaa
