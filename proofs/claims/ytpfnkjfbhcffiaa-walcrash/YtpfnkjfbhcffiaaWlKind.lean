/-
  The map of kinds, made and looked up.
-/
import Derived.Test.YtpfnkjfbhcffiaaWlFits
namespace Go.Proofs.Ytpfnkjfbhcffiaa
open Go.RowKit

/-- A function as a value. -/
def fnV (f : Nat) : Value := .func (.func f) #[] #[]
/-- The three functions of a kind. -/
def kindV (a b c : Nat) : Value := .agg #[fnV a, fnV b, fnV c]
/-- The map's four entries. -/
def kindList : List MapEntry := [⟨.int .i64 1, kindV 47 48 49, 0⟩, ⟨.int .i64 2, kindV 50 51 52, 1⟩, ⟨.int .i64 3, kindV 53 54 55, 2⟩, ⟨.int .i64 4, kindV 56 57 58, 3⟩]
def kindMap : Obj := .map kindList.toArray 4

theorem ins_run (w : World) (es : Array MapEntry) (clock : Nat) (k : Int) (v : Value) (hf : Instr.findNow (.int .i64) (.int .i64 k) es.toList 0 = some none) :
    (Instr.mapUpdate 68 (.map (some w.heap.size)) (.int .i64 k) v).run Try.prog (w.alloc (.map es clock)) = .ok () (w.alloc (.map (es.push ⟨.int .i64 k, v, clock⟩) (clock + 1))) := by
  have hb : (w.alloc (.map es clock)).heap[w.heap.size]? = some (.map es clock) := heap_alloc_new w _
  have hck := MapKept.run_checkKey (P := Try.prog) (w := w.alloc (.map es clock)) (kt := 3) (d := .int .i64) (k := .int .i64 k) Try.underlying3 (by simp [MapKept.IsKey]) false 9999
  have hs := MapKept.run_setObj_map (P := Try.prog) (w := w.alloc (.map es clock)) (.map (es.push ⟨.int .i64 k, v, clock⟩) (clock + 1)) hb
  simp [Instr.mapUpdate, run_underlying Try.underlying68, MapKept.run_getObj_map hb, hck, Instr.findKey, run_underlying Try.underlying3, hf, hs, Result.andThen]
  have hp : ∀ o' : Obj, (w.heap.push (.map es clock)).setIfInBounds w.heap.size o' = w.heap.push o' := by
    intro o'
    apply Array.ext'
    simp
  show ({ w with heap := (w.heap.push (.map es clock)).setIfInBounds w.heap.size _ } : World) = _
  rw [hp]
  rfl

set_option maxRecDepth 20000 in
theorem kinds_c (w : World) : Calls Try.prog 23 #[] w fun e w' => e = .returned (.map (some w.heap.size)) ∧ w' = w.alloc kindMap := by
  have hmm := @run_makeMap Try.prog
  have h1 := ins_run w #[] 0 1 (.agg #[.func (.func 47) #[] #[], .func (.func 48) #[] #[], .func (.func 49) #[] #[]]) rfl
  have h2 := ins_run w #[⟨.int .i64 1, .agg #[.func (.func 47) #[] #[], .func (.func 48) #[] #[], .func (.func 49) #[] #[]], 0⟩] 1 2 (.agg #[.func (.func 50) #[] #[], .func (.func 51) #[] #[], .func (.func 52) #[] #[]]) rfl
  have h3 := ins_run w #[⟨.int .i64 1, .agg #[.func (.func 47) #[] #[], .func (.func 48) #[] #[], .func (.func 49) #[] #[]], 0⟩, ⟨.int .i64 2, .agg #[.func (.func 50) #[] #[], .func (.func 51) #[] #[], .func (.func 52) #[] #[]], 1⟩] 2 3 (.agg #[.func (.func 53) #[] #[], .func (.func 54) #[] #[], .func (.func 55) #[] #[]]) rfl
  have h4 := ins_run w #[⟨.int .i64 1, .agg #[.func (.func 47) #[] #[], .func (.func 48) #[] #[], .func (.func 49) #[] #[]], 0⟩, ⟨.int .i64 2, .agg #[.func (.func 50) #[] #[], .func (.func 51) #[] #[], .func (.func 52) #[] #[]], 1⟩, ⟨.int .i64 3, .agg #[.func (.func 53) #[] #[], .func (.func 54) #[] #[], .func (.func 55) #[] #[]], 2⟩] 3 4 (.agg #[.func (.func 56) #[] #[], .func (.func 57) #[] #[], .func (.func 58) #[] #[]]) rfl
  simp only [List.push_toArray, List.nil_append, List.cons_append, Nat.reduceAdd] at h1 h2 h3 h4
  go_enter Try.func23, Try.ntmps23
  go_wp2
  go_ret
  exact ⟨rfl, rfl⟩

end Go.Proofs.Ytpfnkjfbhcffiaa
