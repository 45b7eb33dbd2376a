/-
  No cell of these rows narrows 'for every input' (looked for: loops, veiled, ifaces, maps, wideKeys, modest, calm, conditions, laid).
  DERIVED. THE GIVEN ROWS OF THIS SEAT. 3 by the template 'for every input the law returns true; each argument reads behind the call as it read before'; 0 by the template 'total and deterministic' (their statements: YtepbmfjimppgcaaTotals.lean).
  GIVEN WITH THE SEED: the statements are not yours to turn. If you find one false, say at which input.
  Laid BY PROGRAM, IN A SANDBOX (cutbox-rows.mjs): the forced cells as the released guide's own fill.sh prints them over the translation f93fdb35f9ac18f5… (all of the seat's roots in one cut). By AI agents, Wed Nov 11 2026. No macro, syntax, notation, axiom, sorry.
-/
import Derived.Test.YtepbmfjimppgcaaChecked
import GoSem.Claim
import GoSem.ClaimJoined
import GoSem.ClaimMapViews
import Derived.JoinedTies
import Derived.KernelRfl
namespace Go.Proofs.Ytepbmfjimppgcaa
/- THE CELL 'sum', in the pinned program and in every row, IS THE sha256 OF THE DUMP (.gsa) THAT YtepbmfjimppgcaaProg.lean LOADS. Nothing in Lean hashes anything: it is a label: what it is worth is what the hold of that sum in a sandbox is worth. -/
noncomputable def Try.pinned : Pinned := { name := "ytepbmfjimppgcaa", sum := "f93fdb35f9ac18f53d971322d7a445b95b9ea633c940c8e6fc8646770ee50b55", checked := Try.checked }
namespace Rows
def none {H : Type} : Left H := { results := [], args := [] }

/-- 'rookerylaw14.MetaMoves': WHATEVER THE INPUT: true; the input reads as it did. -/
def metaMovesSpec : ChangeSpec := { name := "metaMoves", fn := fun _ => fun
  | [d] => { results := [.lit (.bool true)], args := [d] }
  | _ => none }
def metaMovesRow : OpenClaim := { program := "ytepbmfjimppgcaa", sum := "f93fdb35f9ac18f53d971322d7a445b95b9ea633c940c8e6fc8646770ee50b55", func := "rookery/rookerylaw14.MetaMoves", spec := "metaMoves", inPlace := ["slices.overlaps[int]"], unfollowed := true, recurses := true, apart := false }
def MetaMovesSaid : Prop := metaMovesRow.holds Try.pinned (OpenSpec.ofChange metaMovesSpec)

/-- ITS FALSE NEIGHBOUR: 'it returns false'. Refute it at one input. -/
def metaMovesWrong : ChangeSpec := { name := "metaMoves", fn := fun _ => fun
  | [d] => { results := [.lit (.bool false)], args := [d] }
  | _ => none }
def MetaMovesWrongFalsely : Prop := metaMovesRow.holds Try.pinned (OpenSpec.ofChange metaMovesWrong)

/-- 'rookerylaw14.MetaFull': WHATEVER THE INPUT: true; the input reads as it did. -/
def metaFullSpec : ChangeSpec := { name := "metaFull", fn := fun _ => fun
  | [d] => { results := [.lit (.bool true)], args := [d] }
  | _ => none }
def metaFullRow : OpenClaim := { program := "ytepbmfjimppgcaa", sum := "f93fdb35f9ac18f53d971322d7a445b95b9ea633c940c8e6fc8646770ee50b55", func := "rookery/rookerylaw14.MetaFull", spec := "metaFull", inPlace := ["slices.overlaps[int]"], unfollowed := true, recurses := true, apart := false }
def MetaFullSaid : Prop := metaFullRow.holds Try.pinned (OpenSpec.ofChange metaFullSpec)

/-- ITS FALSE NEIGHBOUR: 'it returns false'. Refute it at one input. -/
def metaFullWrong : ChangeSpec := { name := "metaFull", fn := fun _ => fun
  | [d] => { results := [.lit (.bool false)], args := [d] }
  | _ => none }
def MetaFullWrongFalsely : Prop := metaFullRow.holds Try.pinned (OpenSpec.ofChange metaFullWrong)

/-- 'rookerylaw14.MetaAnswers': WHATEVER THE INPUT: true; the input reads as it did. -/
def metaAnswersSpec : ChangeSpec := { name := "metaAnswers", fn := fun _ => fun
  | [d1, d2] => { results := [.lit (.bool true)], args := [d1, d2] }
  | _ => none }
def metaAnswersRow : OpenClaim := { program := "ytepbmfjimppgcaa", sum := "f93fdb35f9ac18f53d971322d7a445b95b9ea633c940c8e6fc8646770ee50b55", func := "rookery/rookerylaw14.MetaAnswers", spec := "metaAnswers", inPlace := ["slices.overlaps[int]"], unfollowed := true, recurses := true, apart := false }
def MetaAnswersSaid : Prop := metaAnswersRow.holds Try.pinned (OpenSpec.ofChange metaAnswersSpec)

/-- ITS FALSE NEIGHBOUR: 'it returns false'. Refute it at one input. -/
def metaAnswersWrong : ChangeSpec := { name := "metaAnswers", fn := fun _ => fun
  | [d1, d2] => { results := [.lit (.bool false)], args := [d1, d2] }
  | _ => none }
def MetaAnswersWrongFalsely : Prop := metaAnswersRow.holds Try.pinned (OpenSpec.ofChange metaAnswersWrong)

/- THE SECOND FORM. 'bulk': how many values and letters a reading holds, each counted each time it is reached (what is shared counts as often as it is met; a slice's spare places count too). A statement '..UptoSaid' is the law's where the arguments, and the package variables that the reading takes, are together of bulk at most 1048576: NARROWER than '..Said'. Prove '..Said' where nothing that the law and all that it calls make is longer than what came in: it says more and counts as full. Else prove '..UptoSaid'. A law counts once. -/
mutual
def uptoBulk {H : Type} : DataW H → Nat
  | .lit (.string bytes) => bytes.length + 1
  | .lit _ => 1
  | .nil => 1
  | .ptr d => uptoBulk d + 1
  | .slice elems spare => uptoBulkAll elems + uptoBulkAll spare + 1
  | .agg parts => uptoBulkAll parts + 1
  | .iface _ d => uptoBulk d + 1
  | .map entries => uptoBulkEntries entries + 1
  | .held _ => 1
def uptoBulkAll {H : Type} : List (DataW H) → Nat
  | [] => 0
  | d :: r => uptoBulk d + uptoBulkAll r
def uptoBulkEntries {H : Type} : List (Lit × DataW H) → Nat
  | [] => 0
  | x :: r => uptoBulkEntry x + uptoBulkEntries r
def uptoBulkEntry {H : Type} : Lit × DataW H → Nat
  | (.string bytes, d) => bytes.length + uptoBulk d + 1
  | (_, d) => uptoBulk d + 1
 end
def uptoSmall : (H : Type) → List (DataW H) → Bool := fun _ ds => decide (uptoBulkAll ds ≤ 1048576)
def OpenSpec.upto (s : _root_.Go.ChangeSpec) : _root_.Go.OpenSpec := { _root_.Go.OpenSpec.ofChange s with cond := some uptoSmall }

/-- 'rookerylaw14.MetaMoves', WHERE WHAT IT READS IS OF BULK AT MOST 1048576: true; the input reads as it did. -/
def metaMovesUptoRow : OpenClaim := { program := "ytepbmfjimppgcaa", sum := "f93fdb35f9ac18f53d971322d7a445b95b9ea633c940c8e6fc8646770ee50b55", func := "rookery/rookerylaw14.MetaMoves", spec := "metaMoves", inPlace := ["slices.overlaps[int]"], unfollowed := true, recurses := true, apart := false, narrowed := true }
def MetaMovesUptoSaid : Prop := metaMovesUptoRow.holds Try.pinned (OpenSpec.upto metaMovesSpec)

/-- 'rookerylaw14.MetaFull', WHERE WHAT IT READS IS OF BULK AT MOST 1048576: true; the input reads as it did. -/
def metaFullUptoRow : OpenClaim := { program := "ytepbmfjimppgcaa", sum := "f93fdb35f9ac18f53d971322d7a445b95b9ea633c940c8e6fc8646770ee50b55", func := "rookery/rookerylaw14.MetaFull", spec := "metaFull", inPlace := ["slices.overlaps[int]"], unfollowed := true, recurses := true, apart := false, narrowed := true }
def MetaFullUptoSaid : Prop := metaFullUptoRow.holds Try.pinned (OpenSpec.upto metaFullSpec)

/-- 'rookerylaw14.MetaAnswers', WHERE WHAT IT READS IS OF BULK AT MOST 1048576: true; the input reads as it did. -/
def metaAnswersUptoRow : OpenClaim := { program := "ytepbmfjimppgcaa", sum := "f93fdb35f9ac18f53d971322d7a445b95b9ea633c940c8e6fc8646770ee50b55", func := "rookery/rookerylaw14.MetaAnswers", spec := "metaAnswers", inPlace := ["slices.overlaps[int]"], unfollowed := true, recurses := true, apart := false, narrowed := true }
def MetaAnswersUptoSaid : Prop := metaAnswersUptoRow.holds Try.pinned (OpenSpec.upto metaAnswersSpec)

end Rows
end Go.Proofs.Ytepbmfjimppgcaa
