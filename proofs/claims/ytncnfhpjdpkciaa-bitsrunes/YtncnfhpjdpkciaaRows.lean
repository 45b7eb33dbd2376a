/-
  No cell of these rows narrows 'for every input' (looked for: loops, veiled, ifaces, maps, wideKeys, modest, calm, conditions, laid).
  DERIVED. THE GIVEN ROWS OF THIS SEAT. 6 by the template 'for every input the law returns true; each argument reads behind the call as it read before'; 0 by the template 'total and deterministic' (their statements: YtncnfhpjdpkciaaTotals.lean).
  GIVEN WITH THE SEED: the statements are not yours to turn. If you find one false, say at which input.
  Laid BY PROGRAM, IN A SANDBOX (cutbox-rows.mjs): the forced cells as the released guide's own fill.sh prints them over the translation 37f062eb5a1ddafe… (all of the seat's roots in one cut). By AI agents, Wed Nov 11 2026. No macro, syntax, notation, axiom, sorry.
-/
import Derived.Test.YtncnfhpjdpkciaaChecked
import GoSem.Claim
import GoSem.ClaimJoined
import GoSem.ClaimMapViews
import Derived.JoinedTies
import Derived.KernelRfl
namespace Go.Proofs.Ytncnfhpjdpkciaa
/- THE CELL 'sum', in the pinned program and in every row, IS THE sha256 OF THE DUMP (.gsa) THAT YtncnfhpjdpkciaaProg.lean LOADS. Nothing in Lean hashes anything: it is a label: what it is worth is what the hold of that sum in a sandbox is worth. -/
noncomputable def Try.pinned : Pinned := { name := "ytncnfhpjdpkciaa", sum := "37f062eb5a1ddafe561ba3e66d7a1655bb2e4ff6f4e67b0fbe5cbdccd381c3a8", checked := Try.checked }
namespace Rows
def none {H : Type} : Left H := { results := [], args := [] }

/-- 'rookerylaw01.BitsVars': WHATEVER THE INPUT: true; the input reads as it did. -/
def bitsVarsSpec : ChangeSpec := { name := "bitsVars", fn := fun _ => fun
  | [d1, d2] => { results := [.lit (.bool true)], args := [d1, d2] }
  | _ => none }
def bitsVarsRow : OpenClaim := { program := "ytncnfhpjdpkciaa", sum := "37f062eb5a1ddafe561ba3e66d7a1655bb2e4ff6f4e67b0fbe5cbdccd381c3a8", func := "rookery/rookerylaw01.BitsVars", spec := "bitsVars", apart := false }
def BitsVarsSaid : Prop := bitsVarsRow.holds Try.pinned (OpenSpec.ofChange bitsVarsSpec)

/-- ITS FALSE NEIGHBOUR: 'it returns false'. Refute it at one input. -/
def bitsVarsWrong : ChangeSpec := { name := "bitsVars", fn := fun _ => fun
  | [d1, d2] => { results := [.lit (.bool false)], args := [d1, d2] }
  | _ => none }
def BitsVarsWrongFalsely : Prop := bitsVarsRow.holds Try.pinned (OpenSpec.ofChange bitsVarsWrong)

/-- 'rookerylaw01.BitsReads': WHATEVER THE INPUT: true; the input reads as it did. -/
def bitsReadsSpec : ChangeSpec := { name := "bitsReads", fn := fun _ => fun
  | [d1, d2] => { results := [.lit (.bool true)], args := [d1, d2] }
  | _ => none }
def bitsReadsRow : OpenClaim := { program := "ytncnfhpjdpkciaa", sum := "37f062eb5a1ddafe561ba3e66d7a1655bb2e4ff6f4e67b0fbe5cbdccd381c3a8", func := "rookery/rookerylaw01.BitsReads", spec := "bitsReads", apart := false }
def BitsReadsSaid : Prop := bitsReadsRow.holds Try.pinned (OpenSpec.ofChange bitsReadsSpec)

/-- ITS FALSE NEIGHBOUR: 'it returns false'. Refute it at one input. -/
def bitsReadsWrong : ChangeSpec := { name := "bitsReads", fn := fun _ => fun
  | [d1, d2] => { results := [.lit (.bool false)], args := [d1, d2] }
  | _ => none }
def BitsReadsWrongFalsely : Prop := bitsReadsRow.holds Try.pinned (OpenSpec.ofChange bitsReadsWrong)

/-- 'rookerylaw01.BitsFixes': WHATEVER THE INPUT: true; the input reads as it did. -/
def bitsFixesSpec : ChangeSpec := { name := "bitsFixes", fn := fun _ => fun
  | [d1, d2, d3] => { results := [.lit (.bool true)], args := [d1, d2, d3] }
  | _ => none }
def bitsFixesRow : OpenClaim := { program := "ytncnfhpjdpkciaa", sum := "37f062eb5a1ddafe561ba3e66d7a1655bb2e4ff6f4e67b0fbe5cbdccd381c3a8", func := "rookery/rookerylaw01.BitsFixes", spec := "bitsFixes", apart := false }
def BitsFixesSaid : Prop := bitsFixesRow.holds Try.pinned (OpenSpec.ofChange bitsFixesSpec)

/-- ITS FALSE NEIGHBOUR: 'it returns false'. Refute it at one input. -/
def bitsFixesWrong : ChangeSpec := { name := "bitsFixes", fn := fun _ => fun
  | [d1, d2, d3] => { results := [.lit (.bool false)], args := [d1, d2, d3] }
  | _ => none }
def BitsFixesWrongFalsely : Prop := bitsFixesRow.holds Try.pinned (OpenSpec.ofChange bitsFixesWrong)

/-- 'rookerylaw01.BitsTexts': WHATEVER THE INPUT: true; the input reads as it did. -/
def bitsTextsSpec : ChangeSpec := { name := "bitsTexts", fn := fun _ => fun
  | [d1, d2] => { results := [.lit (.bool true)], args := [d1, d2] }
  | _ => none }
def bitsTextsRow : OpenClaim := { program := "ytncnfhpjdpkciaa", sum := "37f062eb5a1ddafe561ba3e66d7a1655bb2e4ff6f4e67b0fbe5cbdccd381c3a8", func := "rookery/rookerylaw01.BitsTexts", spec := "bitsTexts", apart := false }
def BitsTextsSaid : Prop := bitsTextsRow.holds Try.pinned (OpenSpec.ofChange bitsTextsSpec)

/-- ITS FALSE NEIGHBOUR: 'it returns false'. Refute it at one input. -/
def bitsTextsWrong : ChangeSpec := { name := "bitsTexts", fn := fun _ => fun
  | [d1, d2] => { results := [.lit (.bool false)], args := [d1, d2] }
  | _ => none }
def BitsTextsWrongFalsely : Prop := bitsTextsRow.holds Try.pinned (OpenSpec.ofChange bitsTextsWrong)

/-- 'rookerylaw01.BitsTakes': WHATEVER THE INPUT: true; the input reads as it did. -/
def bitsTakesSpec : ChangeSpec := { name := "bitsTakes", fn := fun _ => fun
  | [d1, d2] => { results := [.lit (.bool true)], args := [d1, d2] }
  | _ => none }
def bitsTakesRow : OpenClaim := { program := "ytncnfhpjdpkciaa", sum := "37f062eb5a1ddafe561ba3e66d7a1655bb2e4ff6f4e67b0fbe5cbdccd381c3a8", func := "rookery/rookerylaw01.BitsTakes", spec := "bitsTakes", apart := false }
def BitsTakesSaid : Prop := bitsTakesRow.holds Try.pinned (OpenSpec.ofChange bitsTakesSpec)

/-- ITS FALSE NEIGHBOUR: 'it returns false'. Refute it at one input. -/
def bitsTakesWrong : ChangeSpec := { name := "bitsTakes", fn := fun _ => fun
  | [d1, d2] => { results := [.lit (.bool false)], args := [d1, d2] }
  | _ => none }
def BitsTakesWrongFalsely : Prop := bitsTakesRow.holds Try.pinned (OpenSpec.ofChange bitsTakesWrong)

/-- 'rookerylaw01.BitsRunes': WHATEVER THE INPUT: true; the input reads as it did. -/
def bitsRunesSpec : ChangeSpec := { name := "bitsRunes", fn := fun _ => fun
  | [d] => { results := [.lit (.bool true)], args := [d] }
  | _ => none }
def bitsRunesRow : OpenClaim := { program := "ytncnfhpjdpkciaa", sum := "37f062eb5a1ddafe561ba3e66d7a1655bb2e4ff6f4e67b0fbe5cbdccd381c3a8", func := "rookery/rookerylaw01.BitsRunes", spec := "bitsRunes", apart := false }
def BitsRunesSaid : Prop := bitsRunesRow.holds Try.pinned (OpenSpec.ofChange bitsRunesSpec)

/-- ITS FALSE NEIGHBOUR: 'it returns false'. Refute it at one input. -/
def bitsRunesWrong : ChangeSpec := { name := "bitsRunes", fn := fun _ => fun
  | [d] => { results := [.lit (.bool false)], args := [d] }
  | _ => none }
def BitsRunesWrongFalsely : Prop := bitsRunesRow.holds Try.pinned (OpenSpec.ofChange bitsRunesWrong)

/- THE SECOND FORM. 'bulk': how many values and letters a reading holds, each counted each time it is reached (what is shared counts as often as it is met; a slice's spare places count too). A statement '..UptoSaid' is the law's where the arguments, and the package variables that the reading takes, are together of bulk at most 1048576: NARROWER than '..Said'. Prove '..Said' where nothing that the law and all that it calls make is longer than what came in: it says more and counts as full. Else prove '..UptoSaid'. A law counts once. -/
mutual
def uptoBulk {H : Type} : DataW H → Nat
  | .lit (.string bytes) => bytes.length + 1
  | .lit _ => 1
  | .nil => 1
  | .ptr d => uptoBulk d + 1
  | .slice elems spare => uptoBulkAll elems + uptoBulkAll spare + 1
  | .agg parts => uptoBulkAll parts + 1
  | .iface _ d => uptoBulk d + 1
  | .map entries => uptoBulkEntries entries + 1
  | .held _ => 1
def uptoBulkAll {H : Type} : List (DataW H) → Nat
  | [] => 0
  | d :: r => uptoBulk d + uptoBulkAll r
def uptoBulkEntries {H : Type} : List (Lit × DataW H) → Nat
  | [] => 0
  | x :: r => uptoBulkEntry x + uptoBulkEntries r
def uptoBulkEntry {H : Type} : Lit × DataW H → Nat
  | (.string bytes, d) => bytes.length + uptoBulk d + 1
  | (_, d) => uptoBulk d + 1
 end
def uptoSmall : (H : Type) → List (DataW H) → Bool := fun _ ds => decide (uptoBulkAll ds ≤ 1048576)
def OpenSpec.upto (s : _root_.Go.ChangeSpec) : _root_.Go.OpenSpec := { _root_.Go.OpenSpec.ofChange s with cond := some uptoSmall }

/-- 'rookerylaw01.BitsVars', WHERE WHAT IT READS IS OF BULK AT MOST 1048576: true; the input reads as it did. -/
def bitsVarsUptoRow : OpenClaim := { program := "ytncnfhpjdpkciaa", sum := "37f062eb5a1ddafe561ba3e66d7a1655bb2e4ff6f4e67b0fbe5cbdccd381c3a8", func := "rookery/rookerylaw01.BitsVars", spec := "bitsVars", apart := false, narrowed := true }
def BitsVarsUptoSaid : Prop := bitsVarsUptoRow.holds Try.pinned (OpenSpec.upto bitsVarsSpec)

/-- 'rookerylaw01.BitsReads', WHERE WHAT IT READS IS OF BULK AT MOST 1048576: true; the input reads as it did. -/
def bitsReadsUptoRow : OpenClaim := { program := "ytncnfhpjdpkciaa", sum := "37f062eb5a1ddafe561ba3e66d7a1655bb2e4ff6f4e67b0fbe5cbdccd381c3a8", func := "rookery/rookerylaw01.BitsReads", spec := "bitsReads", apart := false, narrowed := true }
def BitsReadsUptoSaid : Prop := bitsReadsUptoRow.holds Try.pinned (OpenSpec.upto bitsReadsSpec)

/-- 'rookerylaw01.BitsFixes', WHERE WHAT IT READS IS OF BULK AT MOST 1048576: true; the input reads as it did. -/
def bitsFixesUptoRow : OpenClaim := { program := "ytncnfhpjdpkciaa", sum := "37f062eb5a1ddafe561ba3e66d7a1655bb2e4ff6f4e67b0fbe5cbdccd381c3a8", func := "rookery/rookerylaw01.BitsFixes", spec := "bitsFixes", apart := false, narrowed := true }
def BitsFixesUptoSaid : Prop := bitsFixesUptoRow.holds Try.pinned (OpenSpec.upto bitsFixesSpec)

/-- 'rookerylaw01.BitsTexts', WHERE WHAT IT READS IS OF BULK AT MOST 1048576: true; the input reads as it did. -/
def bitsTextsUptoRow : OpenClaim := { program := "ytncnfhpjdpkciaa", sum := "37f062eb5a1ddafe561ba3e66d7a1655bb2e4ff6f4e67b0fbe5cbdccd381c3a8", func := "rookery/rookerylaw01.BitsTexts", spec := "bitsTexts", apart := false, narrowed := true }
def BitsTextsUptoSaid : Prop := bitsTextsUptoRow.holds Try.pinned (OpenSpec.upto bitsTextsSpec)

/-- 'rookerylaw01.BitsTakes', WHERE WHAT IT READS IS OF BULK AT MOST 1048576: true; the input reads as it did. -/
def bitsTakesUptoRow : OpenClaim := { program := "ytncnfhpjdpkciaa", sum := "37f062eb5a1ddafe561ba3e66d7a1655bb2e4ff6f4e67b0fbe5cbdccd381c3a8", func := "rookery/rookerylaw01.BitsTakes", spec := "bitsTakes", apart := false, narrowed := true }
def BitsTakesUptoSaid : Prop := bitsTakesUptoRow.holds Try.pinned (OpenSpec.upto bitsTakesSpec)

/-- 'rookerylaw01.BitsRunes', WHERE WHAT IT READS IS OF BULK AT MOST 1048576: true; the input reads as it did. -/
def bitsRunesUptoRow : OpenClaim := { program := "ytncnfhpjdpkciaa", sum := "37f062eb5a1ddafe561ba3e66d7a1655bb2e4ff6f4e67b0fbe5cbdccd381c3a8", func := "rookery/rookerylaw01.BitsRunes", spec := "bitsRunes", apart := false, narrowed := true }
def BitsRunesUptoSaid : Prop := bitsRunesUptoRow.holds Try.pinned (OpenSpec.upto bitsRunesSpec)

end Rows
end Go.Proofs.Ytncnfhpjdpkciaa
