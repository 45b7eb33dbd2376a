/-
  No cell of these rows narrows 'for every input' (looked for: loops, veiled, ifaces, maps, wideKeys, modest, calm, conditions, laid).
  DERIVED. THE GIVEN ROWS OF THIS SEAT. 6 by the template 'for every input the law returns true; each argument reads behind the call as it read before'; 0 by the template 'total and deterministic' (their statements: YtkioeahlajjmiaaTotals.lean).
  GIVEN WITH THE SEED: the statements are not yours to turn. If you find one false, say at which input.
  Laid BY PROGRAM, IN A SANDBOX (cutbox-rows.mjs): the forced cells as the released guide's own fill.sh prints them over the translation 7d56a6fc39e19209… (all of the seat's roots in one cut). By AI agents, Wed Nov 11 2026. No macro, syntax, notation, axiom, sorry.
-/
import Derived.Test.YtkioeahlajjmiaaChecked
import GoSem.Claim
import GoSem.ClaimJoined
import GoSem.ClaimMapViews
import Derived.JoinedTies
import Derived.KernelRfl
namespace Go.Proofs.Ytkioeahlajjmiaa
/- THE CELL 'sum', in the pinned program and in every row, IS THE sha256 OF THE DUMP (.gsa) THAT YtkioeahlajjmiaaProg.lean LOADS. Nothing in Lean hashes anything: it is a label: what it is worth is what the hold of that sum in a sandbox is worth. -/
noncomputable def Try.pinned : Pinned := { name := "ytkioeahlajjmiaa", sum := "7d56a6fc39e19209346b1732d99c2eb9d2372989ddd8872a2ba961e8e582879f", checked := Try.checked }
namespace Rows
def none {H : Type} : Left H := { results := [], args := [] }

/-- 'rookerylaw09.ModelApart': WHATEVER THE INPUT: true; the input reads as it did. -/
def modelApartSpec : ChangeSpec := { name := "modelApart", fn := fun _ => fun
  | [d1, d2] => { results := [.lit (.bool true)], args := [d1, d2] }
  | _ => none }
def modelApartRow : OpenClaim := { program := "ytkioeahlajjmiaa", sum := "7d56a6fc39e19209346b1732d99c2eb9d2372989ddd8872a2ba961e8e582879f", func := "rookery/rookerylaw09.ModelApart", spec := "modelApart", plainKeys := false, apart := false }
def ModelApartSaid : Prop := modelApartRow.holds Try.pinned (OpenSpec.ofChange modelApartSpec)

/-- ITS FALSE NEIGHBOUR: 'it returns false'. Refute it at one input. -/
def modelApartWrong : ChangeSpec := { name := "modelApart", fn := fun _ => fun
  | [d1, d2] => { results := [.lit (.bool false)], args := [d1, d2] }
  | _ => none }
def ModelApartWrongFalsely : Prop := modelApartRow.holds Try.pinned (OpenSpec.ofChange modelApartWrong)

/-- 'rookerylaw09.ModelStays': WHATEVER THE INPUT: true; the input reads as it did. -/
def modelStaysSpec : ChangeSpec := { name := "modelStays", fn := fun _ => fun
  | [d] => { results := [.lit (.bool true)], args := [d] }
  | _ => none }
def modelStaysRow : OpenClaim := { program := "ytkioeahlajjmiaa", sum := "7d56a6fc39e19209346b1732d99c2eb9d2372989ddd8872a2ba961e8e582879f", func := "rookery/rookerylaw09.ModelStays", spec := "modelStays", plainKeys := false, apart := false }
def ModelStaysSaid : Prop := modelStaysRow.holds Try.pinned (OpenSpec.ofChange modelStaysSpec)

/-- ITS FALSE NEIGHBOUR: 'it returns false'. Refute it at one input. -/
def modelStaysWrong : ChangeSpec := { name := "modelStays", fn := fun _ => fun
  | [d] => { results := [.lit (.bool false)], args := [d] }
  | _ => none }
def ModelStaysWrongFalsely : Prop := modelStaysRow.holds Try.pinned (OpenSpec.ofChange modelStaysWrong)

/-- 'rookerylaw09.ModelUsers': WHATEVER THE INPUT: true; the input reads as it did. -/
def modelUsersSpec : ChangeSpec := { name := "modelUsers", fn := fun _ => fun
  | [d1, d2] => { results := [.lit (.bool true)], args := [d1, d2] }
  | _ => none }
def modelUsersRow : OpenClaim := { program := "ytkioeahlajjmiaa", sum := "7d56a6fc39e19209346b1732d99c2eb9d2372989ddd8872a2ba961e8e582879f", func := "rookery/rookerylaw09.ModelUsers", spec := "modelUsers", unfollowed := true, recurses := true, plainKeys := false, apart := false }
def ModelUsersSaid : Prop := modelUsersRow.holds Try.pinned (OpenSpec.ofChange modelUsersSpec)

/-- ITS FALSE NEIGHBOUR: 'it returns false'. Refute it at one input. -/
def modelUsersWrong : ChangeSpec := { name := "modelUsers", fn := fun _ => fun
  | [d1, d2] => { results := [.lit (.bool false)], args := [d1, d2] }
  | _ => none }
def ModelUsersWrongFalsely : Prop := modelUsersRow.holds Try.pinned (OpenSpec.ofChange modelUsersWrong)

/-- 'rookerylaw09.ModelEnds': WHATEVER THE INPUT: true; the input reads as it did. -/
def modelEndsSpec : ChangeSpec := { name := "modelEnds", fn := fun _ => fun
  | [d] => { results := [.lit (.bool true)], args := [d] }
  | _ => none }
def modelEndsRow : OpenClaim := { program := "ytkioeahlajjmiaa", sum := "7d56a6fc39e19209346b1732d99c2eb9d2372989ddd8872a2ba961e8e582879f", func := "rookery/rookerylaw09.ModelEnds", spec := "modelEnds", unfollowed := true, recurses := true, plainKeys := false, apart := false }
def ModelEndsSaid : Prop := modelEndsRow.holds Try.pinned (OpenSpec.ofChange modelEndsSpec)

/-- ITS FALSE NEIGHBOUR: 'it returns false'. Refute it at one input. -/
def modelEndsWrong : ChangeSpec := { name := "modelEnds", fn := fun _ => fun
  | [d] => { results := [.lit (.bool false)], args := [d] }
  | _ => none }
def ModelEndsWrongFalsely : Prop := modelEndsRow.holds Try.pinned (OpenSpec.ofChange modelEndsWrong)

/-- 'rookerylaw09.ModelMoves': WHATEVER THE INPUT: true; the input reads as it did. -/
def modelMovesSpec : ChangeSpec := { name := "modelMoves", fn := fun _ => fun
  | [d] => { results := [.lit (.bool true)], args := [d] }
  | _ => none }
def modelMovesRow : OpenClaim := { program := "ytkioeahlajjmiaa", sum := "7d56a6fc39e19209346b1732d99c2eb9d2372989ddd8872a2ba961e8e582879f", func := "rookery/rookerylaw09.ModelMoves", spec := "modelMoves", unfollowed := true, recurses := true, plainKeys := false, apart := false }
def ModelMovesSaid : Prop := modelMovesRow.holds Try.pinned (OpenSpec.ofChange modelMovesSpec)

/-- ITS FALSE NEIGHBOUR: 'it returns false'. Refute it at one input. -/
def modelMovesWrong : ChangeSpec := { name := "modelMoves", fn := fun _ => fun
  | [d] => { results := [.lit (.bool false)], args := [d] }
  | _ => none }
def ModelMovesWrongFalsely : Prop := modelMovesRow.holds Try.pinned (OpenSpec.ofChange modelMovesWrong)

/-- 'rookerylaw09.ModelPlays': WHATEVER THE INPUT: true; the input reads as it did. -/
def modelPlaysSpec : ChangeSpec := { name := "modelPlays", fn := fun _ => fun
  | [d] => { results := [.lit (.bool true)], args := [d] }
  | _ => none }
def modelPlaysRow : OpenClaim := { program := "ytkioeahlajjmiaa", sum := "7d56a6fc39e19209346b1732d99c2eb9d2372989ddd8872a2ba961e8e582879f", func := "rookery/rookerylaw09.ModelPlays", spec := "modelPlays", inPlace := ["maps.clone"], unfollowed := true, recurses := true, plainKeys := false, apart := false }
def ModelPlaysSaid : Prop := modelPlaysRow.holds Try.pinned (OpenSpec.ofChange modelPlaysSpec)

/-- ITS FALSE NEIGHBOUR: 'it returns false'. Refute it at one input. -/
def modelPlaysWrong : ChangeSpec := { name := "modelPlays", fn := fun _ => fun
  | [d] => { results := [.lit (.bool false)], args := [d] }
  | _ => none }
def ModelPlaysWrongFalsely : Prop := modelPlaysRow.holds Try.pinned (OpenSpec.ofChange modelPlaysWrong)

/- THE SECOND FORM. 'bulk': how many values and letters a reading holds, each counted each time it is reached (what is shared counts as often as it is met; a slice's spare places count too). A statement '..UptoSaid' is the law's where the arguments, and the package variables that the reading takes, are together of bulk at most 1048576: NARROWER than '..Said'. Prove '..Said' where nothing that the law and all that it calls make is longer than what came in: it says more and counts as full. Else prove '..UptoSaid'. A law counts once. -/
mutual
def uptoBulk {H : Type} : DataW H → Nat
  | .lit (.string bytes) => bytes.length + 1
  | .lit _ => 1
  | .nil => 1
  | .ptr d => uptoBulk d + 1
  | .slice elems spare => uptoBulkAll elems + uptoBulkAll spare + 1
  | .agg parts => uptoBulkAll parts + 1
  | .iface _ d => uptoBulk d + 1
  | .map entries => uptoBulkEntries entries + 1
  | .held _ => 1
def uptoBulkAll {H : Type} : List (DataW H) → Nat
  | [] => 0
  | d :: r => uptoBulk d + uptoBulkAll r
def uptoBulkEntries {H : Type} : List (Lit × DataW H) → Nat
  | [] => 0
  | x :: r => uptoBulkEntry x + uptoBulkEntries r
def uptoBulkEntry {H : Type} : Lit × DataW H → Nat
  | (.string bytes, d) => bytes.length + uptoBulk d + 1
  | (_, d) => uptoBulk d + 1
 end
def uptoSmall : (H : Type) → List (DataW H) → Bool := fun _ ds => decide (uptoBulkAll ds ≤ 1048576)
def OpenSpec.upto (s : _root_.Go.ChangeSpec) : _root_.Go.OpenSpec := { _root_.Go.OpenSpec.ofChange s with cond := some uptoSmall }

/-- 'rookerylaw09.ModelApart', WHERE WHAT IT READS IS OF BULK AT MOST 1048576: true; the input reads as it did. -/
def modelApartUptoRow : OpenClaim := { program := "ytkioeahlajjmiaa", sum := "7d56a6fc39e19209346b1732d99c2eb9d2372989ddd8872a2ba961e8e582879f", func := "rookery/rookerylaw09.ModelApart", spec := "modelApart", plainKeys := false, apart := false, narrowed := true }
def ModelApartUptoSaid : Prop := modelApartUptoRow.holds Try.pinned (OpenSpec.upto modelApartSpec)

/-- 'rookerylaw09.ModelStays', WHERE WHAT IT READS IS OF BULK AT MOST 1048576: true; the input reads as it did. -/
def modelStaysUptoRow : OpenClaim := { program := "ytkioeahlajjmiaa", sum := "7d56a6fc39e19209346b1732d99c2eb9d2372989ddd8872a2ba961e8e582879f", func := "rookery/rookerylaw09.ModelStays", spec := "modelStays", plainKeys := false, apart := false, narrowed := true }
def ModelStaysUptoSaid : Prop := modelStaysUptoRow.holds Try.pinned (OpenSpec.upto modelStaysSpec)

/-- 'rookerylaw09.ModelUsers', WHERE WHAT IT READS IS OF BULK AT MOST 1048576: true; the input reads as it did. -/
def modelUsersUptoRow : OpenClaim := { program := "ytkioeahlajjmiaa", sum := "7d56a6fc39e19209346b1732d99c2eb9d2372989ddd8872a2ba961e8e582879f", func := "rookery/rookerylaw09.ModelUsers", spec := "modelUsers", unfollowed := true, recurses := true, plainKeys := false, apart := false, narrowed := true }
def ModelUsersUptoSaid : Prop := modelUsersUptoRow.holds Try.pinned (OpenSpec.upto modelUsersSpec)

/-- 'rookerylaw09.ModelEnds', WHERE WHAT IT READS IS OF BULK AT MOST 1048576: true; the input reads as it did. -/
def modelEndsUptoRow : OpenClaim := { program := "ytkioeahlajjmiaa", sum := "7d56a6fc39e19209346b1732d99c2eb9d2372989ddd8872a2ba961e8e582879f", func := "rookery/rookerylaw09.ModelEnds", spec := "modelEnds", unfollowed := true, recurses := true, plainKeys := false, apart := false, narrowed := true }
def ModelEndsUptoSaid : Prop := modelEndsUptoRow.holds Try.pinned (OpenSpec.upto modelEndsSpec)

/-- 'rookerylaw09.ModelMoves', WHERE WHAT IT READS IS OF BULK AT MOST 1048576: true; the input reads as it did. -/
def modelMovesUptoRow : OpenClaim := { program := "ytkioeahlajjmiaa", sum := "7d56a6fc39e19209346b1732d99c2eb9d2372989ddd8872a2ba961e8e582879f", func := "rookery/rookerylaw09.ModelMoves", spec := "modelMoves", unfollowed := true, recurses := true, plainKeys := false, apart := false, narrowed := true }
def ModelMovesUptoSaid : Prop := modelMovesUptoRow.holds Try.pinned (OpenSpec.upto modelMovesSpec)

/-- 'rookerylaw09.ModelPlays', WHERE WHAT IT READS IS OF BULK AT MOST 1048576: true; the input reads as it did. -/
def modelPlaysUptoRow : OpenClaim := { program := "ytkioeahlajjmiaa", sum := "7d56a6fc39e19209346b1732d99c2eb9d2372989ddd8872a2ba961e8e582879f", func := "rookery/rookerylaw09.ModelPlays", spec := "modelPlays", inPlace := ["maps.clone"], unfollowed := true, recurses := true, plainKeys := false, apart := false, narrowed := true }
def ModelPlaysUptoSaid : Prop := modelPlaysUptoRow.holds Try.pinned (OpenSpec.upto modelPlaysSpec)

end Rows
end Go.Proofs.Ytkioeahlajjmiaa
