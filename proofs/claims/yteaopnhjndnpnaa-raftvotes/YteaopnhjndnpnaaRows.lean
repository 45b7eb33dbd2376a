/-
  No cell of these rows narrows 'for every input' (looked for: loops, veiled, ifaces, maps, wideKeys, modest, calm, conditions, laid).
  DERIVED. THE GIVEN ROWS OF THIS SEAT. 4 by the template 'for every input the law returns true; each argument reads behind the call as it read before'; 0 by the template 'total and deterministic' (their statements: YteaopnhjndnpnaaTotals.lean).
  GIVEN WITH THE SEED: the statements are not yours to turn. If you find one false, say at which input.
  Laid BY PROGRAM, IN A SANDBOX (cutbox-rows.mjs): the forced cells as the released guide's own fill.sh prints them over the translation 38ffff69965bfec8… (all of the seat's roots in one cut). By AI agents, Wed Nov 11 2026. No macro, syntax, notation, axiom, sorry.
-/
import Derived.Test.YteaopnhjndnpnaaChecked
import GoSem.Claim
import GoSem.ClaimJoined
import GoSem.ClaimMapViews
import Derived.JoinedTies
import Derived.KernelRfl
namespace Go.Proofs.Yteaopnhjndnpnaa
/- THE CELL 'sum', in the pinned program and in every row, IS THE sha256 OF THE DUMP (.gsa) THAT YteaopnhjndnpnaaProg.lean LOADS. Nothing in Lean hashes anything: it is a label: what it is worth is what the hold of that sum in a sandbox is worth. -/
noncomputable def Try.pinned : Pinned := { name := "yteaopnhjndnpnaa", sum := "38ffff69965bfec85a3c191ed0e10547c513ff31eb93d60f13dfa48a131783d2", checked := Try.checked }
namespace Rows
def none {H : Type} : Left H := { results := [], args := [] }

/-- 'rookerylaw07.RaftSafe': WHATEVER THE INPUT: true; the input reads as it did. -/
def raftSafeSpec : ChangeSpec := { name := "raftSafe", fn := fun _ => fun
  | [d1, d2] => { results := [.lit (.bool true)], args := [d1, d2] }
  | _ => none }
def raftSafeRow : OpenClaim := { program := "yteaopnhjndnpnaa", sum := "38ffff69965bfec85a3c191ed0e10547c513ff31eb93d60f13dfa48a131783d2", func := "rookery/rookerylaw07.RaftSafe", spec := "raftSafe", inPlace := ["slices.overlaps[rookery/api.Record]"], unfollowed := true, recurses := true, apart := false }
def RaftSafeSaid : Prop := raftSafeRow.holds Try.pinned (OpenSpec.ofChange raftSafeSpec)

/-- ITS FALSE NEIGHBOUR: 'it returns false'. Refute it at one input. -/
def raftSafeWrong : ChangeSpec := { name := "raftSafe", fn := fun _ => fun
  | [d1, d2] => { results := [.lit (.bool false)], args := [d1, d2] }
  | _ => none }
def RaftSafeWrongFalsely : Prop := raftSafeRow.holds Try.pinned (OpenSpec.ofChange raftSafeWrong)

/-- 'rookerylaw07.RaftCatches': WHATEVER THE INPUT: true; the input reads as it did. -/
def raftCatchesSpec : ChangeSpec := { name := "raftCatches", fn := fun _ => fun
  | [d1, d2] => { results := [.lit (.bool true)], args := [d1, d2] }
  | _ => none }
def raftCatchesRow : OpenClaim := { program := "yteaopnhjndnpnaa", sum := "38ffff69965bfec85a3c191ed0e10547c513ff31eb93d60f13dfa48a131783d2", func := "rookery/rookerylaw07.RaftCatches", spec := "raftCatches", inPlace := ["slices.overlaps[rookery/api.Record]"], unfollowed := true, recurses := true, apart := false }
def RaftCatchesSaid : Prop := raftCatchesRow.holds Try.pinned (OpenSpec.ofChange raftCatchesSpec)

/-- ITS FALSE NEIGHBOUR: 'it returns false'. Refute it at one input. -/
def raftCatchesWrong : ChangeSpec := { name := "raftCatches", fn := fun _ => fun
  | [d1, d2] => { results := [.lit (.bool false)], args := [d1, d2] }
  | _ => none }
def RaftCatchesWrongFalsely : Prop := raftCatchesRow.holds Try.pinned (OpenSpec.ofChange raftCatchesWrong)

/-- 'rookerylaw07.RaftNobody': WHATEVER THE INPUT: true; the input reads as it did. -/
def raftNobodySpec : ChangeSpec := { name := "raftNobody", fn := fun _ => fun
  | [d1, d2, d3] => { results := [.lit (.bool true)], args := [d1, d2, d3] }
  | _ => none }
def raftNobodyRow : OpenClaim := { program := "yteaopnhjndnpnaa", sum := "38ffff69965bfec85a3c191ed0e10547c513ff31eb93d60f13dfa48a131783d2", func := "rookery/rookerylaw07.RaftNobody", spec := "raftNobody", inPlace := ["slices.overlaps[rookery/api.Record]"], unfollowed := true, recurses := true, apart := false }
def RaftNobodySaid : Prop := raftNobodyRow.holds Try.pinned (OpenSpec.ofChange raftNobodySpec)

/-- ITS FALSE NEIGHBOUR: 'it returns false'. Refute it at one input. -/
def raftNobodyWrong : ChangeSpec := { name := "raftNobody", fn := fun _ => fun
  | [d1, d2, d3] => { results := [.lit (.bool false)], args := [d1, d2, d3] }
  | _ => none }
def RaftNobodyWrongFalsely : Prop := raftNobodyRow.holds Try.pinned (OpenSpec.ofChange raftNobodyWrong)

/-- 'rookerylaw07.RaftVotes': WHATEVER THE INPUT: true; the input reads as it did. -/
def raftVotesSpec : ChangeSpec := { name := "raftVotes", fn := fun _ => fun
  | [d1, d2] => { results := [.lit (.bool true)], args := [d1, d2] }
  | _ => none }
def raftVotesRow : OpenClaim := { program := "yteaopnhjndnpnaa", sum := "38ffff69965bfec85a3c191ed0e10547c513ff31eb93d60f13dfa48a131783d2", func := "rookery/rookerylaw07.RaftVotes", spec := "raftVotes", inPlace := ["slices.overlaps[rookery/api.Record]"], unfollowed := true, recurses := true, apart := false }
def RaftVotesSaid : Prop := raftVotesRow.holds Try.pinned (OpenSpec.ofChange raftVotesSpec)

/-- ITS FALSE NEIGHBOUR: 'it returns false'. Refute it at one input. -/
def raftVotesWrong : ChangeSpec := { name := "raftVotes", fn := fun _ => fun
  | [d1, d2] => { results := [.lit (.bool false)], args := [d1, d2] }
  | _ => none }
def RaftVotesWrongFalsely : Prop := raftVotesRow.holds Try.pinned (OpenSpec.ofChange raftVotesWrong)

/- THE SECOND FORM. 'bulk': how many values and letters a reading holds, each counted each time it is reached (what is shared counts as often as it is met; a slice's spare places count too). A statement '..UptoSaid' is the law's where the arguments, and the package variables that the reading takes, are together of bulk at most 1048576: NARROWER than '..Said'. Prove '..Said' where nothing that the law and all that it calls make is longer than what came in: it says more and counts as full. Else prove '..UptoSaid'. A law counts once. -/
mutual
def uptoBulk {H : Type} : DataW H → Nat
  | .lit (.string bytes) => bytes.length + 1
  | .lit _ => 1
  | .nil => 1
  | .ptr d => uptoBulk d + 1
  | .slice elems spare => uptoBulkAll elems + uptoBulkAll spare + 1
  | .agg parts => uptoBulkAll parts + 1
  | .iface _ d => uptoBulk d + 1
  | .map entries => uptoBulkEntries entries + 1
  | .held _ => 1
def uptoBulkAll {H : Type} : List (DataW H) → Nat
  | [] => 0
  | d :: r => uptoBulk d + uptoBulkAll r
def uptoBulkEntries {H : Type} : List (Lit × DataW H) → Nat
  | [] => 0
  | x :: r => uptoBulkEntry x + uptoBulkEntries r
def uptoBulkEntry {H : Type} : Lit × DataW H → Nat
  | (.string bytes, d) => bytes.length + uptoBulk d + 1
  | (_, d) => uptoBulk d + 1
 end
def uptoSmall : (H : Type) → List (DataW H) → Bool := fun _ ds => decide (uptoBulkAll ds ≤ 1048576)
def OpenSpec.upto (s : _root_.Go.ChangeSpec) : _root_.Go.OpenSpec := { _root_.Go.OpenSpec.ofChange s with cond := some uptoSmall }

/-- 'rookerylaw07.RaftSafe', WHERE WHAT IT READS IS OF BULK AT MOST 1048576: true; the input reads as it did. -/
def raftSafeUptoRow : OpenClaim := { program := "yteaopnhjndnpnaa", sum := "38ffff69965bfec85a3c191ed0e10547c513ff31eb93d60f13dfa48a131783d2", func := "rookery/rookerylaw07.RaftSafe", spec := "raftSafe", inPlace := ["slices.overlaps[rookery/api.Record]"], unfollowed := true, recurses := true, apart := false, narrowed := true }
def RaftSafeUptoSaid : Prop := raftSafeUptoRow.holds Try.pinned (OpenSpec.upto raftSafeSpec)

/-- 'rookerylaw07.RaftCatches', WHERE WHAT IT READS IS OF BULK AT MOST 1048576: true; the input reads as it did. -/
def raftCatchesUptoRow : OpenClaim := { program := "yteaopnhjndnpnaa", sum := "38ffff69965bfec85a3c191ed0e10547c513ff31eb93d60f13dfa48a131783d2", func := "rookery/rookerylaw07.RaftCatches", spec := "raftCatches", inPlace := ["slices.overlaps[rookery/api.Record]"], unfollowed := true, recurses := true, apart := false, narrowed := true }
def RaftCatchesUptoSaid : Prop := raftCatchesUptoRow.holds Try.pinned (OpenSpec.upto raftCatchesSpec)

/-- 'rookerylaw07.RaftNobody', WHERE WHAT IT READS IS OF BULK AT MOST 1048576: true; the input reads as it did. -/
def raftNobodyUptoRow : OpenClaim := { program := "yteaopnhjndnpnaa", sum := "38ffff69965bfec85a3c191ed0e10547c513ff31eb93d60f13dfa48a131783d2", func := "rookery/rookerylaw07.RaftNobody", spec := "raftNobody", inPlace := ["slices.overlaps[rookery/api.Record]"], unfollowed := true, recurses := true, apart := false, narrowed := true }
def RaftNobodyUptoSaid : Prop := raftNobodyUptoRow.holds Try.pinned (OpenSpec.upto raftNobodySpec)

/-- 'rookerylaw07.RaftVotes', WHERE WHAT IT READS IS OF BULK AT MOST 1048576: true; the input reads as it did. -/
def raftVotesUptoRow : OpenClaim := { program := "yteaopnhjndnpnaa", sum := "38ffff69965bfec85a3c191ed0e10547c513ff31eb93d60f13dfa48a131783d2", func := "rookery/rookerylaw07.RaftVotes", spec := "raftVotes", inPlace := ["slices.overlaps[rookery/api.Record]"], unfollowed := true, recurses := true, apart := false, narrowed := true }
def RaftVotesUptoSaid : Prop := raftVotesUptoRow.holds Try.pinned (OpenSpec.upto raftVotesSpec)

end Rows
end Go.Proofs.Yteaopnhjndnpnaa
