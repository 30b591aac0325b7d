/-
  No cell of these rows narrows 'for every input' (looked for: loops, veiled, ifaces, maps, wideKeys, modest, calm, conditions, laid).
  DERIVED. THE GIVEN ROWS OF THIS SEAT. 5 by the template 'for every input the law returns true; each argument reads behind the call as it read before'; 0 by the template 'total and deterministic' (their statements: YtbbfnladoaimpaaTotals.lean).
  GIVEN WITH THE SEED: the statements are not yours to turn. If you find one false, say at which input.
  Laid BY PROGRAM, IN A SANDBOX (cutbox-rows.mjs): the forced cells as the released guide's own fill.sh prints them over the translation 1e8b5070cc352785… (all of the seat's roots in one cut). By AI agents, Wed Nov 11 2026. No macro, syntax, notation, axiom, sorry.
-/
import Derived.Test.YtbbfnladoaimpaaChecked
import GoSem.Claim
import GoSem.ClaimJoined
import GoSem.ClaimMapViews
import Derived.JoinedTies
import Derived.KernelRfl
namespace Go.Proofs.Ytbbfnladoaimpaa
/- THE CELL 'sum', in the pinned program and in every row, IS THE sha256 OF THE DUMP (.gsa) THAT YtbbfnladoaimpaaProg.lean LOADS. Nothing in Lean hashes anything: it is a label: what it is worth is what the hold of that sum in a sandbox is worth. -/
noncomputable def Try.pinned : Pinned := { name := "ytbbfnladoaimpaa", sum := "1e8b5070cc35278579237e4d237ad02f8fb6f1372d358b4b0e8169e297a1ae19", checked := Try.checked }
namespace Rows
def none {H : Type} : Left H := { results := [], args := [] }

/-- 'smithylaw11.FrontFronts': WHATEVER THE INPUT: true; the input reads as it did. -/
def frontFrontsSpec : ChangeSpec := { name := "frontFronts", fn := fun _ => fun
  | [d] => { results := [.lit (.bool true)], args := [d] }
  | _ => none }
def frontFrontsRow : OpenClaim := { program := "ytbbfnladoaimpaa", sum := "1e8b5070cc35278579237e4d237ad02f8fb6f1372d358b4b0e8169e297a1ae19", func := "smithy/smithylaw11.FrontFronts", spec := "frontFronts", unfollowed := true, recurses := true, apart := false }
def FrontFrontsSaid : Prop := frontFrontsRow.holds Try.pinned (OpenSpec.ofChange frontFrontsSpec)

/-- ITS FALSE NEIGHBOUR: 'it returns false'. Refute it at one input. -/
def frontFrontsWrong : ChangeSpec := { name := "frontFronts", fn := fun _ => fun
  | [d] => { results := [.lit (.bool false)], args := [d] }
  | _ => none }
def FrontFrontsWrongFalsely : Prop := frontFrontsRow.holds Try.pinned (OpenSpec.ofChange frontFrontsWrong)

/-- 'smithylaw11.FrontJoins': WHATEVER THE INPUT: true; the input reads as it did. -/
def frontJoinsSpec : ChangeSpec := { name := "frontJoins", fn := fun _ => fun
  | [d1, d2] => { results := [.lit (.bool true)], args := [d1, d2] }
  | _ => none }
def frontJoinsRow : OpenClaim := { program := "ytbbfnladoaimpaa", sum := "1e8b5070cc35278579237e4d237ad02f8fb6f1372d358b4b0e8169e297a1ae19", func := "smithy/smithylaw11.FrontJoins", spec := "frontJoins", unfollowed := true, recurses := true, apart := false }
def FrontJoinsSaid : Prop := frontJoinsRow.holds Try.pinned (OpenSpec.ofChange frontJoinsSpec)

/-- ITS FALSE NEIGHBOUR: 'it returns false'. Refute it at one input. -/
def frontJoinsWrong : ChangeSpec := { name := "frontJoins", fn := fun _ => fun
  | [d1, d2] => { results := [.lit (.bool false)], args := [d1, d2] }
  | _ => none }
def FrontJoinsWrongFalsely : Prop := frontJoinsRow.holds Try.pinned (OpenSpec.ofChange frontJoinsWrong)

/-- 'smithylaw11.FrontNumbers': WHATEVER THE INPUT: true; the input reads as it did. -/
def frontNumbersSpec : ChangeSpec := { name := "frontNumbers", fn := fun _ => fun
  | [] => { results := [.lit (.bool true)], args := [] }
  | _ => none }
def frontNumbersRow : OpenClaim := { program := "ytbbfnladoaimpaa", sum := "1e8b5070cc35278579237e4d237ad02f8fb6f1372d358b4b0e8169e297a1ae19", func := "smithy/smithylaw11.FrontNumbers", spec := "frontNumbers", unfollowed := true, recurses := true, apart := false }
def FrontNumbersSaid : Prop := frontNumbersRow.holds Try.pinned (OpenSpec.ofChange frontNumbersSpec)

/-- ITS FALSE NEIGHBOUR: 'it returns false'. Refute it at one input. -/
def frontNumbersWrong : ChangeSpec := { name := "frontNumbers", fn := fun _ => fun
  | [] => { results := [.lit (.bool false)], args := [] }
  | _ => none }
def FrontNumbersWrongFalsely : Prop := frontNumbersRow.holds Try.pinned (OpenSpec.ofChange frontNumbersWrong)

/-- 'smithylaw11.FrontMarks': WHATEVER THE INPUT: true; the input reads as it did. -/
def frontMarksSpec : ChangeSpec := { name := "frontMarks", fn := fun _ => fun
  | [d1, d2] => { results := [.lit (.bool true)], args := [d1, d2] }
  | _ => none }
def frontMarksRow : OpenClaim := { program := "ytbbfnladoaimpaa", sum := "1e8b5070cc35278579237e4d237ad02f8fb6f1372d358b4b0e8169e297a1ae19", func := "smithy/smithylaw11.FrontMarks", spec := "frontMarks", unfollowed := true, recurses := true, apart := false }
def FrontMarksSaid : Prop := frontMarksRow.holds Try.pinned (OpenSpec.ofChange frontMarksSpec)

/-- ITS FALSE NEIGHBOUR: 'it returns false'. Refute it at one input. -/
def frontMarksWrong : ChangeSpec := { name := "frontMarks", fn := fun _ => fun
  | [d1, d2] => { results := [.lit (.bool false)], args := [d1, d2] }
  | _ => none }
def FrontMarksWrongFalsely : Prop := frontMarksRow.holds Try.pinned (OpenSpec.ofChange frontMarksWrong)

/-- 'smithylaw11.FrontLeast': WHATEVER THE INPUT: true; the input reads as it did. -/
def frontLeastSpec : ChangeSpec := { name := "frontLeast", fn := fun _ => fun
  | [d1, d2, d3] => { results := [.lit (.bool true)], args := [d1, d2, d3] }
  | _ => none }
def frontLeastRow : OpenClaim := { program := "ytbbfnladoaimpaa", sum := "1e8b5070cc35278579237e4d237ad02f8fb6f1372d358b4b0e8169e297a1ae19", func := "smithy/smithylaw11.FrontLeast", spec := "frontLeast", unfollowed := true, recurses := true, apart := false }
def FrontLeastSaid : Prop := frontLeastRow.holds Try.pinned (OpenSpec.ofChange frontLeastSpec)

/-- ITS FALSE NEIGHBOUR: 'it returns false'. Refute it at one input. -/
def frontLeastWrong : ChangeSpec := { name := "frontLeast", fn := fun _ => fun
  | [d1, d2, d3] => { results := [.lit (.bool false)], args := [d1, d2, d3] }
  | _ => none }
def FrontLeastWrongFalsely : Prop := frontLeastRow.holds Try.pinned (OpenSpec.ofChange frontLeastWrong)

/- THE SECOND FORM. 'bulk': how many values and letters a reading holds, each counted each time it is reached (what is shared counts as often as it is met; a slice's spare places count too). A statement '..UptoSaid' is the law's where the arguments, and the package variables that the reading takes, are together of bulk at most 1048576: NARROWER than '..Said'. Prove '..Said' where nothing that the law and all that it calls make is longer than what came in: it says more and counts as full. Else prove '..UptoSaid'. A law counts once. -/
mutual
def uptoBulk {H : Type} : DataW H → Nat
  | .lit (.string bytes) => bytes.length + 1
  | .lit _ => 1
  | .nil => 1
  | .ptr d => uptoBulk d + 1
  | .slice elems spare => uptoBulkAll elems + uptoBulkAll spare + 1
  | .agg parts => uptoBulkAll parts + 1
  | .iface _ d => uptoBulk d + 1
  | .map entries => uptoBulkEntries entries + 1
  | .held _ => 1
def uptoBulkAll {H : Type} : List (DataW H) → Nat
  | [] => 0
  | d :: r => uptoBulk d + uptoBulkAll r
def uptoBulkEntries {H : Type} : List (Lit × DataW H) → Nat
  | [] => 0
  | x :: r => uptoBulkEntry x + uptoBulkEntries r
def uptoBulkEntry {H : Type} : Lit × DataW H → Nat
  | (.string bytes, d) => bytes.length + uptoBulk d + 1
  | (_, d) => uptoBulk d + 1
 end
def uptoSmall : (H : Type) → List (DataW H) → Bool := fun _ ds => decide (uptoBulkAll ds ≤ 1048576)
def OpenSpec.upto (s : _root_.Go.ChangeSpec) : _root_.Go.OpenSpec := { _root_.Go.OpenSpec.ofChange s with cond := some uptoSmall }

/-- 'smithylaw11.FrontFronts', WHERE WHAT IT READS IS OF BULK AT MOST 1048576: true; the input reads as it did. -/
def frontFrontsUptoRow : OpenClaim := { program := "ytbbfnladoaimpaa", sum := "1e8b5070cc35278579237e4d237ad02f8fb6f1372d358b4b0e8169e297a1ae19", func := "smithy/smithylaw11.FrontFronts", spec := "frontFronts", unfollowed := true, recurses := true, apart := false, narrowed := true }
def FrontFrontsUptoSaid : Prop := frontFrontsUptoRow.holds Try.pinned (OpenSpec.upto frontFrontsSpec)

/-- 'smithylaw11.FrontJoins', WHERE WHAT IT READS IS OF BULK AT MOST 1048576: true; the input reads as it did. -/
def frontJoinsUptoRow : OpenClaim := { program := "ytbbfnladoaimpaa", sum := "1e8b5070cc35278579237e4d237ad02f8fb6f1372d358b4b0e8169e297a1ae19", func := "smithy/smithylaw11.FrontJoins", spec := "frontJoins", unfollowed := true, recurses := true, apart := false, narrowed := true }
def FrontJoinsUptoSaid : Prop := frontJoinsUptoRow.holds Try.pinned (OpenSpec.upto frontJoinsSpec)

/-- 'smithylaw11.FrontNumbers', WHERE WHAT IT READS IS OF BULK AT MOST 1048576: true; the input reads as it did. -/
def frontNumbersUptoRow : OpenClaim := { program := "ytbbfnladoaimpaa", sum := "1e8b5070cc35278579237e4d237ad02f8fb6f1372d358b4b0e8169e297a1ae19", func := "smithy/smithylaw11.FrontNumbers", spec := "frontNumbers", unfollowed := true, recurses := true, apart := false, narrowed := true }
def FrontNumbersUptoSaid : Prop := frontNumbersUptoRow.holds Try.pinned (OpenSpec.upto frontNumbersSpec)

/-- 'smithylaw11.FrontMarks', WHERE WHAT IT READS IS OF BULK AT MOST 1048576: true; the input reads as it did. -/
def frontMarksUptoRow : OpenClaim := { program := "ytbbfnladoaimpaa", sum := "1e8b5070cc35278579237e4d237ad02f8fb6f1372d358b4b0e8169e297a1ae19", func := "smithy/smithylaw11.FrontMarks", spec := "frontMarks", unfollowed := true, recurses := true, apart := false, narrowed := true }
def FrontMarksUptoSaid : Prop := frontMarksUptoRow.holds Try.pinned (OpenSpec.upto frontMarksSpec)

/-- 'smithylaw11.FrontLeast', WHERE WHAT IT READS IS OF BULK AT MOST 1048576: true; the input reads as it did. -/
def frontLeastUptoRow : OpenClaim := { program := "ytbbfnladoaimpaa", sum := "1e8b5070cc35278579237e4d237ad02f8fb6f1372d358b4b0e8169e297a1ae19", func := "smithy/smithylaw11.FrontLeast", spec := "frontLeast", unfollowed := true, recurses := true, apart := false, narrowed := true }
def FrontLeastUptoSaid : Prop := frontLeastUptoRow.holds Try.pinned (OpenSpec.upto frontLeastSpec)

end Rows
end Go.Proofs.Ytbbfnladoaimpaa
