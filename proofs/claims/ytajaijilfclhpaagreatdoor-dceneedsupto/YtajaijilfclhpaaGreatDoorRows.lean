/-
  NARROWER THAN 'FOR EVERY INPUT', by the rows' own cells (each row's printed sentence says how): DceNeeds: laid · DceApplies: laid · DceNumbers: laid.
  DERIVED. THE GIVEN ROWS OF THIS SEAT. 3 by the template 'for every input the law returns true; each argument reads behind the call as it read before'; 0 by the template 'total and deterministic' (their statements: YtajaijilfclhpaaGreatDoorTotals.lean).
  GIVEN WITH THE SEED: the statements are not yours to turn. If you find one false, say at which input.
  Laid BY PROGRAM, IN A SANDBOX (cutbox-rows.mjs): the forced cells as the released guide's own fill.sh prints them over the translation d8546252df3cd5df… (all of the seat's roots in one cut). By AI agents, Wed Nov 11 2026. No macro, syntax, notation, axiom, sorry.
-/
import Derived.Test.YtajaijilfclhpaaGreatDoorChecked
import GoSem.Claim
import GoSem.ClaimJoined
import GoSem.ClaimMapViews
import Derived.JoinedTies
import Derived.KernelRfl
namespace Go.Proofs.YtajaijilfclhpaaGreatDoor
/- THE CELL 'sum', in the pinned program and in every row, IS THE sha256 OF THE DUMP (.gsa) THAT YtajaijilfclhpaaGreatDoorProg.lean LOADS. Nothing in Lean hashes anything: it is a label: what it is worth is what the hold of that sum in a sandbox is worth. -/
noncomputable def Tryz.pinned : Pinned := { name := "ytajaijilfclhpaagreatdoor", sum := "d8546252df3cd5df5a0efba1d66daecabb9c530e0902e9bc45057be696114e3c", checked := Tryz.checked }
namespace Rows
def none {H : Type} : Left H := { results := [], args := [] }

/- WHAT THE LISTED PACKAGE-LEVEL VARIABLES READ AS WHEN THE CALL BEGINS. Each datum BY PROGRAM (the guide's laid-datum.mjs) off the statement by which the dump's own 'gosem.cut.vars' lays the variable. In a bare row this is a premise. The card (YtajaijilfclhpaaGreatDoorCards.lean) ties it to the program's text. -/
def laid_smithy_graph_partsOf {H : Type} : DataW H := .agg [.agg [.lit (.bool false), .lit (.bool false), .lit (.bool false), .lit (.bool false), .lit (.int .i64 0), .lit (.int .i64 0)], .agg [.lit (.bool false), .lit (.bool true), .lit (.bool false), .lit (.bool false), .lit (.int .i64 0), .lit (.int .i64 9223372036854775807)], .agg [.lit (.bool false), .lit (.bool true), .lit (.bool true), .lit (.bool false), .lit (.int .i64 0), .lit (.int .i64 0)], .agg [.lit (.bool false), .lit (.bool true), .lit (.bool false), .lit (.bool false), .lit (.int .i64 1), .lit (.int .i64 1)], .agg [.lit (.bool true), .lit (.bool true), .lit (.bool false), .lit (.bool false), .lit (.int .i64 1), .lit (.int .i64 2)], .agg [.lit (.bool false), .lit (.bool true), .lit (.bool false), .lit (.bool false), .lit (.int .i64 1), .lit (.int .i64 1)], .agg [.lit (.bool false), .lit (.bool true), .lit (.bool false), .lit (.bool true), .lit (.int .i64 1), .lit (.int .i64 1)], .agg [.lit (.bool false), .lit (.bool false), .lit (.bool false), .lit (.bool true), .lit (.int .i64 2), .lit (.int .i64 2)], .agg [.lit (.bool false), .lit (.bool false), .lit (.bool false), .lit (.bool true), .lit (.int .i64 0), .lit (.int .i64 0)], .agg [.lit (.bool false), .lit (.bool true), .lit (.bool false), .lit (.bool true), .lit (.int .i64 0), .lit (.int .i64 9223372036854775807)], .agg [.lit (.bool false), .lit (.bool false), .lit (.bool false), .lit (.bool false), .lit (.int .i64 1), .lit (.int .i64 1)]]

/-- 'smithylaw17.DceNeeds': WHATEVER THE INPUT: true; the input reads as it did. -/
def dceNeedsSpec : ChangeSpec := { name := "dceNeeds", fn := fun _ => fun
  | [d] => { results := [.lit (.bool true)], args := [d] }
  | _ => none }
def dceNeedsRow : OpenClaim := { program := "ytajaijilfclhpaagreatdoor", sum := "d8546252df3cd5df5a0efba1d66daecabb9c530e0902e9bc45057be696114e3c", func := "smithy/smithylaw17.DceNeeds", spec := "dceNeeds", inPlace := ["math.Float64frombits"], unfollowed := true, recurses := true, named := ["smithy/graph.partsOf"], apart := false, laid := [("smithy/graph.partsOf", laid_smithy_graph_partsOf)] }
def DceNeedsSaid : Prop := dceNeedsRow.holds Tryz.pinned (OpenSpec.ofChange dceNeedsSpec)

/-- ITS FALSE NEIGHBOUR: 'it returns false'. Refute it at one input. -/
def dceNeedsWrong : ChangeSpec := { name := "dceNeeds", fn := fun _ => fun
  | [d] => { results := [.lit (.bool false)], args := [d] }
  | _ => none }
def DceNeedsWrongFalsely : Prop := dceNeedsRow.holds Tryz.pinned (OpenSpec.ofChange dceNeedsWrong)

/-- 'smithylaw17.DceApplies': WHATEVER THE INPUT: true; the input reads as it did. -/
def dceAppliesSpec : ChangeSpec := { name := "dceApplies", fn := fun _ => fun
  | [d1, d2] => { results := [.lit (.bool true)], args := [d1, d2] }
  | _ => none }
def dceAppliesRow : OpenClaim := { program := "ytajaijilfclhpaagreatdoor", sum := "d8546252df3cd5df5a0efba1d66daecabb9c530e0902e9bc45057be696114e3c", func := "smithy/smithylaw17.DceApplies", spec := "dceApplies", inPlace := ["math.Float64frombits"], unfollowed := true, recurses := true, named := ["smithy/graph.partsOf"], apart := false, laid := [("smithy/graph.partsOf", laid_smithy_graph_partsOf)] }
def DceAppliesSaid : Prop := dceAppliesRow.holds Tryz.pinned (OpenSpec.ofChange dceAppliesSpec)

/-- ITS FALSE NEIGHBOUR: 'it returns false'. Refute it at one input. -/
def dceAppliesWrong : ChangeSpec := { name := "dceApplies", fn := fun _ => fun
  | [d1, d2] => { results := [.lit (.bool false)], args := [d1, d2] }
  | _ => none }
def DceAppliesWrongFalsely : Prop := dceAppliesRow.holds Tryz.pinned (OpenSpec.ofChange dceAppliesWrong)

/-- 'smithylaw17.DceNumbers': WHATEVER THE INPUT: true; the input reads as it did. -/
def dceNumbersSpec : ChangeSpec := { name := "dceNumbers", fn := fun _ => fun
  | [] => { results := [.lit (.bool true)], args := [] }
  | _ => none }
def dceNumbersRow : OpenClaim := { program := "ytajaijilfclhpaagreatdoor", sum := "d8546252df3cd5df5a0efba1d66daecabb9c530e0902e9bc45057be696114e3c", func := "smithy/smithylaw17.DceNumbers", spec := "dceNumbers", inPlace := ["math.Float64frombits"], unfollowed := true, recurses := true, named := ["smithy/graph.partsOf"], apart := false, laid := [("smithy/graph.partsOf", laid_smithy_graph_partsOf)] }
def DceNumbersSaid : Prop := dceNumbersRow.holds Tryz.pinned (OpenSpec.ofChange dceNumbersSpec)

/-- ITS FALSE NEIGHBOUR: 'it returns false'. Refute it at one input. -/
def dceNumbersWrong : ChangeSpec := { name := "dceNumbers", fn := fun _ => fun
  | [] => { results := [.lit (.bool false)], args := [] }
  | _ => none }
def DceNumbersWrongFalsely : Prop := dceNumbersRow.holds Tryz.pinned (OpenSpec.ofChange dceNumbersWrong)

/- THE SECOND FORM. 'bulk': how many values and letters a reading holds, each counted each time it is reached (what is shared counts as often as it is met; a slice's spare places count too). A statement '..UptoSaid' is the law's where the arguments, and the package variables that the reading takes, are together of bulk at most 1048576: NARROWER than '..Said'. Prove '..Said' where nothing that the law and all that it calls make is longer than what came in: it says more and counts as full. Else prove '..UptoSaid'. A law counts once. -/
mutual
def uptoBulk {H : Type} : DataW H → Nat
  | .lit (.string bytes) => bytes.length + 1
  | .lit _ => 1
  | .nil => 1
  | .ptr d => uptoBulk d + 1
  | .slice elems spare => uptoBulkAll elems + uptoBulkAll spare + 1
  | .agg parts => uptoBulkAll parts + 1
  | .iface _ d => uptoBulk d + 1
  | .map entries => uptoBulkEntries entries + 1
  | .held _ => 1
def uptoBulkAll {H : Type} : List (DataW H) → Nat
  | [] => 0
  | d :: r => uptoBulk d + uptoBulkAll r
def uptoBulkEntries {H : Type} : List (Lit × DataW H) → Nat
  | [] => 0
  | x :: r => uptoBulkEntry x + uptoBulkEntries r
def uptoBulkEntry {H : Type} : Lit × DataW H → Nat
  | (.string bytes, d) => bytes.length + uptoBulk d + 1
  | (_, d) => uptoBulk d + 1
 end
def uptoSmall : (H : Type) → List (DataW H) → Bool := fun _ ds => decide (uptoBulkAll ds ≤ 1048576)
def OpenSpec.upto (s : _root_.Go.ChangeSpec) : _root_.Go.OpenSpec := { _root_.Go.OpenSpec.ofChange s with cond := some uptoSmall }

/-- 'smithylaw17.DceNeeds', WHERE WHAT IT READS IS OF BULK AT MOST 1048576: true; the input reads as it did. -/
def dceNeedsUptoRow : OpenClaim := { program := "ytajaijilfclhpaagreatdoor", sum := "d8546252df3cd5df5a0efba1d66daecabb9c530e0902e9bc45057be696114e3c", func := "smithy/smithylaw17.DceNeeds", spec := "dceNeeds", inPlace := ["math.Float64frombits"], unfollowed := true, recurses := true, named := ["smithy/graph.partsOf"], apart := false, laid := [("smithy/graph.partsOf", laid_smithy_graph_partsOf)], narrowed := true }
def DceNeedsUptoSaid : Prop := dceNeedsUptoRow.holds Tryz.pinned (OpenSpec.upto dceNeedsSpec)

/-- 'smithylaw17.DceApplies', WHERE WHAT IT READS IS OF BULK AT MOST 1048576: true; the input reads as it did. -/
def dceAppliesUptoRow : OpenClaim := { program := "ytajaijilfclhpaagreatdoor", sum := "d8546252df3cd5df5a0efba1d66daecabb9c530e0902e9bc45057be696114e3c", func := "smithy/smithylaw17.DceApplies", spec := "dceApplies", inPlace := ["math.Float64frombits"], unfollowed := true, recurses := true, named := ["smithy/graph.partsOf"], apart := false, laid := [("smithy/graph.partsOf", laid_smithy_graph_partsOf)], narrowed := true }
def DceAppliesUptoSaid : Prop := dceAppliesUptoRow.holds Tryz.pinned (OpenSpec.upto dceAppliesSpec)

/-- 'smithylaw17.DceNumbers', WHERE WHAT IT READS IS OF BULK AT MOST 1048576: true; the input reads as it did. -/
def dceNumbersUptoRow : OpenClaim := { program := "ytajaijilfclhpaagreatdoor", sum := "d8546252df3cd5df5a0efba1d66daecabb9c530e0902e9bc45057be696114e3c", func := "smithy/smithylaw17.DceNumbers", spec := "dceNumbers", inPlace := ["math.Float64frombits"], unfollowed := true, recurses := true, named := ["smithy/graph.partsOf"], apart := false, laid := [("smithy/graph.partsOf", laid_smithy_graph_partsOf)], narrowed := true }
def DceNumbersUptoSaid : Prop := dceNumbersUptoRow.holds Tryz.pinned (OpenSpec.upto dceNumbersSpec)

end Rows
end Go.Proofs.YtajaijilfclhpaaGreatDoor
