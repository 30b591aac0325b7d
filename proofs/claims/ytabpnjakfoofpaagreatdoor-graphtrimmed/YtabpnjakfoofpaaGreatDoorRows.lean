/-
  NARROWER THAN 'FOR EVERY INPUT', by the rows' own cells (each row's printed sentence says how): GraphShapes: laid · GraphTrimmed: laid.
  DERIVED. THE GIVEN ROWS OF THIS SEAT. 2 by the template 'for every input the law returns true; each argument reads behind the call as it read before'; 0 by the template 'total and deterministic' (their statements: YtabpnjakfoofpaaGreatDoorTotals.lean).
  GIVEN WITH THE SEED: the statements are not yours to turn. If you find one false, say at which input.
  Laid BY PROGRAM, IN A SANDBOX (cutbox-rows.mjs): the forced cells as the released guide's own fill.sh prints them over the translation 8fcf51f5e6c575f2… (all of the seat's roots in one cut). By AI agents, Wed Nov 11 2026. No macro, syntax, notation, axiom, sorry.
-/
import Derived.Test.YtabpnjakfoofpaaGreatDoorChecked
import GoSem.Claim
import GoSem.ClaimJoined
import GoSem.ClaimMapViews
import Derived.JoinedTies
import Derived.KernelRfl
namespace Go.Proofs.YtabpnjakfoofpaaGreatDoor
/- THE CELL 'sum', in the pinned program and in every row, IS THE sha256 OF THE DUMP (.gsa) THAT YtabpnjakfoofpaaGreatDoorProg.lean LOADS. Nothing in Lean hashes anything: it is a label: what it is worth is what the hold of that sum in a sandbox is worth. -/
noncomputable def Tryz.pinned : Pinned := { name := "ytabpnjakfoofpaagreatdoor", sum := "8fcf51f5e6c575f2cb6792e2f68e3074adde7586a94ade3914baa5703c508c1b", checked := Tryz.checked }
namespace Rows
def none {H : Type} : Left H := { results := [], args := [] }

/- WHAT THE LISTED PACKAGE-LEVEL VARIABLES READ AS WHEN THE CALL BEGINS. Each datum BY PROGRAM (the guide's laid-datum.mjs) off the statement by which the dump's own 'gosem.cut.vars' lays the variable. In a bare row this is a premise. The card (YtabpnjakfoofpaaGreatDoorCards.lean) ties it to the program's text. -/
def laid_smithy_graph_partsOf {H : Type} : DataW H := .agg [.agg [.lit (.bool false), .lit (.bool false), .lit (.bool false), .lit (.bool false), .lit (.int .i64 0), .lit (.int .i64 0)], .agg [.lit (.bool false), .lit (.bool true), .lit (.bool false), .lit (.bool false), .lit (.int .i64 0), .lit (.int .i64 9223372036854775807)], .agg [.lit (.bool false), .lit (.bool true), .lit (.bool true), .lit (.bool false), .lit (.int .i64 0), .lit (.int .i64 0)], .agg [.lit (.bool false), .lit (.bool true), .lit (.bool false), .lit (.bool false), .lit (.int .i64 1), .lit (.int .i64 1)], .agg [.lit (.bool true), .lit (.bool true), .lit (.bool false), .lit (.bool false), .lit (.int .i64 1), .lit (.int .i64 2)], .agg [.lit (.bool false), .lit (.bool true), .lit (.bool false), .lit (.bool false), .lit (.int .i64 1), .lit (.int .i64 1)], .agg [.lit (.bool false), .lit (.bool true), .lit (.bool false), .lit (.bool true), .lit (.int .i64 1), .lit (.int .i64 1)], .agg [.lit (.bool false), .lit (.bool false), .lit (.bool false), .lit (.bool true), .lit (.int .i64 2), .lit (.int .i64 2)], .agg [.lit (.bool false), .lit (.bool false), .lit (.bool false), .lit (.bool true), .lit (.int .i64 0), .lit (.int .i64 0)], .agg [.lit (.bool false), .lit (.bool true), .lit (.bool false), .lit (.bool true), .lit (.int .i64 0), .lit (.int .i64 9223372036854775807)], .agg [.lit (.bool false), .lit (.bool false), .lit (.bool false), .lit (.bool false), .lit (.int .i64 1), .lit (.int .i64 1)]]

/-- 'smithylaw07.GraphShapes': WHATEVER THE INPUT: true; the input reads as it did. -/
def graphShapesSpec : ChangeSpec := { name := "graphShapes", fn := fun _ => fun
  | [d] => { results := [.lit (.bool true)], args := [d] }
  | _ => none }
def graphShapesRow : OpenClaim := { program := "ytabpnjakfoofpaagreatdoor", sum := "8fcf51f5e6c575f2cb6792e2f68e3074adde7586a94ade3914baa5703c508c1b", func := "smithy/smithylaw07.GraphShapes", spec := "graphShapes", inPlace := ["math.Float64frombits"], unfollowed := true, recurses := true, named := ["smithy/graph.partsOf"], apart := false, laid := [("smithy/graph.partsOf", laid_smithy_graph_partsOf)] }
def GraphShapesSaid : Prop := graphShapesRow.holds Tryz.pinned (OpenSpec.ofChange graphShapesSpec)

/-- ITS FALSE NEIGHBOUR: 'it returns false'. Refute it at one input. -/
def graphShapesWrong : ChangeSpec := { name := "graphShapes", fn := fun _ => fun
  | [d] => { results := [.lit (.bool false)], args := [d] }
  | _ => none }
def GraphShapesWrongFalsely : Prop := graphShapesRow.holds Tryz.pinned (OpenSpec.ofChange graphShapesWrong)

/-- 'smithylaw07.GraphTrimmed': WHATEVER THE INPUT: true; the input reads as it did. -/
def graphTrimmedSpec : ChangeSpec := { name := "graphTrimmed", fn := fun _ => fun
  | [d] => { results := [.lit (.bool true)], args := [d] }
  | _ => none }
def graphTrimmedRow : OpenClaim := { program := "ytabpnjakfoofpaagreatdoor", sum := "8fcf51f5e6c575f2cb6792e2f68e3074adde7586a94ade3914baa5703c508c1b", func := "smithy/smithylaw07.GraphTrimmed", spec := "graphTrimmed", inPlace := ["math.Float64frombits"], unfollowed := true, recurses := true, named := ["smithy/graph.partsOf"], apart := false, laid := [("smithy/graph.partsOf", laid_smithy_graph_partsOf)] }
def GraphTrimmedSaid : Prop := graphTrimmedRow.holds Tryz.pinned (OpenSpec.ofChange graphTrimmedSpec)

/-- ITS FALSE NEIGHBOUR: 'it returns false'. Refute it at one input. -/
def graphTrimmedWrong : ChangeSpec := { name := "graphTrimmed", fn := fun _ => fun
  | [d] => { results := [.lit (.bool false)], args := [d] }
  | _ => none }
def GraphTrimmedWrongFalsely : Prop := graphTrimmedRow.holds Tryz.pinned (OpenSpec.ofChange graphTrimmedWrong)

/- THE SECOND FORM. 'bulk': how many values and letters a reading holds, each counted each time it is reached (what is shared counts as often as it is met; a slice's spare places count too). A statement '..UptoSaid' is the law's where the arguments, and the package variables that the reading takes, are together of bulk at most 1048576: NARROWER than '..Said'. Prove '..Said' where nothing that the law and all that it calls make is longer than what came in: it says more and counts as full. Else prove '..UptoSaid'. A law counts once. -/
mutual
def uptoBulk {H : Type} : DataW H → Nat
  | .lit (.string bytes) => bytes.length + 1
  | .lit _ => 1
  | .nil => 1
  | .ptr d => uptoBulk d + 1
  | .slice elems spare => uptoBulkAll elems + uptoBulkAll spare + 1
  | .agg parts => uptoBulkAll parts + 1
  | .iface _ d => uptoBulk d + 1
  | .map entries => uptoBulkEntries entries + 1
  | .held _ => 1
def uptoBulkAll {H : Type} : List (DataW H) → Nat
  | [] => 0
  | d :: r => uptoBulk d + uptoBulkAll r
def uptoBulkEntries {H : Type} : List (Lit × DataW H) → Nat
  | [] => 0
  | x :: r => uptoBulkEntry x + uptoBulkEntries r
def uptoBulkEntry {H : Type} : Lit × DataW H → Nat
  | (.string bytes, d) => bytes.length + uptoBulk d + 1
  | (_, d) => uptoBulk d + 1
 end
def uptoSmall : (H : Type) → List (DataW H) → Bool := fun _ ds => decide (uptoBulkAll ds ≤ 1048576)
def OpenSpec.upto (s : _root_.Go.ChangeSpec) : _root_.Go.OpenSpec := { _root_.Go.OpenSpec.ofChange s with cond := some uptoSmall }

/-- 'smithylaw07.GraphShapes', WHERE WHAT IT READS IS OF BULK AT MOST 1048576: true; the input reads as it did. -/
def graphShapesUptoRow : OpenClaim := { program := "ytabpnjakfoofpaagreatdoor", sum := "8fcf51f5e6c575f2cb6792e2f68e3074adde7586a94ade3914baa5703c508c1b", func := "smithy/smithylaw07.GraphShapes", spec := "graphShapes", inPlace := ["math.Float64frombits"], unfollowed := true, recurses := true, named := ["smithy/graph.partsOf"], apart := false, laid := [("smithy/graph.partsOf", laid_smithy_graph_partsOf)], narrowed := true }
def GraphShapesUptoSaid : Prop := graphShapesUptoRow.holds Tryz.pinned (OpenSpec.upto graphShapesSpec)

/-- 'smithylaw07.GraphTrimmed', WHERE WHAT IT READS IS OF BULK AT MOST 1048576: true; the input reads as it did. -/
def graphTrimmedUptoRow : OpenClaim := { program := "ytabpnjakfoofpaagreatdoor", sum := "8fcf51f5e6c575f2cb6792e2f68e3074adde7586a94ade3914baa5703c508c1b", func := "smithy/smithylaw07.GraphTrimmed", spec := "graphTrimmed", inPlace := ["math.Float64frombits"], unfollowed := true, recurses := true, named := ["smithy/graph.partsOf"], apart := false, laid := [("smithy/graph.partsOf", laid_smithy_graph_partsOf)], narrowed := true }
def GraphTrimmedUptoSaid : Prop := graphTrimmedUptoRow.holds Tryz.pinned (OpenSpec.upto graphTrimmedSpec)

end Rows
end Go.Proofs.YtabpnjakfoofpaaGreatDoor
