/-
  No cell of these rows narrows 'for every input' (looked for: loops, veiled, ifaces, maps, wideKeys, modest, calm, conditions, laid).
  DERIVED. THE GIVEN ROWS OF THIS SEAT. 2 by the template 'for every input the law returns true; each argument reads behind the call as it read before'; 0 by the template 'total and deterministic' (their statements: YtekgedphjbhalabTotals.lean).
  GIVEN WITH THE SEED: the statements are not yours to turn. If you find one false, say at which input.
  Laid BY PROGRAM, IN A SANDBOX (cutbox-rows.mjs): the forced cells as the released guide's own fill.sh prints them over the translation 01780b2e7fc99c69… (all of the seat's roots in one cut). By AI agents, Wed Nov 11 2026. No macro, syntax, notation, axiom, sorry.
-/
import Derived.Test.YtekgedphjbhalabChecked
import GoSem.Claim
import GoSem.ClaimJoined
import GoSem.ClaimMapViews
import Derived.JoinedTies
import Derived.KernelRfl
namespace Go.Proofs.Ytekgedphjbhalab
/- THE CELL 'sum', in the pinned program and in every row, IS THE sha256 OF THE DUMP (.gsa) THAT YtekgedphjbhalabProg.lean LOADS. Nothing in Lean hashes anything: it is a label: what it is worth is what the hold of that sum in a sandbox is worth. -/
noncomputable def Try.pinned : Pinned := { name := "ytekgedphjbhalab", sum := "01780b2e7fc99c69308bb14b21f7024f0b6bd756515c1e900c05be790278a6d9", checked := Try.checked }
namespace Rows
def none {H : Type} : Left H := { results := [], args := [] }

/-- 'smithylaw01.ScalarShifts': WHATEVER THE INPUT: true; the input reads as it did. -/
def scalarShiftsSpec : ChangeSpec := { name := "scalarShifts", fn := fun _ => fun
  | [d1, d2, d3] => { results := [.lit (.bool true)], args := [d1, d2, d3] }
  | _ => none }
def scalarShiftsRow : OpenClaim := { program := "ytekgedphjbhalab", sum := "01780b2e7fc99c69308bb14b21f7024f0b6bd756515c1e900c05be790278a6d9", func := "smithy/smithylaw01.ScalarShifts", spec := "scalarShifts", inPlace := ["math.Float64frombits", "math.Float64bits", "math.archTrunc"], apart := false }
def ScalarShiftsSaid : Prop := scalarShiftsRow.holds Try.pinned (OpenSpec.ofChange scalarShiftsSpec)

/-- ITS FALSE NEIGHBOUR: 'it returns false'. Refute it at one input. -/
def scalarShiftsWrong : ChangeSpec := { name := "scalarShifts", fn := fun _ => fun
  | [d1, d2, d3] => { results := [.lit (.bool false)], args := [d1, d2, d3] }
  | _ => none }
def ScalarShiftsWrongFalsely : Prop := scalarShiftsRow.holds Try.pinned (OpenSpec.ofChange scalarShiftsWrong)

/-- 'smithylaw01.ScalarTurned': WHATEVER THE INPUT: true; the input reads as it did. -/
def scalarTurnedSpec : ChangeSpec := { name := "scalarTurned", fn := fun _ => fun
  | [d1, d2] => { results := [.lit (.bool true)], args := [d1, d2] }
  | _ => none }
def scalarTurnedRow : OpenClaim := { program := "ytekgedphjbhalab", sum := "01780b2e7fc99c69308bb14b21f7024f0b6bd756515c1e900c05be790278a6d9", func := "smithy/smithylaw01.ScalarTurned", spec := "scalarTurned", inPlace := ["math.Float64frombits", "math.Float64bits", "math.archTrunc"], apart := false }
def ScalarTurnedSaid : Prop := scalarTurnedRow.holds Try.pinned (OpenSpec.ofChange scalarTurnedSpec)

/-- ITS FALSE NEIGHBOUR: 'it returns false'. Refute it at one input. -/
def scalarTurnedWrong : ChangeSpec := { name := "scalarTurned", fn := fun _ => fun
  | [d1, d2] => { results := [.lit (.bool false)], args := [d1, d2] }
  | _ => none }
def ScalarTurnedWrongFalsely : Prop := scalarTurnedRow.holds Try.pinned (OpenSpec.ofChange scalarTurnedWrong)

/- THE SECOND FORM. 'bulk': how many values and letters a reading holds, each counted each time it is reached (what is shared counts as often as it is met; a slice's spare places count too). A statement '..UptoSaid' is the law's where the arguments, and the package variables that the reading takes, are together of bulk at most 1048576: NARROWER than '..Said'. Prove '..Said' where nothing that the law and all that it calls make is longer than what came in: it says more and counts as full. Else prove '..UptoSaid'. A law counts once. -/
mutual
def uptoBulk {H : Type} : DataW H → Nat
  | .lit (.string bytes) => bytes.length + 1
  | .lit _ => 1
  | .nil => 1
  | .ptr d => uptoBulk d + 1
  | .slice elems spare => uptoBulkAll elems + uptoBulkAll spare + 1
  | .agg parts => uptoBulkAll parts + 1
  | .iface _ d => uptoBulk d + 1
  | .map entries => uptoBulkEntries entries + 1
  | .held _ => 1
def uptoBulkAll {H : Type} : List (DataW H) → Nat
  | [] => 0
  | d :: r => uptoBulk d + uptoBulkAll r
def uptoBulkEntries {H : Type} : List (Lit × DataW H) → Nat
  | [] => 0
  | x :: r => uptoBulkEntry x + uptoBulkEntries r
def uptoBulkEntry {H : Type} : Lit × DataW H → Nat
  | (.string bytes, d) => bytes.length + uptoBulk d + 1
  | (_, d) => uptoBulk d + 1
 end
def uptoSmall : (H : Type) → List (DataW H) → Bool := fun _ ds => decide (uptoBulkAll ds ≤ 1048576)
def OpenSpec.upto (s : _root_.Go.ChangeSpec) : _root_.Go.OpenSpec := { _root_.Go.OpenSpec.ofChange s with cond := some uptoSmall }

/-- 'smithylaw01.ScalarShifts', WHERE WHAT IT READS IS OF BULK AT MOST 1048576: true; the input reads as it did. -/
def scalarShiftsUptoRow : OpenClaim := { program := "ytekgedphjbhalab", sum := "01780b2e7fc99c69308bb14b21f7024f0b6bd756515c1e900c05be790278a6d9", func := "smithy/smithylaw01.ScalarShifts", spec := "scalarShifts", inPlace := ["math.Float64frombits", "math.Float64bits", "math.archTrunc"], apart := false, narrowed := true }
def ScalarShiftsUptoSaid : Prop := scalarShiftsUptoRow.holds Try.pinned (OpenSpec.upto scalarShiftsSpec)

/-- 'smithylaw01.ScalarTurned', WHERE WHAT IT READS IS OF BULK AT MOST 1048576: true; the input reads as it did. -/
def scalarTurnedUptoRow : OpenClaim := { program := "ytekgedphjbhalab", sum := "01780b2e7fc99c69308bb14b21f7024f0b6bd756515c1e900c05be790278a6d9", func := "smithy/smithylaw01.ScalarTurned", spec := "scalarTurned", inPlace := ["math.Float64frombits", "math.Float64bits", "math.archTrunc"], apart := false, narrowed := true }
def ScalarTurnedUptoSaid : Prop := scalarTurnedUptoRow.holds Try.pinned (OpenSpec.upto scalarTurnedSpec)

end Rows
end Go.Proofs.Ytekgedphjbhalab
