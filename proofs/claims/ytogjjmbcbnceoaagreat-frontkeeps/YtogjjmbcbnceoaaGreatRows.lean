/-
  No cell of these rows narrows 'for every input' (looked for: loops, veiled, ifaces, maps, wideKeys, modest, calm, conditions, laid).
  DERIVED. THE GIVEN ROWS OF THIS SEAT. 2 by the template 'for every input the law returns true; each argument reads behind the call as it read before'; 0 by the template 'total and deterministic' (their statements: YtogjjmbcbnceoaaGreatTotals.lean).
  GIVEN WITH THE SEED: the statements are not yours to turn. If you find one false, say at which input.
  Laid BY PROGRAM, IN A SANDBOX (cutbox-rows.mjs): the forced cells as the released guide's own fill.sh prints them over the translation c628445dfe0bcc3b… (all of the seat's roots in one cut). By AI agents, Wed Nov 11 2026. No macro, syntax, notation, axiom, sorry.
-/
import Derived.Test.YtogjjmbcbnceoaaGreatChecked
import GoSem.Claim
import GoSem.ClaimJoined
import GoSem.ClaimMapViews
import Derived.JoinedTies
import Derived.KernelRfl
namespace Go.Proofs.YtogjjmbcbnceoaaGreat
/- THE CELL 'sum', in the pinned program and in every row, IS THE sha256 OF THE DUMP (.gsa) THAT YtogjjmbcbnceoaaGreatProg.lean LOADS. Nothing in Lean hashes anything: it is a label: what it is worth is what the hold of that sum in a sandbox is worth. -/
noncomputable def Tryz.pinned : Pinned := { name := "ytogjjmbcbnceoaagreat", sum := "c628445dfe0bcc3bf38c8e671a7a9d99d28c47ea70b0d30604536e0d1d9b9ba8", checked := Tryz.checked }
namespace Rows
def none {H : Type} : Left H := { results := [], args := [] }

/-- 'smithylaw10.DomKeeps': WHATEVER THE INPUT: true; the input reads as it did. -/
def domKeepsSpec : ChangeSpec := { name := "domKeeps", fn := fun _ => fun
  | [d1, d2] => { results := [.lit (.bool true)], args := [d1, d2] }
  | _ => none }
def domKeepsRow : OpenClaim := { program := "ytogjjmbcbnceoaagreat", sum := "c628445dfe0bcc3bf38c8e671a7a9d99d28c47ea70b0d30604536e0d1d9b9ba8", func := "smithy/smithylaw10.DomKeeps", spec := "domKeeps", unfollowed := true, recurses := true, apart := false }
def DomKeepsSaid : Prop := domKeepsRow.holds Tryz.pinned (OpenSpec.ofChange domKeepsSpec)

/-- ITS FALSE NEIGHBOUR: 'it returns false'. Refute it at one input. -/
def domKeepsWrong : ChangeSpec := { name := "domKeeps", fn := fun _ => fun
  | [d1, d2] => { results := [.lit (.bool false)], args := [d1, d2] }
  | _ => none }
def DomKeepsWrongFalsely : Prop := domKeepsRow.holds Tryz.pinned (OpenSpec.ofChange domKeepsWrong)

/-- 'smithylaw11.FrontKeeps': WHATEVER THE INPUT: true; the input reads as it did. -/
def frontKeepsSpec : ChangeSpec := { name := "frontKeeps", fn := fun _ => fun
  | [d1, d2] => { results := [.lit (.bool true)], args := [d1, d2] }
  | _ => none }
def frontKeepsRow : OpenClaim := { program := "ytogjjmbcbnceoaagreat", sum := "c628445dfe0bcc3bf38c8e671a7a9d99d28c47ea70b0d30604536e0d1d9b9ba8", func := "smithy/smithylaw11.FrontKeeps", spec := "frontKeeps", unfollowed := true, recurses := true, apart := false }
def FrontKeepsSaid : Prop := frontKeepsRow.holds Tryz.pinned (OpenSpec.ofChange frontKeepsSpec)

/-- ITS FALSE NEIGHBOUR: 'it returns false'. Refute it at one input. -/
def frontKeepsWrong : ChangeSpec := { name := "frontKeeps", fn := fun _ => fun
  | [d1, d2] => { results := [.lit (.bool false)], args := [d1, d2] }
  | _ => none }
def FrontKeepsWrongFalsely : Prop := frontKeepsRow.holds Tryz.pinned (OpenSpec.ofChange frontKeepsWrong)

/- THE SECOND FORM. 'bulk': how many values and letters a reading holds, each counted each time it is reached (what is shared counts as often as it is met; a slice's spare places count too). A statement '..UptoSaid' is the law's where the arguments, and the package variables that the reading takes, are together of bulk at most 1048576: NARROWER than '..Said'. Prove '..Said' where nothing that the law and all that it calls make is longer than what came in: it says more and counts as full. Else prove '..UptoSaid'. A law counts once. -/
mutual
def uptoBulk {H : Type} : DataW H → Nat
  | .lit (.string bytes) => bytes.length + 1
  | .lit _ => 1
  | .nil => 1
  | .ptr d => uptoBulk d + 1
  | .slice elems spare => uptoBulkAll elems + uptoBulkAll spare + 1
  | .agg parts => uptoBulkAll parts + 1
  | .iface _ d => uptoBulk d + 1
  | .map entries => uptoBulkEntries entries + 1
  | .held _ => 1
def uptoBulkAll {H : Type} : List (DataW H) → Nat
  | [] => 0
  | d :: r => uptoBulk d + uptoBulkAll r
def uptoBulkEntries {H : Type} : List (Lit × DataW H) → Nat
  | [] => 0
  | x :: r => uptoBulkEntry x + uptoBulkEntries r
def uptoBulkEntry {H : Type} : Lit × DataW H → Nat
  | (.string bytes, d) => bytes.length + uptoBulk d + 1
  | (_, d) => uptoBulk d + 1
 end
def uptoSmall : (H : Type) → List (DataW H) → Bool := fun _ ds => decide (uptoBulkAll ds ≤ 1048576)
def OpenSpec.upto (s : _root_.Go.ChangeSpec) : _root_.Go.OpenSpec := { _root_.Go.OpenSpec.ofChange s with cond := some uptoSmall }

/-- 'smithylaw10.DomKeeps', WHERE WHAT IT READS IS OF BULK AT MOST 1048576: true; the input reads as it did. -/
def domKeepsUptoRow : OpenClaim := { program := "ytogjjmbcbnceoaagreat", sum := "c628445dfe0bcc3bf38c8e671a7a9d99d28c47ea70b0d30604536e0d1d9b9ba8", func := "smithy/smithylaw10.DomKeeps", spec := "domKeeps", unfollowed := true, recurses := true, apart := false, narrowed := true }
def DomKeepsUptoSaid : Prop := domKeepsUptoRow.holds Tryz.pinned (OpenSpec.upto domKeepsSpec)

/-- 'smithylaw11.FrontKeeps', WHERE WHAT IT READS IS OF BULK AT MOST 1048576: true; the input reads as it did. -/
def frontKeepsUptoRow : OpenClaim := { program := "ytogjjmbcbnceoaagreat", sum := "c628445dfe0bcc3bf38c8e671a7a9d99d28c47ea70b0d30604536e0d1d9b9ba8", func := "smithy/smithylaw11.FrontKeeps", spec := "frontKeeps", unfollowed := true, recurses := true, apart := false, narrowed := true }
def FrontKeepsUptoSaid : Prop := frontKeepsUptoRow.holds Tryz.pinned (OpenSpec.upto frontKeepsSpec)

end Rows
end Go.Proofs.YtogjjmbcbnceoaaGreat
