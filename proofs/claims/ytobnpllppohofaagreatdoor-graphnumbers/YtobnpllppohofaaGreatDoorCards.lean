/-
  DERIVED. GIVEN WITH THE SEED: THE CARDS: each row of YtobnpllppohofaaGreatDoorRows.lean that lists a variable, with what it lists TIED to the program's text (the seventh form; the later family's looks); each row that meets fmt, with fmt's text TOLD by the authors' own Lean function (tested against real Go, not proved from fmt's source: count such statements apart). THE CARD IS WHAT COUNTS. Prove the row's statement (the work); the ties are given (YtobnpllppohofaaGreatDoorTie.lean); close each card by the builder's one call (the guide's Derived/Test/ToyasCard.lean, 'card_holds'). Laid BY PROGRAM, IN A SANDBOX (cutbox-door.mjs). By AI agents, Wed Nov 11 2026. No macro, syntax, notation, axiom, sorry.
-/
import Derived.Test.YtobnpllppohofaaGreatDoorRows
import GoSem.ClaimSeven
namespace Go.Proofs.YtobnpllppohofaaGreatDoor
namespace Rows

/-- THE TIED CARD OF 'smithylaw07.GraphNumbers'. -/
def graphNumbersCard : Claim7 := { stood := { row := graphNumbersRow, standIns := [], harness := (true, "519b1dc405462fcb642c5c0b26748d0e8e243892894ab33f4471ccfeaf34a8ac"), looks := false }, kinds := [], alts := [], laidByText := true, laidKinds := [.data], laidTests := true, laidLooks := .later }
def GraphNumbersCardSaid : Prop := Claim7.holds Tryz.pinned (.plain (OpenSpec.ofChange graphNumbersSpec)) graphNumbersCard

/-- THE SECOND FORM's CARD OF 'smithylaw07.GraphNumbers'. -/
def graphNumbersUptoCard : Claim7 := { stood := { row := graphNumbersUptoRow, standIns := [], harness := (true, "519b1dc405462fcb642c5c0b26748d0e8e243892894ab33f4471ccfeaf34a8ac"), looks := false }, kinds := [], alts := [], laidByText := true, laidKinds := [.data], laidTests := true, laidLooks := .later }
def GraphNumbersUptoCardSaid : Prop := Claim7.holds Tryz.pinned (.plain (OpenSpec.upto graphNumbersSpec)) graphNumbersUptoCard
end Rows
end Go.Proofs.YtobnpllppohofaaGreatDoor
