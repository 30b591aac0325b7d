/-
  DERIVED. GIVEN WITH THE SEED: THE CARDS: each row of YtabpnjakfoofpaaGreatDoorRows.lean that lists a variable, with what it lists TIED to the program's text (the seventh form; the later family's looks); each row that meets fmt, with fmt's text TOLD by the authors' own Lean function (tested against real Go, not proved from fmt's source: count such statements apart). THE CARD IS WHAT COUNTS. Prove the row's statement (the work); the ties are given (YtabpnjakfoofpaaGreatDoorTie.lean); close each card by the builder's one call (the guide's Derived/Test/ToyasCard.lean, 'card_holds'). Laid BY PROGRAM, IN A SANDBOX (cutbox-door.mjs). By AI agents, Wed Nov 11 2026. No macro, syntax, notation, axiom, sorry.
-/
import Derived.Test.YtabpnjakfoofpaaGreatDoorRows
import GoSem.ClaimSeven
namespace Go.Proofs.YtabpnjakfoofpaaGreatDoor
namespace Rows

/-- THE TIED CARD OF 'smithylaw07.GraphShapes'. -/
def graphShapesCard : Claim7 := { stood := { row := graphShapesRow, standIns := [], harness := (true, "5cedbac689a8c7b02200a453a54e7177014f78f7c4824eaf28262c5885ce311c"), looks := false }, kinds := [], alts := [], laidByText := true, laidKinds := [.data], laidTests := true, laidLooks := .later }
def GraphShapesCardSaid : Prop := Claim7.holds Tryz.pinned (.plain (OpenSpec.ofChange graphShapesSpec)) graphShapesCard

/-- THE TIED CARD OF 'smithylaw07.GraphTrimmed'. -/
def graphTrimmedCard : Claim7 := { stood := { row := graphTrimmedRow, standIns := [], harness := (true, "5cedbac689a8c7b02200a453a54e7177014f78f7c4824eaf28262c5885ce311c"), looks := false }, kinds := [], alts := [], laidByText := true, laidKinds := [.data], laidTests := true, laidLooks := .later }
def GraphTrimmedCardSaid : Prop := Claim7.holds Tryz.pinned (.plain (OpenSpec.ofChange graphTrimmedSpec)) graphTrimmedCard

/-- THE SECOND FORM's CARD OF 'smithylaw07.GraphShapes'. -/
def graphShapesUptoCard : Claim7 := { stood := { row := graphShapesUptoRow, standIns := [], harness := (true, "5cedbac689a8c7b02200a453a54e7177014f78f7c4824eaf28262c5885ce311c"), looks := false }, kinds := [], alts := [], laidByText := true, laidKinds := [.data], laidTests := true, laidLooks := .later }
def GraphShapesUptoCardSaid : Prop := Claim7.holds Tryz.pinned (.plain (OpenSpec.upto graphShapesSpec)) graphShapesUptoCard

/-- THE SECOND FORM's CARD OF 'smithylaw07.GraphTrimmed'. -/
def graphTrimmedUptoCard : Claim7 := { stood := { row := graphTrimmedUptoRow, standIns := [], harness := (true, "5cedbac689a8c7b02200a453a54e7177014f78f7c4824eaf28262c5885ce311c"), looks := false }, kinds := [], alts := [], laidByText := true, laidKinds := [.data], laidTests := true, laidLooks := .later }
def GraphTrimmedUptoCardSaid : Prop := Claim7.holds Tryz.pinned (.plain (OpenSpec.upto graphTrimmedSpec)) graphTrimmedUptoCard
end Rows
end Go.Proofs.YtabpnjakfoofpaaGreatDoor
