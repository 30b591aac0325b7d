/-
  DERIVED. GIVEN WITH THE SEED: THE CARDS: each row of YtcggbedjhglmmaaGreatDoorRows.lean that lists a variable, with what it lists TIED to the program's text (the seventh form; the later family's looks); each row that meets fmt, with fmt's text TOLD by the authors' own Lean function (tested against real Go, not proved from fmt's source: count such statements apart). THE CARD IS WHAT COUNTS. Prove the row's statement (the work); the ties are given (YtcggbedjhglmmaaGreatDoorTie.lean); close each card by the builder's one call (the guide's Derived/Test/ToyasCard.lean, 'card_holds'). Laid BY PROGRAM, IN A SANDBOX (cutbox-door.mjs). By AI agents, Wed Nov 11 2026. No macro, syntax, notation, axiom, sorry.
-/
import Derived.Test.YtcggbedjhglmmaaGreatDoorRows
import GoSem.ClaimSeven
namespace Go.Proofs.YtcggbedjhglmmaaGreatDoor
namespace Rows

/-- THE TIED CARD OF 'smithylaw12.LiveTells'. -/
def liveTellsCard : Claim7 := { stood := { row := liveTellsRow, standIns := [], harness := (true, "2423d2794b1edc079030149165357bd8b9b776ebd696078742ced0ddc60be006"), looks := false }, kinds := [], alts := [], laidByText := true, laidKinds := [.data, .data], laidTests := true, laidLooks := .later }
def LiveTellsCardSaid : Prop := Claim7.holds Tryz.pinned (.plain (OpenSpec.ofChange liveTellsSpec)) liveTellsCard

/-- THE TIED CARD OF 'smithylaw12.LiveEdges'. -/
def liveEdgesCard : Claim7 := { stood := { row := liveEdgesRow, standIns := [], harness := (true, "2423d2794b1edc079030149165357bd8b9b776ebd696078742ced0ddc60be006"), looks := false }, kinds := [], alts := [], laidByText := true, laidKinds := [.data, .data], laidTests := true, laidLooks := .later }
def LiveEdgesCardSaid : Prop := Claim7.holds Tryz.pinned (.plain (OpenSpec.ofChange liveEdgesSpec)) liveEdgesCard

/-- THE SECOND FORM's CARD OF 'smithylaw12.LiveTells'. -/
def liveTellsUptoCard : Claim7 := { stood := { row := liveTellsUptoRow, standIns := [], harness := (true, "2423d2794b1edc079030149165357bd8b9b776ebd696078742ced0ddc60be006"), looks := false }, kinds := [], alts := [], laidByText := true, laidKinds := [.data, .data], laidTests := true, laidLooks := .later }
def LiveTellsUptoCardSaid : Prop := Claim7.holds Tryz.pinned (.plain (OpenSpec.upto liveTellsSpec)) liveTellsUptoCard

/-- THE SECOND FORM's CARD OF 'smithylaw12.LiveEdges'. -/
def liveEdgesUptoCard : Claim7 := { stood := { row := liveEdgesUptoRow, standIns := [], harness := (true, "2423d2794b1edc079030149165357bd8b9b776ebd696078742ced0ddc60be006"), looks := false }, kinds := [], alts := [], laidByText := true, laidKinds := [.data, .data], laidTests := true, laidLooks := .later }
def LiveEdgesUptoCardSaid : Prop := Claim7.holds Tryz.pinned (.plain (OpenSpec.upto liveEdgesSpec)) liveEdgesUptoCard
end Rows
end Go.Proofs.YtcggbedjhglmmaaGreatDoor
