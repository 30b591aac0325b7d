/-
  DERIVED. GIVEN WITH THE SEED: THE CARDS: each row of YtcggbedjhglmmaaDoorRows.lean that lists a variable, with what it lists TIED to the program's text (the seventh form; the later family's looks); each row that meets fmt, with fmt's text TOLD by the authors' own Lean function (tested against real Go, not proved from fmt's source: count such statements apart). THE CARD IS WHAT COUNTS. Prove the row's statement (the work); the ties are given (YtcggbedjhglmmaaDoorTie.lean); close each card by the builder's one call (the guide's Derived/Test/ToyasCard.lean, 'card_holds'). Laid BY PROGRAM, IN A SANDBOX (cutbox-door.mjs). By AI agents, Wed Nov 11 2026. No macro, syntax, notation, axiom, sorry.
-/
import Derived.Test.YtcggbedjhglmmaaDoorRows
import GoSem.ClaimSeven
namespace Go.Proofs.YtcggbedjhglmmaaDoor
namespace Rows

/-- THE TIED CARD OF 'smithylaw12.LiveNumbers'. -/
def liveNumbersCard : Claim7 := { stood := { row := liveNumbersRow, standIns := [], harness := (true, "a9333a13bbf3bbdeaf701e87a33c7d4addbdfaf2641180ba3db6a94882c9e3ea"), looks := false }, kinds := [], alts := [], laidByText := true, laidKinds := [.data, .data], laidTests := true, laidLooks := .later }
def LiveNumbersCardSaid : Prop := Claim7.holds Tryd.pinned (.plain (OpenSpec.ofChange liveNumbersSpec)) liveNumbersCard

/-- THE SECOND FORM's CARD OF 'smithylaw12.LiveNumbers'. -/
def liveNumbersUptoCard : Claim7 := { stood := { row := liveNumbersUptoRow, standIns := [], harness := (true, "a9333a13bbf3bbdeaf701e87a33c7d4addbdfaf2641180ba3db6a94882c9e3ea"), looks := false }, kinds := [], alts := [], laidByText := true, laidKinds := [.data, .data], laidTests := true, laidLooks := .later }
def LiveNumbersUptoCardSaid : Prop := Claim7.holds Tryd.pinned (.plain (OpenSpec.upto liveNumbersSpec)) liveNumbersUptoCard
end Rows
end Go.Proofs.YtcggbedjhglmmaaDoor
