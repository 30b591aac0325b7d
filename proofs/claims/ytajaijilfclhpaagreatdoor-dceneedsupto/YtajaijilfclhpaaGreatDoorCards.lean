/-
  DERIVED. GIVEN WITH THE SEED: THE CARDS: each row of YtajaijilfclhpaaGreatDoorRows.lean that lists a variable, with what it lists TIED to the program's text (the seventh form; the later family's looks); each row that meets fmt, with fmt's text TOLD by the authors' own Lean function (tested against real Go, not proved from fmt's source: count such statements apart). THE CARD IS WHAT COUNTS. Prove the row's statement (the work); the ties are given (YtajaijilfclhpaaGreatDoorTie.lean); close each card by the builder's one call (the guide's Derived/Test/ToyasCard.lean, 'card_holds'). Laid BY PROGRAM, IN A SANDBOX (cutbox-door.mjs). By AI agents, Wed Nov 11 2026. No macro, syntax, notation, axiom, sorry.
-/
import Derived.Test.YtajaijilfclhpaaGreatDoorRows
import GoSem.ClaimSeven
namespace Go.Proofs.YtajaijilfclhpaaGreatDoor
namespace Rows

/-- THE TIED CARD OF 'smithylaw17.DceNeeds'. -/
def dceNeedsCard : Claim7 := { stood := { row := dceNeedsRow, standIns := [], harness := (true, "0779f427784e1c8c3e17d5cd1e45199d6cb618d9915e0063202a8a923a568890"), looks := false }, kinds := [], alts := [], laidByText := true, laidKinds := [.data], laidTests := true, laidLooks := .later }
def DceNeedsCardSaid : Prop := Claim7.holds Tryz.pinned (.plain (OpenSpec.ofChange dceNeedsSpec)) dceNeedsCard

/-- THE TIED CARD OF 'smithylaw17.DceApplies'. -/
def dceAppliesCard : Claim7 := { stood := { row := dceAppliesRow, standIns := [], harness := (true, "0779f427784e1c8c3e17d5cd1e45199d6cb618d9915e0063202a8a923a568890"), looks := false }, kinds := [], alts := [], laidByText := true, laidKinds := [.data], laidTests := true, laidLooks := .later }
def DceAppliesCardSaid : Prop := Claim7.holds Tryz.pinned (.plain (OpenSpec.ofChange dceAppliesSpec)) dceAppliesCard

/-- THE TIED CARD OF 'smithylaw17.DceNumbers'. -/
def dceNumbersCard : Claim7 := { stood := { row := dceNumbersRow, standIns := [], harness := (true, "0779f427784e1c8c3e17d5cd1e45199d6cb618d9915e0063202a8a923a568890"), looks := false }, kinds := [], alts := [], laidByText := true, laidKinds := [.data], laidTests := true, laidLooks := .later }
def DceNumbersCardSaid : Prop := Claim7.holds Tryz.pinned (.plain (OpenSpec.ofChange dceNumbersSpec)) dceNumbersCard

/-- THE SECOND FORM's CARD OF 'smithylaw17.DceNeeds'. -/
def dceNeedsUptoCard : Claim7 := { stood := { row := dceNeedsUptoRow, standIns := [], harness := (true, "0779f427784e1c8c3e17d5cd1e45199d6cb618d9915e0063202a8a923a568890"), looks := false }, kinds := [], alts := [], laidByText := true, laidKinds := [.data], laidTests := true, laidLooks := .later }
def DceNeedsUptoCardSaid : Prop := Claim7.holds Tryz.pinned (.plain (OpenSpec.upto dceNeedsSpec)) dceNeedsUptoCard

/-- THE SECOND FORM's CARD OF 'smithylaw17.DceApplies'. -/
def dceAppliesUptoCard : Claim7 := { stood := { row := dceAppliesUptoRow, standIns := [], harness := (true, "0779f427784e1c8c3e17d5cd1e45199d6cb618d9915e0063202a8a923a568890"), looks := false }, kinds := [], alts := [], laidByText := true, laidKinds := [.data], laidTests := true, laidLooks := .later }
def DceAppliesUptoCardSaid : Prop := Claim7.holds Tryz.pinned (.plain (OpenSpec.upto dceAppliesSpec)) dceAppliesUptoCard

/-- THE SECOND FORM's CARD OF 'smithylaw17.DceNumbers'. -/
def dceNumbersUptoCard : Claim7 := { stood := { row := dceNumbersUptoRow, standIns := [], harness := (true, "0779f427784e1c8c3e17d5cd1e45199d6cb618d9915e0063202a8a923a568890"), looks := false }, kinds := [], alts := [], laidByText := true, laidKinds := [.data], laidTests := true, laidLooks := .later }
def DceNumbersUptoCardSaid : Prop := Claim7.holds Tryz.pinned (.plain (OpenSpec.upto dceNumbersSpec)) dceNumbersUptoCard
end Rows
end Go.Proofs.YtajaijilfclhpaaGreatDoor
