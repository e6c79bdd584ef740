/-
  DERIVED. GIVEN WITH THE SEED: THE CARDS: each row of YtagmmbkgjomdlaaGreatDoorRows.lean that lists a variable, with what it lists TIED to the program's text (the seventh form; the later family's looks); each row that meets fmt, with fmt's text TOLD by the authors' own Lean function (tested against real Go, not proved from fmt's source: count such statements apart). THE CARD IS WHAT COUNTS. Prove the row's statement (the work); the ties are given (YtagmmbkgjomdlaaGreatDoorTie.lean); close each card by the builder's one call (the guide's Derived/Test/ToyasCard.lean, 'card_holds'). Laid BY PROGRAM, IN A SANDBOX (cutbox-door.mjs). By AI agents, Wed Nov 11 2026. No macro, syntax, notation, axiom, sorry.
-/
import Derived.Test.YtagmmbkgjomdlaaGreatDoorRows
import GoSem.ClaimSeven
namespace Go.Proofs.YtagmmbkgjomdlaaGreatDoor
namespace Rows

/-- THE TIED CARD OF 'skerrylaw10.WalkTells'. -/
def walkTellsCard : Claim7 := { stood := { row := walkTellsRow, standIns := [], harness := (true, "51714666476043ba764fcdac601b1244b5b1a7cb4f1d438a8c40cb09122d2373"), looks := false }, kinds := [], alts := [], laidByText := true, laidKinds := [.data, .data], laidTests := true, laidLooks := .later }
def WalkTellsCardSaid : Prop := Claim7.holds Tryz.pinned (.plain (OpenSpec.ofChange walkTellsSpec)) walkTellsCard

/-- THE TIED CARD OF 'skerrylaw10.WalkClean'. -/
def walkCleanCard : Claim7 := { stood := { row := walkCleanRow, standIns := [], harness := (true, "51714666476043ba764fcdac601b1244b5b1a7cb4f1d438a8c40cb09122d2373"), looks := false }, kinds := [], alts := [], laidByText := true, laidKinds := [.data, .data], laidTests := true, laidLooks := .later }
def WalkCleanCardSaid : Prop := Claim7.holds Tryz.pinned (.plain (OpenSpec.ofChange walkCleanSpec)) walkCleanCard

/-- THE TIED CARD OF 'skerrylaw10.WalkTurned'. -/
def walkTurnedCard : Claim7 := { stood := { row := walkTurnedRow, standIns := [], harness := (true, "51714666476043ba764fcdac601b1244b5b1a7cb4f1d438a8c40cb09122d2373"), looks := false }, kinds := [], alts := [], laidByText := true, laidKinds := [.data, .data], laidTests := true, laidLooks := .later }
def WalkTurnedCardSaid : Prop := Claim7.holds Tryz.pinned (.plain (OpenSpec.ofChange walkTurnedSpec)) walkTurnedCard

/-- THE SECOND FORM's CARD OF 'skerrylaw10.WalkTells'. -/
def walkTellsUptoCard : Claim7 := { stood := { row := walkTellsUptoRow, standIns := [], harness := (true, "51714666476043ba764fcdac601b1244b5b1a7cb4f1d438a8c40cb09122d2373"), looks := false }, kinds := [], alts := [], laidByText := true, laidKinds := [.data, .data], laidTests := true, laidLooks := .later }
def WalkTellsUptoCardSaid : Prop := Claim7.holds Tryz.pinned (.plain (OpenSpec.upto walkTellsSpec)) walkTellsUptoCard

/-- THE SECOND FORM's CARD OF 'skerrylaw10.WalkClean'. -/
def walkCleanUptoCard : Claim7 := { stood := { row := walkCleanUptoRow, standIns := [], harness := (true, "51714666476043ba764fcdac601b1244b5b1a7cb4f1d438a8c40cb09122d2373"), looks := false }, kinds := [], alts := [], laidByText := true, laidKinds := [.data, .data], laidTests := true, laidLooks := .later }
def WalkCleanUptoCardSaid : Prop := Claim7.holds Tryz.pinned (.plain (OpenSpec.upto walkCleanSpec)) walkCleanUptoCard

/-- THE SECOND FORM's CARD OF 'skerrylaw10.WalkTurned'. -/
def walkTurnedUptoCard : Claim7 := { stood := { row := walkTurnedUptoRow, standIns := [], harness := (true, "51714666476043ba764fcdac601b1244b5b1a7cb4f1d438a8c40cb09122d2373"), looks := false }, kinds := [], alts := [], laidByText := true, laidKinds := [.data, .data], laidTests := true, laidLooks := .later }
def WalkTurnedUptoCardSaid : Prop := Claim7.holds Tryz.pinned (.plain (OpenSpec.upto walkTurnedSpec)) walkTurnedUptoCard
end Rows
end Go.Proofs.YtagmmbkgjomdlaaGreatDoor
