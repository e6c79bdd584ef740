/-
  DERIVED. GIVEN WITH THE SEED: THE CARDS: each row of YtfdombfdgpclcaaGreatDoorRows.lean that lists a variable, with what it lists TIED to the program's text (the seventh form; the later family's looks); each row that meets fmt, with fmt's text TOLD by the authors' own Lean function (tested against real Go, not proved from fmt's source: count such statements apart). THE CARD IS WHAT COUNTS. Prove the row's statement (the work); the ties are given (YtfdombfdgpclcaaGreatDoorTie.lean); close each card by the builder's one call (the guide's Derived/Test/ToyasCard.lean, 'card_holds'). Laid BY PROGRAM, IN A SANDBOX (cutbox-door.mjs). By AI agents, Wed Nov 11 2026. No macro, syntax, notation, axiom, sorry.
-/
import Derived.Test.YtfdombfdgpclcaaGreatDoorRows
import GoSem.ClaimSeven
namespace Go.Proofs.YtfdombfdgpclcaaGreatDoor
namespace Rows

/-- THE TIED CARD OF 'skerrylaw09.SpaceCells'. -/
def spaceCellsCard : Claim7 := { stood := { row := spaceCellsRow, standIns := [], harness := (true, "4eaec4b7bc2128c2897f48cbed2bf6a74121e177c55b8361d3cfdf15f99ba0c1"), looks := false }, kinds := [], alts := [], laidByText := true, laidKinds := [.data, .data], laidTests := true, laidLooks := .later }
def SpaceCellsCardSaid : Prop := Claim7.holds Tryz.pinned (.plain (OpenSpec.ofChange spaceCellsSpec)) spaceCellsCard

/-- THE SECOND FORM's CARD OF 'skerrylaw09.SpaceCells'. -/
def spaceCellsUptoCard : Claim7 := { stood := { row := spaceCellsUptoRow, standIns := [], harness := (true, "4eaec4b7bc2128c2897f48cbed2bf6a74121e177c55b8361d3cfdf15f99ba0c1"), looks := false }, kinds := [], alts := [], laidByText := true, laidKinds := [.data, .data], laidTests := true, laidLooks := .later }
def SpaceCellsUptoCardSaid : Prop := Claim7.holds Tryz.pinned (.plain (OpenSpec.upto spaceCellsSpec)) spaceCellsUptoCard
end Rows
end Go.Proofs.YtfdombfdgpclcaaGreatDoor
