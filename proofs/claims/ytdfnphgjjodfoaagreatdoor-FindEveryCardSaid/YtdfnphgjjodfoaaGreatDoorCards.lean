/-
  DERIVED. GIVEN WITH THE SEED: THE CARDS: each row of YtdfnphgjjodfoaaGreatDoorRows.lean that lists a variable, with what it lists TIED to the program's text (the seventh form; the later family's looks); each row that meets fmt, with fmt's text TOLD by the authors' own Lean function (tested against real Go, not proved from fmt's source: count such statements apart). THE CARD IS WHAT COUNTS. Prove the row's statement (the work); the ties are given (YtdfnphgjjodfoaaGreatDoorTie.lean); close each card by the builder's one call (the guide's Derived/Test/ToyasCard.lean, 'card_holds'). Laid BY PROGRAM, IN A SANDBOX (cutbox-door.mjs). By AI agents, Wed Nov 11 2026. No macro, syntax, notation, axiom, sorry.
-/
import Derived.Test.YtdfnphgjjodfoaaGreatDoorRows
import GoSem.ClaimSeven
namespace Go.Proofs.YtdfnphgjjodfoaaGreatDoor
namespace Rows

/-- THE TIED CARD OF 'skerrylaw11.FindTells'. -/
def findTellsCard : Claim7 := { stood := { row := findTellsRow, standIns := [], harness := (true, "ba96b63ce0149e55d1060ce7894cf96117b4e524b0d7f41f9a5a2466bf2e4884"), looks := false }, kinds := [], alts := [], laidByText := true, laidKinds := [.data, .data], laidTests := true, laidLooks := .later }
def FindTellsCardSaid : Prop := Claim7.holds Tryz.pinned (.plain (OpenSpec.ofChange findTellsSpec)) findTellsCard

/-- THE TIED CARD OF 'skerrylaw11.FindEvery'. -/
def findEveryCard : Claim7 := { stood := { row := findEveryRow, standIns := [], harness := (true, "ba96b63ce0149e55d1060ce7894cf96117b4e524b0d7f41f9a5a2466bf2e4884"), looks := false }, kinds := [], alts := [], laidByText := true, laidKinds := [.data, .data], laidTests := true, laidLooks := .later }
def FindEveryCardSaid : Prop := Claim7.holds Tryz.pinned (.plain (OpenSpec.ofChange findEverySpec)) findEveryCard

/-- THE TIED CARD OF 'skerrylaw11.FindSlots'. -/
def findSlotsCard : Claim7 := { stood := { row := findSlotsRow, standIns := [], harness := (true, "ba96b63ce0149e55d1060ce7894cf96117b4e524b0d7f41f9a5a2466bf2e4884"), looks := false }, kinds := [], alts := [], laidByText := true, laidKinds := [.data, .data], laidTests := true, laidLooks := .later }
def FindSlotsCardSaid : Prop := Claim7.holds Tryz.pinned (.plain (OpenSpec.ofChange findSlotsSpec)) findSlotsCard

/-- THE SECOND FORM's CARD OF 'skerrylaw11.FindTells'. -/
def findTellsUptoCard : Claim7 := { stood := { row := findTellsUptoRow, standIns := [], harness := (true, "ba96b63ce0149e55d1060ce7894cf96117b4e524b0d7f41f9a5a2466bf2e4884"), looks := false }, kinds := [], alts := [], laidByText := true, laidKinds := [.data, .data], laidTests := true, laidLooks := .later }
def FindTellsUptoCardSaid : Prop := Claim7.holds Tryz.pinned (.plain (OpenSpec.upto findTellsSpec)) findTellsUptoCard

/-- THE SECOND FORM's CARD OF 'skerrylaw11.FindEvery'. -/
def findEveryUptoCard : Claim7 := { stood := { row := findEveryUptoRow, standIns := [], harness := (true, "ba96b63ce0149e55d1060ce7894cf96117b4e524b0d7f41f9a5a2466bf2e4884"), looks := false }, kinds := [], alts := [], laidByText := true, laidKinds := [.data, .data], laidTests := true, laidLooks := .later }
def FindEveryUptoCardSaid : Prop := Claim7.holds Tryz.pinned (.plain (OpenSpec.upto findEverySpec)) findEveryUptoCard

/-- THE SECOND FORM's CARD OF 'skerrylaw11.FindSlots'. -/
def findSlotsUptoCard : Claim7 := { stood := { row := findSlotsUptoRow, standIns := [], harness := (true, "ba96b63ce0149e55d1060ce7894cf96117b4e524b0d7f41f9a5a2466bf2e4884"), looks := false }, kinds := [], alts := [], laidByText := true, laidKinds := [.data, .data], laidTests := true, laidLooks := .later }
def FindSlotsUptoCardSaid : Prop := Claim7.holds Tryz.pinned (.plain (OpenSpec.upto findSlotsSpec)) findSlotsUptoCard
end Rows
end Go.Proofs.YtdfnphgjjodfoaaGreatDoor
