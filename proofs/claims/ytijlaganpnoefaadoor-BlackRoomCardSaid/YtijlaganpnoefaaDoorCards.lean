/-
  DERIVED. GIVEN WITH THE SEED: THE CARDS: each row of YtijlaganpnoefaaDoorRows.lean that lists a variable, with what it lists TIED to the program's text (the seventh form; the later family's looks); each row that meets fmt, with fmt's text TOLD by the authors' own Lean function (tested against real Go, not proved from fmt's source: count such statements apart). THE CARD IS WHAT COUNTS. Prove the row's statement (the work); the ties are given (YtijlaganpnoefaaDoorTie.lean); close each card by the builder's one call (the guide's Derived/Test/ToyasCard.lean, 'card_holds'). Laid BY PROGRAM, IN A SANDBOX (cutbox-door.mjs). By AI agents, Wed Nov 11 2026. No macro, syntax, notation, axiom, sorry.
-/
import Derived.Test.YtijlaganpnoefaaDoorRows
import GoSem.ClaimSeven
namespace Go.Proofs.YtijlaganpnoefaaDoor
namespace Rows

/-- THE TIED CARD OF 'skerrylaw12.BlackPlays'. -/
def blackPlaysCard : Claim7 := { stood := { row := blackPlaysRow, standIns := [], harness := (true, "e4e79656adf8b6100c30e53b9a5e6dfaa54cdb60bfd7c4c218b346de5a6ae0e4"), looks := false }, kinds := [], alts := [], laidByText := true, laidKinds := [.data], laidTests := true, laidLooks := .later }
def BlackPlaysCardSaid : Prop := Claim7.holds Tryd.pinned (.plain (OpenSpec.ofChange blackPlaysSpec)) blackPlaysCard

/-- THE TIED CARD OF 'skerrylaw12.BlackAges'. -/
def blackAgesCard : Claim7 := { stood := { row := blackAgesRow, standIns := [], harness := (true, "e4e79656adf8b6100c30e53b9a5e6dfaa54cdb60bfd7c4c218b346de5a6ae0e4"), looks := false }, kinds := [], alts := [], laidByText := true, laidKinds := [.data], laidTests := true, laidLooks := .later }
def BlackAgesCardSaid : Prop := Claim7.holds Tryd.pinned (.plain (OpenSpec.ofChange blackAgesSpec)) blackAgesCard

/-- THE TIED CARD OF 'skerrylaw12.BlackRoom'. -/
def blackRoomCard : Claim7 := { stood := { row := blackRoomRow, standIns := [], harness := (true, "e4e79656adf8b6100c30e53b9a5e6dfaa54cdb60bfd7c4c218b346de5a6ae0e4"), looks := false }, kinds := [], alts := [], laidByText := true, laidKinds := [.data], laidTests := true, laidLooks := .later }
def BlackRoomCardSaid : Prop := Claim7.holds Tryd.pinned (.plain (OpenSpec.ofChange blackRoomSpec)) blackRoomCard

/-- THE TIED CARD OF 'skerrylaw12.BlackNil'. -/
def blackNilCard : Claim7 := { stood := { row := blackNilRow, standIns := [], harness := (true, "e4e79656adf8b6100c30e53b9a5e6dfaa54cdb60bfd7c4c218b346de5a6ae0e4"), looks := false }, kinds := [], alts := [], laidByText := true, laidKinds := [.data], laidTests := true, laidLooks := .later }
def BlackNilCardSaid : Prop := Claim7.holds Tryd.pinned (.plain (OpenSpec.ofChange blackNilSpec)) blackNilCard

/-- THE SECOND FORM's CARD OF 'skerrylaw12.BlackPlays'. -/
def blackPlaysUptoCard : Claim7 := { stood := { row := blackPlaysUptoRow, standIns := [], harness := (true, "e4e79656adf8b6100c30e53b9a5e6dfaa54cdb60bfd7c4c218b346de5a6ae0e4"), looks := false }, kinds := [], alts := [], laidByText := true, laidKinds := [.data], laidTests := true, laidLooks := .later }
def BlackPlaysUptoCardSaid : Prop := Claim7.holds Tryd.pinned (.plain (OpenSpec.upto blackPlaysSpec)) blackPlaysUptoCard

/-- THE SECOND FORM's CARD OF 'skerrylaw12.BlackAges'. -/
def blackAgesUptoCard : Claim7 := { stood := { row := blackAgesUptoRow, standIns := [], harness := (true, "e4e79656adf8b6100c30e53b9a5e6dfaa54cdb60bfd7c4c218b346de5a6ae0e4"), looks := false }, kinds := [], alts := [], laidByText := true, laidKinds := [.data], laidTests := true, laidLooks := .later }
def BlackAgesUptoCardSaid : Prop := Claim7.holds Tryd.pinned (.plain (OpenSpec.upto blackAgesSpec)) blackAgesUptoCard

/-- THE SECOND FORM's CARD OF 'skerrylaw12.BlackRoom'. -/
def blackRoomUptoCard : Claim7 := { stood := { row := blackRoomUptoRow, standIns := [], harness := (true, "e4e79656adf8b6100c30e53b9a5e6dfaa54cdb60bfd7c4c218b346de5a6ae0e4"), looks := false }, kinds := [], alts := [], laidByText := true, laidKinds := [.data], laidTests := true, laidLooks := .later }
def BlackRoomUptoCardSaid : Prop := Claim7.holds Tryd.pinned (.plain (OpenSpec.upto blackRoomSpec)) blackRoomUptoCard

/-- THE SECOND FORM's CARD OF 'skerrylaw12.BlackNil'. -/
def blackNilUptoCard : Claim7 := { stood := { row := blackNilUptoRow, standIns := [], harness := (true, "e4e79656adf8b6100c30e53b9a5e6dfaa54cdb60bfd7c4c218b346de5a6ae0e4"), looks := false }, kinds := [], alts := [], laidByText := true, laidKinds := [.data], laidTests := true, laidLooks := .later }
def BlackNilUptoCardSaid : Prop := Claim7.holds Tryd.pinned (.plain (OpenSpec.upto blackNilSpec)) blackNilUptoCard
end Rows
end Go.Proofs.YtijlaganpnoefaaDoor
