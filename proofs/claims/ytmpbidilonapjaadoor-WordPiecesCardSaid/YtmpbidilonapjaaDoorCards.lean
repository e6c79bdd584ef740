/-
  DERIVED. GIVEN WITH THE SEED: THE CARDS: each row of YtmpbidilonapjaaDoorRows.lean that lists a variable, with what it lists TIED to the program's text (the seventh form; the later family's looks); each row that meets fmt, with fmt's text TOLD by the authors' own Lean function (tested against real Go, not proved from fmt's source: count such statements apart). THE CARD IS WHAT COUNTS. Prove the row's statement (the work); the ties are given (YtmpbidilonapjaaDoorTie.lean); close each card by the builder's one call (the guide's Derived/Test/ToyasCard.lean, 'card_holds'). Laid BY PROGRAM, IN A SANDBOX (cutbox-door.mjs). By AI agents, Wed Nov 11 2026. No macro, syntax, notation, axiom, sorry.
-/
import Derived.Test.YtmpbidilonapjaaDoorRows
import GoSem.ClaimSeven
namespace Go.Proofs.YtmpbidilonapjaaDoor
namespace Rows

/-- THE TIED CARD OF 'skerrylaw01.WordNumbers'. -/
def wordNumbersCard : Claim7 := { stood := { row := wordNumbersRow, standIns := [], harness := (true, "446dac0697964ee94f823e35327f9911e708e99563eb86868374779987e0814c"), looks := false }, kinds := [], alts := [], laidByText := true, laidKinds := [.data], laidTests := true, laidLooks := .later }
def WordNumbersCardSaid : Prop := Claim7.holds Tryd.pinned (.plain (OpenSpec.ofChange wordNumbersSpec)) wordNumbersCard

/-- THE TIED CARD OF 'skerrylaw01.WordPieces'. -/
def wordPiecesCard : Claim7 := { stood := { row := wordPiecesRow, standIns := [], harness := (true, "446dac0697964ee94f823e35327f9911e708e99563eb86868374779987e0814c"), looks := false }, kinds := [], alts := [], laidByText := true, laidKinds := [.data], laidTests := true, laidLooks := .later }
def WordPiecesCardSaid : Prop := Claim7.holds Tryd.pinned (.plain (OpenSpec.ofChange wordPiecesSpec)) wordPiecesCard

/-- THE TIED CARD OF 'skerrylaw01.WordBack'. -/
def wordBackCard : Claim7 := { stood := { row := wordBackRow, standIns := [], harness := (true, "446dac0697964ee94f823e35327f9911e708e99563eb86868374779987e0814c"), looks := false }, kinds := [], alts := [], laidByText := true, laidKinds := [.data], laidTests := true, laidLooks := .later }
def WordBackCardSaid : Prop := Claim7.holds Tryd.pinned (.plain (OpenSpec.ofChange wordBackSpec)) wordBackCard

/-- THE TIED CARD OF 'skerrylaw01.WordLaid'. -/
def wordLaidCard : Claim7 := { stood := { row := wordLaidRow, standIns := [], harness := (true, "446dac0697964ee94f823e35327f9911e708e99563eb86868374779987e0814c"), looks := false }, kinds := [], alts := [], laidByText := true, laidKinds := [.data], laidTests := true, laidLooks := .later }
def WordLaidCardSaid : Prop := Claim7.holds Tryd.pinned (.plain (OpenSpec.ofChange wordLaidSpec)) wordLaidCard

/-- THE SECOND FORM's CARD OF 'skerrylaw01.WordNumbers'. -/
def wordNumbersUptoCard : Claim7 := { stood := { row := wordNumbersUptoRow, standIns := [], harness := (true, "446dac0697964ee94f823e35327f9911e708e99563eb86868374779987e0814c"), looks := false }, kinds := [], alts := [], laidByText := true, laidKinds := [.data], laidTests := true, laidLooks := .later }
def WordNumbersUptoCardSaid : Prop := Claim7.holds Tryd.pinned (.plain (OpenSpec.upto wordNumbersSpec)) wordNumbersUptoCard

/-- THE SECOND FORM's CARD OF 'skerrylaw01.WordPieces'. -/
def wordPiecesUptoCard : Claim7 := { stood := { row := wordPiecesUptoRow, standIns := [], harness := (true, "446dac0697964ee94f823e35327f9911e708e99563eb86868374779987e0814c"), looks := false }, kinds := [], alts := [], laidByText := true, laidKinds := [.data], laidTests := true, laidLooks := .later }
def WordPiecesUptoCardSaid : Prop := Claim7.holds Tryd.pinned (.plain (OpenSpec.upto wordPiecesSpec)) wordPiecesUptoCard

/-- THE SECOND FORM's CARD OF 'skerrylaw01.WordBack'. -/
def wordBackUptoCard : Claim7 := { stood := { row := wordBackUptoRow, standIns := [], harness := (true, "446dac0697964ee94f823e35327f9911e708e99563eb86868374779987e0814c"), looks := false }, kinds := [], alts := [], laidByText := true, laidKinds := [.data], laidTests := true, laidLooks := .later }
def WordBackUptoCardSaid : Prop := Claim7.holds Tryd.pinned (.plain (OpenSpec.upto wordBackSpec)) wordBackUptoCard

/-- THE SECOND FORM's CARD OF 'skerrylaw01.WordLaid'. -/
def wordLaidUptoCard : Claim7 := { stood := { row := wordLaidUptoRow, standIns := [], harness := (true, "446dac0697964ee94f823e35327f9911e708e99563eb86868374779987e0814c"), looks := false }, kinds := [], alts := [], laidByText := true, laidKinds := [.data], laidTests := true, laidLooks := .later }
def WordLaidUptoCardSaid : Prop := Claim7.holds Tryd.pinned (.plain (OpenSpec.upto wordLaidSpec)) wordLaidUptoCard
end Rows
end Go.Proofs.YtmpbidilonapjaaDoor
