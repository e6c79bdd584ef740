/-
  DERIVED. GIVEN WITH THE SEED: THE CARDS: each row of YtoagghileebokaaGreatDoorRows.lean that lists a variable, with what it lists TIED to the program's text (the seventh form; the later family's looks); each row that meets fmt, with fmt's text TOLD by the authors' own Lean function (tested against real Go, not proved from fmt's source: count such statements apart). THE CARD IS WHAT COUNTS. Prove the row's statement (the work); the ties are given (YtoagghileebokaaGreatDoorTie.lean); close each card by the builder's one call (the guide's Derived/Test/ToyasCard.lean, 'card_holds'). Laid BY PROGRAM, IN A SANDBOX (cutbox-door.mjs). By AI agents, Wed Nov 11 2026. No macro, syntax, notation, axiom, sorry.
-/
import Derived.Test.YtoagghileebokaaGreatDoorRows
import GoSem.ClaimSeven
namespace Go.Proofs.YtoagghileebokaaGreatDoor
namespace Rows

/-- THE TIED CARD OF 'skerrylaw13.FitPlaces'. -/
def fitPlacesCard : Claim7 := { stood := { row := fitPlacesRow, standIns := [], harness := (true, "9ad50fffc6d2829f4ce8974793b7415a8ef853be7bb2b58016a63db7cf65ebba"), looks := false }, kinds := [], alts := [], laidByText := true, laidKinds := [.data, .data], laidTests := true, laidLooks := .later }
def FitPlacesCardSaid : Prop := Claim7.holds Tryz.pinned (.plain (OpenSpec.ofChange fitPlacesSpec)) fitPlacesCard

/-- THE TIED CARD OF 'skerrylaw13.FitMost'. -/
def fitMostCard : Claim7 := { stood := { row := fitMostRow, standIns := [], harness := (true, "9ad50fffc6d2829f4ce8974793b7415a8ef853be7bb2b58016a63db7cf65ebba"), looks := false }, kinds := [], alts := [], laidByText := true, laidKinds := [.data, .data], laidTests := true, laidLooks := .later }
def FitMostCardSaid : Prop := Claim7.holds Tryz.pinned (.plain (OpenSpec.ofChange fitMostSpec)) fitMostCard

/-- THE TIED CARD OF 'skerrylaw13.FitNil'. -/
def fitNilCard : Claim7 := { stood := { row := fitNilRow, standIns := [], harness := (true, "9ad50fffc6d2829f4ce8974793b7415a8ef853be7bb2b58016a63db7cf65ebba"), looks := false }, kinds := [], alts := [], laidByText := true, laidKinds := [.data, .data], laidTests := true, laidLooks := .later }
def FitNilCardSaid : Prop := Claim7.holds Tryz.pinned (.plain (OpenSpec.ofChange fitNilSpec)) fitNilCard

/-- THE SECOND FORM's CARD OF 'skerrylaw13.FitPlaces'. -/
def fitPlacesUptoCard : Claim7 := { stood := { row := fitPlacesUptoRow, standIns := [], harness := (true, "9ad50fffc6d2829f4ce8974793b7415a8ef853be7bb2b58016a63db7cf65ebba"), looks := false }, kinds := [], alts := [], laidByText := true, laidKinds := [.data, .data], laidTests := true, laidLooks := .later }
def FitPlacesUptoCardSaid : Prop := Claim7.holds Tryz.pinned (.plain (OpenSpec.upto fitPlacesSpec)) fitPlacesUptoCard

/-- THE SECOND FORM's CARD OF 'skerrylaw13.FitMost'. -/
def fitMostUptoCard : Claim7 := { stood := { row := fitMostUptoRow, standIns := [], harness := (true, "9ad50fffc6d2829f4ce8974793b7415a8ef853be7bb2b58016a63db7cf65ebba"), looks := false }, kinds := [], alts := [], laidByText := true, laidKinds := [.data, .data], laidTests := true, laidLooks := .later }
def FitMostUptoCardSaid : Prop := Claim7.holds Tryz.pinned (.plain (OpenSpec.upto fitMostSpec)) fitMostUptoCard

/-- THE SECOND FORM's CARD OF 'skerrylaw13.FitNil'. -/
def fitNilUptoCard : Claim7 := { stood := { row := fitNilUptoRow, standIns := [], harness := (true, "9ad50fffc6d2829f4ce8974793b7415a8ef853be7bb2b58016a63db7cf65ebba"), looks := false }, kinds := [], alts := [], laidByText := true, laidKinds := [.data, .data], laidTests := true, laidLooks := .later }
def FitNilUptoCardSaid : Prop := Claim7.holds Tryz.pinned (.plain (OpenSpec.upto fitNilSpec)) fitNilUptoCard
end Rows
end Go.Proofs.YtoagghileebokaaGreatDoor
