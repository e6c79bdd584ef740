/-
  DERIVED. GIVEN WITH THE SEED: THE CARDS: each row of YtpnjblledbihcaaDoorRows.lean that lists a variable, with what it lists TIED to the program's text (the seventh form; the later family's looks); each row that meets fmt, with fmt's text TOLD by the authors' own Lean function (tested against real Go, not proved from fmt's source: count such statements apart). THE CARD IS WHAT COUNTS. Prove the row's statement (the work); the ties are given (YtpnjblledbihcaaDoorTie.lean); close each card by the builder's one call (the guide's Derived/Test/ToyasCard.lean, 'card_holds'). Laid BY PROGRAM, IN A SANDBOX (cutbox-door.mjs). By AI agents, Wed Nov 11 2026. No macro, syntax, notation, axiom, sorry.
-/
import Derived.Test.YtpnjblledbihcaaDoorRows
import GoSem.ClaimSeven
namespace Go.Proofs.YtpnjblledbihcaaDoor
namespace Rows

/-- THE TIED CARD OF 'skerrylaw08.ShapeAddrs'. -/
def shapeAddrsCard : Claim7 := { stood := { row := shapeAddrsRow, standIns := [], harness := (true, "cc547903b267b33b35e75d3b2bb0110e34c8aa1578c25467f13ece826443f6ce"), looks := false }, kinds := [], alts := [], laidByText := true, laidKinds := [.data], laidTests := true, laidLooks := .later }
def ShapeAddrsCardSaid : Prop := Claim7.holds Tryd.pinned (.plain (OpenSpec.ofChange shapeAddrsSpec)) shapeAddrsCard

/-- THE TIED CARD OF 'skerrylaw08.ShapeTells'. -/
def shapeTellsCard : Claim7 := { stood := { row := shapeTellsRow, standIns := [], harness := (true, "cc547903b267b33b35e75d3b2bb0110e34c8aa1578c25467f13ece826443f6ce"), looks := false }, kinds := [], alts := [], laidByText := true, laidKinds := [.data], laidTests := true, laidLooks := .later }
def ShapeTellsCardSaid : Prop := Claim7.holds Tryd.pinned (.plain (OpenSpec.ofChange shapeTellsSpec)) shapeTellsCard

/-- THE TIED CARD OF 'skerrylaw08.ShapeMakes'. -/
def shapeMakesCard : Claim7 := { stood := { row := shapeMakesRow, standIns := [], harness := (true, "cc547903b267b33b35e75d3b2bb0110e34c8aa1578c25467f13ece826443f6ce"), looks := false }, kinds := [], alts := [], laidByText := true, laidKinds := [.data], laidTests := true, laidLooks := .later }
def ShapeMakesCardSaid : Prop := Claim7.holds Tryd.pinned (.plain (OpenSpec.ofChange shapeMakesSpec)) shapeMakesCard

/-- THE TIED CARD OF 'skerrylaw08.ShapeKeeps'. -/
def shapeKeepsCard : Claim7 := { stood := { row := shapeKeepsRow, standIns := [], harness := (true, "cc547903b267b33b35e75d3b2bb0110e34c8aa1578c25467f13ece826443f6ce"), looks := false }, kinds := [], alts := [], laidByText := true, laidKinds := [.data], laidTests := true, laidLooks := .later }
def ShapeKeepsCardSaid : Prop := Claim7.holds Tryd.pinned (.plain (OpenSpec.ofChange shapeKeepsSpec)) shapeKeepsCard

/-- THE SECOND FORM's CARD OF 'skerrylaw08.ShapeAddrs'. -/
def shapeAddrsUptoCard : Claim7 := { stood := { row := shapeAddrsUptoRow, standIns := [], harness := (true, "cc547903b267b33b35e75d3b2bb0110e34c8aa1578c25467f13ece826443f6ce"), looks := false }, kinds := [], alts := [], laidByText := true, laidKinds := [.data], laidTests := true, laidLooks := .later }
def ShapeAddrsUptoCardSaid : Prop := Claim7.holds Tryd.pinned (.plain (OpenSpec.upto shapeAddrsSpec)) shapeAddrsUptoCard

/-- THE SECOND FORM's CARD OF 'skerrylaw08.ShapeTells'. -/
def shapeTellsUptoCard : Claim7 := { stood := { row := shapeTellsUptoRow, standIns := [], harness := (true, "cc547903b267b33b35e75d3b2bb0110e34c8aa1578c25467f13ece826443f6ce"), looks := false }, kinds := [], alts := [], laidByText := true, laidKinds := [.data], laidTests := true, laidLooks := .later }
def ShapeTellsUptoCardSaid : Prop := Claim7.holds Tryd.pinned (.plain (OpenSpec.upto shapeTellsSpec)) shapeTellsUptoCard

/-- THE SECOND FORM's CARD OF 'skerrylaw08.ShapeMakes'. -/
def shapeMakesUptoCard : Claim7 := { stood := { row := shapeMakesUptoRow, standIns := [], harness := (true, "cc547903b267b33b35e75d3b2bb0110e34c8aa1578c25467f13ece826443f6ce"), looks := false }, kinds := [], alts := [], laidByText := true, laidKinds := [.data], laidTests := true, laidLooks := .later }
def ShapeMakesUptoCardSaid : Prop := Claim7.holds Tryd.pinned (.plain (OpenSpec.upto shapeMakesSpec)) shapeMakesUptoCard

/-- THE SECOND FORM's CARD OF 'skerrylaw08.ShapeKeeps'. -/
def shapeKeepsUptoCard : Claim7 := { stood := { row := shapeKeepsUptoRow, standIns := [], harness := (true, "cc547903b267b33b35e75d3b2bb0110e34c8aa1578c25467f13ece826443f6ce"), looks := false }, kinds := [], alts := [], laidByText := true, laidKinds := [.data], laidTests := true, laidLooks := .later }
def ShapeKeepsUptoCardSaid : Prop := Claim7.holds Tryd.pinned (.plain (OpenSpec.upto shapeKeepsSpec)) shapeKeepsUptoCard
end Rows
end Go.Proofs.YtpnjblledbihcaaDoor
