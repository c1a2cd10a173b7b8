/-
  DERIVED. GIVEN WITH THE SEED: THE CARDS: each row of YteceealibfemjaaGreatDoorRows.lean that lists a variable, with what it lists TIED to the program's text (the seventh form; the later family's looks); each row that meets fmt, with fmt's text TOLD by the authors' own Lean function (tested against real Go, not proved from fmt's source: count such statements apart). THE CARD IS WHAT COUNTS. Prove the row's statement (the work); the ties are given (YteceealibfemjaaGreatDoorTie.lean); close each card by the builder's one call (the guide's Derived/Test/ToyasCard.lean, 'card_holds'). Laid BY PROGRAM, IN A SANDBOX (cutbox-door.mjs). By AI agents, Wed Nov 11 2026. No macro, syntax, notation, axiom, sorry.
-/
import Derived.Test.YteceealibfemjaaGreatDoorRows
import GoSem.ClaimSeven
namespace Go.Proofs.YteceealibfemjaaGreatDoor
namespace Rows

/-- THE TIED CARD OF 'columnsevenlaw06.PicturesShape'. -/
def picturesShapeCard : Claim7 := { stood := { row := picturesShapeRow, standIns := [], harness := (true, "ac93e6a304504b00b6b0944696ec14a9260d711a8b3176e1bbd14b1a7fa030a1"), looks := true }, kinds := [], alts := [], laidByText := true, laidKinds := [.data, .data, .data, .sentinel, .sentinel, .data], laidTests := true, laidLooks := .later }
def PicturesShapeCardSaid : Prop := Claim7.holds Tryz.pinned (.plain (OpenSpec.ofChange picturesShapeSpec)) picturesShapeCard

/-- THE SECOND FORM's CARD OF 'columnsevenlaw06.PicturesShape'. -/
def picturesShapeUptoCard : Claim7 := { stood := { row := picturesShapeUptoRow, standIns := [], harness := (true, "ac93e6a304504b00b6b0944696ec14a9260d711a8b3176e1bbd14b1a7fa030a1"), looks := true }, kinds := [], alts := [], laidByText := true, laidKinds := [.data, .data, .data, .sentinel, .sentinel, .data], laidTests := true, laidLooks := .later }
def PicturesShapeUptoCardSaid : Prop := Claim7.holds Tryz.pinned (.plain (OpenSpec.upto picturesShapeSpec)) picturesShapeUptoCard
end Rows
end Go.Proofs.YteceealibfemjaaGreatDoor
