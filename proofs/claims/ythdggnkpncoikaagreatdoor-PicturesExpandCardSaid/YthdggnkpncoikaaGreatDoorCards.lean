/-
  DERIVED. GIVEN WITH THE SEED: THE CARDS: each row of YthdggnkpncoikaaGreatDoorRows.lean that lists a variable, with what it lists TIED to the program's text (the seventh form; the later family's looks); each row that meets fmt, with fmt's text TOLD by the authors' own Lean function (tested against real Go, not proved from fmt's source: count such statements apart). THE CARD IS WHAT COUNTS. Prove the row's statement (the work); the ties are given (YthdggnkpncoikaaGreatDoorTie.lean); close each card by the builder's one call (the guide's Derived/Test/ToyasCard.lean, 'card_holds'). Laid BY PROGRAM, IN A SANDBOX (cutbox-door.mjs). By AI agents, Wed Nov 11 2026. No macro, syntax, notation, axiom, sorry.
-/
import Derived.Test.YthdggnkpncoikaaGreatDoorRows
import GoSem.ClaimSeven
namespace Go.Proofs.YthdggnkpncoikaaGreatDoor
namespace Rows

/-- THE TIED CARD OF 'columnsevenlaw06.PicturesExpand'. -/
def picturesExpandCard : Claim7 := { stood := { row := picturesExpandRow, standIns := [], harness := (true, "40c28c49e4e15e3a5b80bec354dec8437d122c7b7f90b3cc9091b812b620e31d"), looks := true }, kinds := [], alts := [], laidByText := true, laidKinds := [.data, .data, .data, .sentinel, .sentinel, .data], laidTests := true, laidLooks := .later }
def PicturesExpandCardSaid : Prop := Claim7.holds Tryz.pinned (.plain (OpenSpec.ofChange picturesExpandSpec)) picturesExpandCard

/-- THE TIED CARD OF 'columnsevenlaw06.PicturesShape'. -/
def picturesShapeCard : Claim7 := { stood := { row := picturesShapeRow, standIns := [], harness := (true, "40c28c49e4e15e3a5b80bec354dec8437d122c7b7f90b3cc9091b812b620e31d"), looks := true }, kinds := [], alts := [], laidByText := true, laidKinds := [.data, .data, .data, .sentinel, .sentinel, .data], laidTests := true, laidLooks := .later }
def PicturesShapeCardSaid : Prop := Claim7.holds Tryz.pinned (.plain (OpenSpec.ofChange picturesShapeSpec)) picturesShapeCard

/-- THE TIED CARD OF 'columnsevenlaw06.PicturesShort'. -/
def picturesShortCard : Claim7 := { stood := { row := picturesShortRow, standIns := [], harness := (true, "40c28c49e4e15e3a5b80bec354dec8437d122c7b7f90b3cc9091b812b620e31d"), looks := true }, kinds := [], alts := [], laidByText := true, laidKinds := [.data, .data, .data, .sentinel, .sentinel, .data], laidTests := true, laidLooks := .later }
def PicturesShortCardSaid : Prop := Claim7.holds Tryz.pinned (.plain (OpenSpec.ofChange picturesShortSpec)) picturesShortCard

/-- THE TIED CARD OF 'columnsevenlaw06.PicturesSize'. -/
def picturesSizeCard : Claim7 := { stood := { row := picturesSizeRow, standIns := [], harness := (true, "40c28c49e4e15e3a5b80bec354dec8437d122c7b7f90b3cc9091b812b620e31d"), looks := true }, kinds := [], alts := [], laidByText := true, laidKinds := [.data, .data, .data, .sentinel, .sentinel, .data], laidTests := true, laidLooks := .later }
def PicturesSizeCardSaid : Prop := Claim7.holds Tryz.pinned (.plain (OpenSpec.ofChange picturesSizeSpec)) picturesSizeCard

/-- THE SECOND FORM's CARD OF 'columnsevenlaw06.PicturesExpand'. -/
def picturesExpandUptoCard : Claim7 := { stood := { row := picturesExpandUptoRow, standIns := [], harness := (true, "40c28c49e4e15e3a5b80bec354dec8437d122c7b7f90b3cc9091b812b620e31d"), looks := true }, kinds := [], alts := [], laidByText := true, laidKinds := [.data, .data, .data, .sentinel, .sentinel, .data], laidTests := true, laidLooks := .later }
def PicturesExpandUptoCardSaid : Prop := Claim7.holds Tryz.pinned (.plain (OpenSpec.upto picturesExpandSpec)) picturesExpandUptoCard

/-- THE SECOND FORM's CARD OF 'columnsevenlaw06.PicturesShape'. -/
def picturesShapeUptoCard : Claim7 := { stood := { row := picturesShapeUptoRow, standIns := [], harness := (true, "40c28c49e4e15e3a5b80bec354dec8437d122c7b7f90b3cc9091b812b620e31d"), looks := true }, kinds := [], alts := [], laidByText := true, laidKinds := [.data, .data, .data, .sentinel, .sentinel, .data], laidTests := true, laidLooks := .later }
def PicturesShapeUptoCardSaid : Prop := Claim7.holds Tryz.pinned (.plain (OpenSpec.upto picturesShapeSpec)) picturesShapeUptoCard

/-- THE SECOND FORM's CARD OF 'columnsevenlaw06.PicturesShort'. -/
def picturesShortUptoCard : Claim7 := { stood := { row := picturesShortUptoRow, standIns := [], harness := (true, "40c28c49e4e15e3a5b80bec354dec8437d122c7b7f90b3cc9091b812b620e31d"), looks := true }, kinds := [], alts := [], laidByText := true, laidKinds := [.data, .data, .data, .sentinel, .sentinel, .data], laidTests := true, laidLooks := .later }
def PicturesShortUptoCardSaid : Prop := Claim7.holds Tryz.pinned (.plain (OpenSpec.upto picturesShortSpec)) picturesShortUptoCard

/-- THE SECOND FORM's CARD OF 'columnsevenlaw06.PicturesSize'. -/
def picturesSizeUptoCard : Claim7 := { stood := { row := picturesSizeUptoRow, standIns := [], harness := (true, "40c28c49e4e15e3a5b80bec354dec8437d122c7b7f90b3cc9091b812b620e31d"), looks := true }, kinds := [], alts := [], laidByText := true, laidKinds := [.data, .data, .data, .sentinel, .sentinel, .data], laidTests := true, laidLooks := .later }
def PicturesSizeUptoCardSaid : Prop := Claim7.holds Tryz.pinned (.plain (OpenSpec.upto picturesSizeSpec)) picturesSizeUptoCard
end Rows
end Go.Proofs.YthdggnkpncoikaaGreatDoor
