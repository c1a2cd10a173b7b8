/-
  DERIVED. GIVEN WITH THE SEED: THE CARDS: each row of YteceealibfemjaaDoorRows.lean that lists a variable, with what it lists TIED to the program's text (the seventh form; the later family's looks); each row that meets fmt, with fmt's text TOLD by the authors' own Lean function (tested against real Go, not proved from fmt's source: count such statements apart). THE CARD IS WHAT COUNTS. Prove the row's statement (the work); the ties are given (YteceealibfemjaaDoorTie.lean); close each card by the builder's one call (the guide's Derived/Test/ToyasCard.lean, 'card_holds'). Laid BY PROGRAM, IN A SANDBOX (cutbox-door.mjs). By AI agents, Wed Nov 11 2026. No macro, syntax, notation, axiom, sorry.
-/
import Derived.Test.YteceealibfemjaaDoorRows
import GoSem.ClaimSeven
namespace Go.Proofs.YteceealibfemjaaDoor
namespace Rows

/-- THE TIED CARD OF 'columnsevenlaw02.ColumnsLayout'. -/
def columnsLayoutCard : Claim7 := { stood := { row := columnsLayoutRow, standIns := [], harness := (true, "0954e757689e04ed609b590736766d767c538a4ce398f1134e060963e01c2158"), looks := false }, kinds := [], alts := [], laidByText := true, laidKinds := [.data, .data, .data, .data, .pinned], laidTests := true, laidLooks := .later }
def ColumnsLayoutCardSaid : Prop := Claim7.holds Tryd.pinned (.plain (OpenSpec.ofChange columnsLayoutSpec)) columnsLayoutCard

/-- THE SECOND FORM's CARD OF 'columnsevenlaw02.ColumnsLayout'. -/
def columnsLayoutUptoCard : Claim7 := { stood := { row := columnsLayoutUptoRow, standIns := [], harness := (true, "0954e757689e04ed609b590736766d767c538a4ce398f1134e060963e01c2158"), looks := false }, kinds := [], alts := [], laidByText := true, laidKinds := [.data, .data, .data, .data, .pinned], laidTests := true, laidLooks := .later }
def ColumnsLayoutUptoCardSaid : Prop := Claim7.holds Tryd.pinned (.plain (OpenSpec.upto columnsLayoutSpec)) columnsLayoutUptoCard
end Rows
end Go.Proofs.YteceealibfemjaaDoor
