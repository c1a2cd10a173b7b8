/-
  DERIVED. GIVEN WITH THE SEED: THE CARDS: each row of YthdggnkpncoikaaDoorRows.lean that lists a variable, with what it lists TIED to the program's text (the seventh form; the later family's looks); each row that meets fmt, with fmt's text TOLD by the authors' own Lean function (tested against real Go, not proved from fmt's source: count such statements apart). THE CARD IS WHAT COUNTS. Prove the row's statement (the work); the ties are given (YthdggnkpncoikaaDoorTie.lean); close each card by the builder's one call (the guide's Derived/Test/ToyasCard.lean, 'card_holds'). Laid BY PROGRAM, IN A SANDBOX (cutbox-door.mjs). By AI agents, Wed Nov 11 2026. No macro, syntax, notation, axiom, sorry.
-/
import Derived.Test.YthdggnkpncoikaaDoorRows
import GoSem.ClaimSeven
namespace Go.Proofs.YthdggnkpncoikaaDoor
namespace Rows

/-- THE TIED CARD OF 'columnsevenlaw02.ColumnsLayout'. -/
def columnsLayoutCard : Claim7 := { stood := { row := columnsLayoutRow, standIns := [], harness := (true, "5047781eefb4790c50251c69291a2b149f9dc6556fb68e18d15e57e49a82c2fe"), looks := false }, kinds := [], alts := [], laidByText := true, laidKinds := [.data, .data, .data, .data, .pinned], laidTests := true, laidLooks := .later }
def ColumnsLayoutCardSaid : Prop := Claim7.holds Tryd.pinned (.plain (OpenSpec.ofChange columnsLayoutSpec)) columnsLayoutCard

/-- THE TIED CARD OF 'columnsevenlaw05.WordsAll'. -/
def wordsAllCard : Claim7 := { stood := { row := wordsAllRow, standIns := [], harness := (true, "5047781eefb4790c50251c69291a2b149f9dc6556fb68e18d15e57e49a82c2fe"), looks := false }, kinds := [], alts := [], laidByText := true, laidKinds := [.data, .listed, .data, .pinned], laidTests := true, laidLooks := .later }
def WordsAllCardSaid : Prop := Claim7.holds Tryd.pinned (.plain (OpenSpec.ofChange wordsAllSpec)) wordsAllCard

/-- THE TIED CARD OF 'columnsevenlaw05.WordsValue'. -/
def wordsValueCard : Claim7 := { stood := { row := wordsValueRow, standIns := [], harness := (true, "5047781eefb4790c50251c69291a2b149f9dc6556fb68e18d15e57e49a82c2fe"), looks := false }, kinds := [], alts := [], laidByText := true, laidKinds := [.data, .listed, .data, .pinned], laidTests := true, laidLooks := .later }
def WordsValueCardSaid : Prop := Claim7.holds Tryd.pinned (.plain (OpenSpec.ofChange wordsValueSpec)) wordsValueCard

/-- THE SECOND FORM's CARD OF 'columnsevenlaw02.ColumnsLayout'. -/
def columnsLayoutUptoCard : Claim7 := { stood := { row := columnsLayoutUptoRow, standIns := [], harness := (true, "5047781eefb4790c50251c69291a2b149f9dc6556fb68e18d15e57e49a82c2fe"), looks := false }, kinds := [], alts := [], laidByText := true, laidKinds := [.data, .data, .data, .data, .pinned], laidTests := true, laidLooks := .later }
def ColumnsLayoutUptoCardSaid : Prop := Claim7.holds Tryd.pinned (.plain (OpenSpec.upto columnsLayoutSpec)) columnsLayoutUptoCard

/-- THE SECOND FORM's CARD OF 'columnsevenlaw05.WordsAll'. -/
def wordsAllUptoCard : Claim7 := { stood := { row := wordsAllUptoRow, standIns := [], harness := (true, "5047781eefb4790c50251c69291a2b149f9dc6556fb68e18d15e57e49a82c2fe"), looks := false }, kinds := [], alts := [], laidByText := true, laidKinds := [.data, .listed, .data, .pinned], laidTests := true, laidLooks := .later }
def WordsAllUptoCardSaid : Prop := Claim7.holds Tryd.pinned (.plain (OpenSpec.upto wordsAllSpec)) wordsAllUptoCard

/-- THE SECOND FORM's CARD OF 'columnsevenlaw05.WordsValue'. -/
def wordsValueUptoCard : Claim7 := { stood := { row := wordsValueUptoRow, standIns := [], harness := (true, "5047781eefb4790c50251c69291a2b149f9dc6556fb68e18d15e57e49a82c2fe"), looks := false }, kinds := [], alts := [], laidByText := true, laidKinds := [.data, .listed, .data, .pinned], laidTests := true, laidLooks := .later }
def WordsValueUptoCardSaid : Prop := Claim7.holds Tryd.pinned (.plain (OpenSpec.upto wordsValueSpec)) wordsValueUptoCard
end Rows
end Go.Proofs.YthdggnkpncoikaaDoor
