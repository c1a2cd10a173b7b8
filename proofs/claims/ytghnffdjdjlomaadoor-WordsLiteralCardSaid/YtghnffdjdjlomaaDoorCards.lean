/-
  DERIVED. GIVEN WITH THE SEED: THE CARDS: each row of YtghnffdjdjlomaaDoorRows.lean that lists a variable, with what it lists TIED to the program's text (the seventh form; the later family's looks); each row that meets fmt, with fmt's text TOLD by the authors' own Lean function (tested against real Go, not proved from fmt's source: count such statements apart). THE CARD IS WHAT COUNTS. Prove the row's statement (the work); the ties are given (YtghnffdjdjlomaaDoorTie.lean); close each card by the builder's one call (the guide's Derived/Test/ToyasCard.lean, 'card_holds'). Laid BY PROGRAM, IN A SANDBOX (cutbox-door.mjs). By AI agents, Wed Nov 11 2026. No macro, syntax, notation, axiom, sorry.
-/
import Derived.Test.YtghnffdjdjlomaaDoorRows
import GoSem.ClaimSeven
namespace Go.Proofs.YtghnffdjdjlomaaDoor
namespace Rows

/-- THE TIED CARD OF 'columnsevenlaw02.ColumnsLayout'. -/
def columnsLayoutCard : Claim7 := { stood := { row := columnsLayoutRow, standIns := [], harness := (true, "13a2f41a007597b820cc494c304b75d7ec10dce7a75806b02d297a2cb1ea5de8"), looks := false }, kinds := [], alts := [], laidByText := true, laidKinds := [.data, .data, .data, .data, .pinned], laidTests := true, laidLooks := .later }
def ColumnsLayoutCardSaid : Prop := Claim7.holds Tryd.pinned (.plain (OpenSpec.ofChange columnsLayoutSpec)) columnsLayoutCard

/-- THE TIED CARD OF 'columnsevenlaw05.WordsOf'. -/
def wordsOfCard : Claim7 := { stood := { row := wordsOfRow, standIns := [], harness := (true, "13a2f41a007597b820cc494c304b75d7ec10dce7a75806b02d297a2cb1ea5de8"), looks := false }, kinds := [], alts := [], laidByText := true, laidKinds := [.data, .listed, .data, .pinned], laidTests := true, laidLooks := .later }
def WordsOfCardSaid : Prop := Claim7.holds Tryd.pinned (.plain (OpenSpec.ofChange wordsOfSpec)) wordsOfCard

/-- THE TIED CARD OF 'columnsevenlaw05.WordsAll'. -/
def wordsAllCard : Claim7 := { stood := { row := wordsAllRow, standIns := [], harness := (true, "13a2f41a007597b820cc494c304b75d7ec10dce7a75806b02d297a2cb1ea5de8"), looks := false }, kinds := [], alts := [], laidByText := true, laidKinds := [.data, .listed, .data, .pinned], laidTests := true, laidLooks := .later }
def WordsAllCardSaid : Prop := Claim7.holds Tryd.pinned (.plain (OpenSpec.ofChange wordsAllSpec)) wordsAllCard

/-- THE TIED CARD OF 'columnsevenlaw05.WordsLiteral'. -/
def wordsLiteralCard : Claim7 := { stood := { row := wordsLiteralRow, standIns := [], harness := (true, "13a2f41a007597b820cc494c304b75d7ec10dce7a75806b02d297a2cb1ea5de8"), looks := false }, kinds := [], alts := [], laidByText := true, laidKinds := [.data, .listed, .data, .pinned], laidTests := true, laidLooks := .later }
def WordsLiteralCardSaid : Prop := Claim7.holds Tryd.pinned (.plain (OpenSpec.ofChange wordsLiteralSpec)) wordsLiteralCard

/-- THE TIED CARD OF 'columnsevenlaw05.WordsNumber'. -/
def wordsNumberCard : Claim7 := { stood := { row := wordsNumberRow, standIns := [], harness := (true, "13a2f41a007597b820cc494c304b75d7ec10dce7a75806b02d297a2cb1ea5de8"), looks := false }, kinds := [], alts := [], laidByText := true, laidKinds := [.data, .listed, .data, .pinned], laidTests := true, laidLooks := .later }
def WordsNumberCardSaid : Prop := Claim7.holds Tryd.pinned (.plain (OpenSpec.ofChange wordsNumberSpec)) wordsNumberCard

/-- THE TIED CARD OF 'columnsevenlaw05.WordsTokens'. -/
def wordsTokensCard : Claim7 := { stood := { row := wordsTokensRow, standIns := [], harness := (true, "13a2f41a007597b820cc494c304b75d7ec10dce7a75806b02d297a2cb1ea5de8"), looks := false }, kinds := [], alts := [], laidByText := true, laidKinds := [.data, .listed, .data, .pinned], laidTests := true, laidLooks := .later }
def WordsTokensCardSaid : Prop := Claim7.holds Tryd.pinned (.plain (OpenSpec.ofChange wordsTokensSpec)) wordsTokensCard

/-- THE SECOND FORM's CARD OF 'columnsevenlaw02.ColumnsLayout'. -/
def columnsLayoutUptoCard : Claim7 := { stood := { row := columnsLayoutUptoRow, standIns := [], harness := (true, "13a2f41a007597b820cc494c304b75d7ec10dce7a75806b02d297a2cb1ea5de8"), looks := false }, kinds := [], alts := [], laidByText := true, laidKinds := [.data, .data, .data, .data, .pinned], laidTests := true, laidLooks := .later }
def ColumnsLayoutUptoCardSaid : Prop := Claim7.holds Tryd.pinned (.plain (OpenSpec.upto columnsLayoutSpec)) columnsLayoutUptoCard

/-- THE SECOND FORM's CARD OF 'columnsevenlaw05.WordsOf'. -/
def wordsOfUptoCard : Claim7 := { stood := { row := wordsOfUptoRow, standIns := [], harness := (true, "13a2f41a007597b820cc494c304b75d7ec10dce7a75806b02d297a2cb1ea5de8"), looks := false }, kinds := [], alts := [], laidByText := true, laidKinds := [.data, .listed, .data, .pinned], laidTests := true, laidLooks := .later }
def WordsOfUptoCardSaid : Prop := Claim7.holds Tryd.pinned (.plain (OpenSpec.upto wordsOfSpec)) wordsOfUptoCard

/-- THE SECOND FORM's CARD OF 'columnsevenlaw05.WordsAll'. -/
def wordsAllUptoCard : Claim7 := { stood := { row := wordsAllUptoRow, standIns := [], harness := (true, "13a2f41a007597b820cc494c304b75d7ec10dce7a75806b02d297a2cb1ea5de8"), looks := false }, kinds := [], alts := [], laidByText := true, laidKinds := [.data, .listed, .data, .pinned], laidTests := true, laidLooks := .later }
def WordsAllUptoCardSaid : Prop := Claim7.holds Tryd.pinned (.plain (OpenSpec.upto wordsAllSpec)) wordsAllUptoCard

/-- THE SECOND FORM's CARD OF 'columnsevenlaw05.WordsLiteral'. -/
def wordsLiteralUptoCard : Claim7 := { stood := { row := wordsLiteralUptoRow, standIns := [], harness := (true, "13a2f41a007597b820cc494c304b75d7ec10dce7a75806b02d297a2cb1ea5de8"), looks := false }, kinds := [], alts := [], laidByText := true, laidKinds := [.data, .listed, .data, .pinned], laidTests := true, laidLooks := .later }
def WordsLiteralUptoCardSaid : Prop := Claim7.holds Tryd.pinned (.plain (OpenSpec.upto wordsLiteralSpec)) wordsLiteralUptoCard

/-- THE SECOND FORM's CARD OF 'columnsevenlaw05.WordsNumber'. -/
def wordsNumberUptoCard : Claim7 := { stood := { row := wordsNumberUptoRow, standIns := [], harness := (true, "13a2f41a007597b820cc494c304b75d7ec10dce7a75806b02d297a2cb1ea5de8"), looks := false }, kinds := [], alts := [], laidByText := true, laidKinds := [.data, .listed, .data, .pinned], laidTests := true, laidLooks := .later }
def WordsNumberUptoCardSaid : Prop := Claim7.holds Tryd.pinned (.plain (OpenSpec.upto wordsNumberSpec)) wordsNumberUptoCard

/-- THE SECOND FORM's CARD OF 'columnsevenlaw05.WordsTokens'. -/
def wordsTokensUptoCard : Claim7 := { stood := { row := wordsTokensUptoRow, standIns := [], harness := (true, "13a2f41a007597b820cc494c304b75d7ec10dce7a75806b02d297a2cb1ea5de8"), looks := false }, kinds := [], alts := [], laidByText := true, laidKinds := [.data, .listed, .data, .pinned], laidTests := true, laidLooks := .later }
def WordsTokensUptoCardSaid : Prop := Claim7.holds Tryd.pinned (.plain (OpenSpec.upto wordsTokensSpec)) wordsTokensUptoCard
end Rows
end Go.Proofs.YtghnffdjdjlomaaDoor
