package tokens_test

import (
	"reflect"
	"strings"
	"testing"

	"columnseven/api"
	"columnseven/columns"
	"columnseven/tokens"
)

// P3.1: positions, and Source

func token(kind api.Kind, text string, line, column int, left bool) api.Token {
	return api.Token{Kind: kind, Text: text, At: api.Pos{Line: line, Column: column}, Left: left}
}

// checkAll fails unless a source text has these tokens, none of which is a period or a pseudo-text.
func checkAll(t *testing.T, text string, debug bool, want ...api.Token) {
	t.Helper()
	got, f := tokens.Source(text, debug)
	if !reflect.DeepEqual(got, want) || f != (api.Fault{}) {
		t.Errorf("%q: %v, %v, wanted %v", text, got, f, want)
	}
	checkNew(t, text, got)
}

func TestSourcePositions(t *testing.T) {
	checkAll(t, source("", line("*", 8, "NOTE"), line(" ", 8, "FD  F A"), line(" ", 12, `"x" -1 (`)), false,
		token(api.Word, "FD", 3, 8, true), token(api.Word, "F", 3, 12, false), token(api.Word, "A", 3, 14, false),
		token(api.Quote, "x", 4, 12, false), token(api.Number, "-1", 4, 16, false), token(api.Sign, "(", 4, 19, false))
	checkAll(t, source(line(" ", 8, "A B"), line(" ", 9, "C D E"), line(" ", 11, "(1"), line(" ", 10, "PIC"), line(" ", 11, "X, Y")), false,
		token(api.Word, "A", 1, 8, true), token(api.Word, "B", 1, 10, true),
		token(api.Word, "C", 2, 9, true), token(api.Word, "D", 2, 11, true), token(api.Word, "E", 2, 13, false),
		token(api.Sign, "(", 3, 11, true), token(api.Number, "1", 3, 12, false),
		token(api.Word, "PIC", 4, 10, true), token(api.Picture, "X", 5, 11, true), token(api.Word, "Y", 5, 14, false))
	checkAll(t, line(" ", 72, "ABC"), false, token(api.Word, "A", 1, 72, false))
	checkAll(t, line(" ", 11, ", A"), false, token(api.Word, "A", 1, 13, false))
}

// A token stands where its first character does, also if it goes on in other lines.
func TestSourceContinuations(t *testing.T) {
	checkAll(t, source(line(" ", 8, "PERF"), line("*", 12, "NOTE"), line("-", 20, "ORM P"), line("-", 14, "-1, 12"), line("-", 12, "-B (")), false,
		token(api.Word, "PERFORM", 1, 8, true), token(api.Word, "P-1", 3, 24, false), token(api.Word, "12-B", 4, 18, false), token(api.Sign, "(", 5, 15, false))
	checkAll(t, source(line(" ", 12, `MOVE "ab`), line("-", 12, `"cd""`), line("-", 15, `"" TO X`)), false,
		token(api.Word, "MOVE", 1, 12, false), token(api.Quote, "ab"+spaces(53)+"cd\""+spaces(56), 1, 17, false), token(api.Word, "TO", 3, 18, false), token(api.Word, "X", 3, 21, false))
	checkAll(t, source(line(" ", 72, "*"), line("-", 72, "*"), line("-", 70, "<=")), false,
		token(api.Sign, "**", 1, 72, false), token(api.Sign, "<=", 3, 70, false))
	checkAll(t, source(line(" ", 12, "1"), line("-", 12, ".5 PIC"), line("-", 13, "TURE i"), line("-", 14, "S 9"), line("-", 15, "9")), false,
		token(api.Number, "1.5", 1, 12, false), token(api.Word, "PICTURE", 2, 15, false), token(api.Word, "IS", 3, 18, false), token(api.Picture, "99", 4, 16, false))
	// The next line is not separated from the one that it continues.
	checkAll(t, source(line(" ", 12, ")"), line("-", 12, "-1")), false,
		token(api.Sign, ")", 1, 12, false), token(api.Sign, "-", 2, 12, false), token(api.Number, "1", 2, 13, false))
	checkAll(t, source(line(" ", 12, ")"), line(" ", 12, "-1")), false, token(api.Sign, ")", 1, 12, false), token(api.Number, "-1", 2, 12, false))
}

// No token reaches into another card.
func TestSourceCardsAreApart(t *testing.T) {
	checkAll(t, source(line(" ", 12, "A"), line(" ", 12, "B"), line(" ", 12, "1"), line(" ", 12, "2"), line(" ", 12, "*"), line(" ", 12, "*"), line(" ", 12, "="), line(" ", 12, "=")), false,
		token(api.Word, "A", 1, 12, false), token(api.Word, "B", 2, 12, false), token(api.Number, "1", 3, 12, false), token(api.Number, "2", 4, 12, false),
		token(api.Sign, "*", 5, 12, false), token(api.Sign, "*", 6, 12, false), token(api.Sign, "=", 7, 12, false), token(api.Sign, "=", 8, 12, false))
}

func TestSourceDebuggingLines(t *testing.T) {
	text := source(line(" ", 12, "A"), line("D", 12, "B"), line("d", 9, "C"))
	checkAll(t, text, false, token(api.Word, "A", 1, 12, false))
	checkAll(t, text, true, token(api.Word, "A", 1, 12, false), token(api.Word, "B", 2, 12, false), token(api.Word, "C", 3, 9, true))
}

// Only the marks of a card tell where its tokens stand.
func TestScanPositions(t *testing.T) {
	marks := []columns.Mark{{From: 0, At: api.Pos{Line: 9, Column: 70}}, {From: 2, At: api.Pos{Line: 3, Column: 8}}, {From: 3, At: api.Pos{Line: 3, Column: 8}}, {From: 7, At: api.Pos{Line: 5, Column: 11}}}
	for _, left := range []bool{false, true} {
		got, f := tokens.Scan([]columns.Card{{Left: left, Text: "A B C D E", Marks: marks}, card(7, 8, "F"), {Left: left, Text: " (:", Marks: marks[:1]}})
		want := []api.Token{
			token(api.Word, "A", 9, 70, false), token(api.Word, "B", 3, 8, true), token(api.Word, "C", 3, 9, true), token(api.Word, "D", 3, 11, true), token(api.Word, "E", 5, 12, false),
			token(api.Word, "F", 7, 8, true), token(api.Sign, "(", 9, 71, false), token(api.Sign, ":", 9, 72, false)}
		if !reflect.DeepEqual(got, want) || f != (api.Fault{}) {
			t.Errorf("Left %t: %v, %v, wanted %v", left, got, f, want)
		}
	}
}

// A card may have as many marks as its text has characters.
func TestScanManyMarks(t *testing.T) {
	many := columns.Card{Text: strings.Repeat("(", api.MaxTokens)}
	for i := range api.MaxTokens {
		many.Marks = append(many.Marks, columns.Mark{From: i, At: api.Pos{Line: i + 1, Column: areaA + i%65}})
	}
	got, f := tokens.Scan([]columns.Card{many})
	if len(got) != api.MaxTokens || f != (api.Fault{}) {
		t.Fatalf("%d tokens, %v", len(got), f)
	}
	for i, found := range got {
		if found != token(api.Sign, "(", i+1, areaA+i%65, areaA+i%65 < areaB) {
			t.Fatalf("token %d: %v", i, found)
		}
	}
}
