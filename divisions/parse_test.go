package divisions_test

import (
	"reflect"
	"slices"
	"strings"
	"testing"

	"columnseven/api"
	"columnseven/divisions"
	"columnseven/tokens"
)

// P8.1: divisions, and the sections of the data division

const example = `IDENTIFICATION DIVISION. PROGRAM-ID. P1.
ENVIRONMENT DIVISION. INPUT-OUTPUT SECTION. FILE-CONTROL.
    SELECT F ASSIGN TO "F1" ORGANIZATION IS INDEXED
        RECORD KEY IS K OF R.
DATA DIVISION. FILE SECTION. FD F. 01 R. 05 K PIC X.
WORKING-STORAGE SECTION. 77 N PIC 9.
PROCEDURE DIVISION USING N.
    START-UP.
MAIN SECTION.
A.
    MOVE 1 TO N.
B.
`

func TestExample(t *testing.T) {
	checkProgram(t, example,
		`file 3:19 F "F1" organization 2 access 0 key K R`,
		"- 01 R .",
		"- 05 K PIC X .",
		"working 77 N PIC 9 .",
		"using N",
		"paragraph 8:12 /: START-UP .",
		"paragraph 10:8 MAIN/A: MOVE 1 TO N .",
		"paragraph 12:8 MAIN/B:")
	p := parsed(t, example)
	if first, last, e := divisions.Range(p, "MAIN", ""); first != 1 || last != 2 || e != api.OK {
		t.Error(first, last, e)
	}
	if list := divisions.Records(p); len(list) != 3 || list[0].Name != "R" || list[1].Name != "K" || list[2].Name != "N" {
		t.Error(list)
	}
	if at := p.Files[0].Records[1].At; at != (api.Pos{Line: 5, Column: 49}) {
		t.Error(at)
	}
}

// The same text as a source text, whose lines have all columns.
func TestExampleAsSource(t *testing.T) {
	source := ""
	for line := range strings.Lines(example) {
		source += "000100 " + line
	}
	l, fault := tokens.Source(source, false)
	if fault != (api.Fault{}) {
		t.Fatal(fault)
	}
	p, fault := divisions.Parse(l)
	if fault != (api.Fault{}) || !reflect.DeepEqual(p, parsed(t, example)) {
		t.Error(show(p), fault)
	}
}

// Each division, each section and each of their parts may be missing.
func TestPartsThatMayBeMissing(t *testing.T) {
	parts := map[string][]string{
		"environment": {"ENVIRONMENT DIVISION ."},
		"files":       {"INPUT-OUTPUT SECTION . FILE-CONTROL ."},
		"select":      {`SELECT F ASSIGN "X" .`, `file 3:15 F "X" organization 0 access 0`},
		"data":        {"DATA DIVISION ."},
		"file":        {"FILE SECTION ."},
		"fd":          {"FD F ."},
		"working":     {"WORKING-STORAGE SECTION ."},
		"w":           {"77 A PIC 9 .", "working 77 A PIC 9 ."},
		"linkage":     {"LINKAGE SECTION ."},
		"l":           {"01 B PIC X .", "linkage 01 B PIC X ."},
		"report":      {"REPORT SECTION ."},
		"r":           {"RD C .", "reports RD C ."},
		"screen":      {"SCREEN SECTION ."},
		"s":           {"01 D .", "screens 01 D ."},
		"procedure":   {"PROCEDURE DIVISION"},
		"using":       {"USING B", "using B"},
		"period":      {"."},
	}
	numbers := 0
	for _, form := range []string{
		"[environment [files]] [data [file] [working [w]] [linkage [l]] [report [r]] [screen [s]]] procedure [using] period",
		"environment files select data file fd [working [w]] [linkage [l]] [report [r]] [screen [s]] procedure [using] period",
	} {
		for _, list := range forms(form) {
			text, want := head, []string(nil)
			for _, part := range strings.Fields(list) {
				text += parts[part][0] + " "
				if part == "files" {
					text += "\n" // so that it is known where the SELECT stands
				}
				want = append(want, parts[part][1:]...)
			}
			checkProgram(t, text, want...)
			numbers++
		}
	}
	if numbers != 3*(1+2*3*3*3*3)*2+3*3*3*3*2 {
		t.Error(numbers)
	}
}

func TestNames(t *testing.T) {
	for _, name := range []string{"P1", "A", "1A", "A-B-C", "PROGRAM-IDS", "MOVES", strings.Repeat("X", 30)} {
		text := "IDENTIFICATION DIVISION. PROGRAM-ID. " + name + ". PROCEDURE DIVISION."
		if p := parsed(t, text); p.Name != name {
			t.Error(p.Name, name)
		}
	}
}

// Nothing in front of the procedures depends on area A.
func TestAreasInFrontOfTheProcedures(t *testing.T) {
	l := scan(`IDENTIFICATION DIVISION. PROGRAM-ID. P1.
ENVIRONMENT DIVISION. INPUT-OUTPUT SECTION. FILE-CONTROL. SELECT F ASSIGN G ACCESS SEQUENTIAL.
DATA DIVISION. FILE SECTION. FD F LABEL RECORD STANDARD REPORT R. 01 A PIC X.
WORKING-STORAGE SECTION. 01 B PIC X. LINKAGE SECTION. 01 C PIC X.
REPORT SECTION. RD R. SCREEN SECTION. 01 S.
PROCEDURE DIVISION USING C. DECLARATIVES.`)
	front := len(l)
	l = append(l, scan("U SECTION.\n    USE X. Y.\nEND DECLARATIVES.\n    STOP RUN.")...)
	for i := range l[:front] {
		l[i].Left = false
	}
	checkTokens := func(left bool) {
		p, fault := divisions.Parse(l)
		if fault != (api.Fault{}) || p.Name != "P1" || len(p.Files) != 1 || len(p.Files[0].Records) != 1 || len(p.Working) != 1 || len(p.Linkage) != 1 || len(p.Reports) != 3 || len(p.Screens) != 3 || len(p.Using) != 1 || len(p.Uses) != 1 || len(p.Paragraphs) != 1 {
			t.Errorf("%v: %s, %v", left, show(p), fault)
		}
		if left != p.Reports[1].Left {
			t.Error(p.Reports)
		}
	}
	checkTokens(false)
	for i := range l[:front] {
		l[i].Left = true
	}
	checkTokens(true)
}

func TestEntries(t *testing.T) {
	checkProgram(t, head+`DATA DIVISION. WORKING-STORAGE SECTION.
01 R. 05 A PIC 9(3) COMP-3 VALUE 7. 05 PIC X OCCURS 2. 88 YES VALUE "Y" "." THRU "Z". 66 B RENAMES A.
49 FILLER PIC X. 77 N PIC 9.
LINKAGE SECTION. 05 NO-RECORD PIC X. 5. PROCEDURE DIVISION.`,
		"working 01 R .", "working 05 A PIC 9(3) USAGE COMP-3 VALUE 7 .", "working 05 FILLER PIC X OCCURS 2 .",
		`working 88 YES VALUE "Y" "." THRU "Z" .`, "working 66 B RENAMES A .", "working 49 FILLER PIC X .", "working 77 N PIC 9 .",
		"linkage 05 NO-RECORD PIC X .", "linkage 05 FILLER .")
}

// Entries end where no number begins the next one, whatever stands there.
func TestEntriesEnd(t *testing.T) {
	for _, text := range []string{
		"WORKING-STORAGE SECTION. 01 A PIC X. ~B PIC X. PROCEDURE DIVISION.",
		"WORKING-STORAGE SECTION. 01 A PIC X. ~\"5\" PIC X. PROCEDURE DIVISION.",
		"WORKING-STORAGE SECTION. 01 A PIC X. ~. 05 B PIC X. PROCEDURE DIVISION.",
		"WORKING-STORAGE SECTION. 01 A PIC X. ~DATA DIVISION. PROCEDURE DIVISION.",
		"WORKING-STORAGE SECTION. ~FD A. PROCEDURE DIVISION.",
		"LINKAGE SECTION. 01 A. 05 B PIC X. ~WORKING-STORAGE SECTION. PROCEDURE DIVISION.",
		"LINKAGE SECTION. ~MOVE. PROCEDURE DIVISION.",
	} {
		checkFaults(t, api.ErrForm, head+"DATA DIVISION. "+text)
	}
	for text, want := range map[string]string{
		"WORKING-STORAGE SECTION. 01 A PIC X. LINKAGE SECTION. 01 B PIC X.":      "working 01 A PIC X .\nlinkage 01 B PIC X .",
		"WORKING-STORAGE SECTION. 01 A PIC X. REPORT SECTION. 01 B.":             "working 01 A PIC X .\nreports 01 B .",
		"WORKING-STORAGE SECTION. 01 A PIC X. SCREEN SECTION. 01 B.":             "working 01 A PIC X .\nscreens 01 B .",
		"LINKAGE SECTION. 01 A PIC X. REPORT SECTION. 01 B. SCREEN SECTION. 01.": "linkage 01 A PIC X .\nreports 01 B .\nscreens 01 .",
	} {
		checkProgram(t, head+"DATA DIVISION. "+text+" PROCEDURE DIVISION.", want)
	}
}

// The report section and the screen section contain any tokens, up to a header.
func TestOtherSections(t *testing.T) {
	others := []string{
		"", "RD R CONTROL FINAL . 01 TYPE DE .", ". . .", "FILE", "FILE SECTION", "FILE SECTION FILE SECTION", "SCREEN SCREEN", "SECTION .", "SECTION", ". SECTION .",
		"PROCEDURE", "PROCEDURE PROCEDURE", "PROCEDURE . DIVISION", "DIVISION .", "DATA DIVISION .", "END DECLARATIVES .", "WORKING-STORAGE . SECTION .", "REPORT SECTION REPORT", "SCREEN SECTION LINKAGE",
		"INPUT-OUTPUT SECTION .", "MAIN SECTION .", "FILES SECTION .", "CONFIGURATION SECTION .", "IDENTIFICATION DIVISION . PROGRAM-ID . P2 .", "LINKAGE SECTIONS .", "PROCEDURES DIVISION .", "PROCEDURE DIVISIONS",
		`"FILE" SECTION .`, `FILE "SECTION" .`, `"PROCEDURE" DIVISION`, `PROCEDURE "DIVISION"`, "== ( ) PIC FILE", `"." = 5 -5`, "FD F . SELECT 05 A PIC X", "PIC FILE SECTION .", "PIC PROCEDURE DIVISION", "FILE PROCEDURE",
	}
	for _, text := range others {
		for _, other := range others {
			var want []string
			if text != "" {
				want = append(want, "reports "+text)
			}
			if other != "" {
				want = append(want, "screens "+other)
			}
			checkProgram(t, head+"DATA DIVISION. REPORT SECTION.\n    "+text+" SCREEN SECTION.\n    "+other+" PROCEDURE DIVISION.", want...)
		}
		for _, section := range []string{"FILE", "WORKING-STORAGE", "LINKAGE", "REPORT"} {
			checkFaults(t, api.ErrForm,
				head+"DATA DIVISION. REPORT SECTION. "+text+" ~"+section+" SECTION. PROCEDURE DIVISION.",
				head+"DATA DIVISION. SCREEN SECTION. "+text+" ~"+section+" SECTION. PROCEDURE DIVISION.",
				head+"DATA DIVISION. REPORT SECTION. SCREEN SECTION. "+text+" ~"+section+" SECTION. PROCEDURE DIVISION.")
		}
		checkFaults(t, api.ErrForm, head+"DATA DIVISION. SCREEN SECTION. "+text+" ~SCREEN SECTION. PROCEDURE DIVISION.")
	}
}

// The tokens of these sections, and of all others that are tokens, are those of the text, with their positions.
func TestTokensStayAsTheyAre(t *testing.T) {
	l := scan(head + "DATA DIVISION. REPORT SECTION.\nRD R.\n 01 B PIC X. SCREEN SECTION.\n    01 S \"X\". PROCEDURE DIVISION.\nDECLARATIVES.\nU SECTION. USE\nA B\n  C. D.\nEND DECLARATIVES.\n    E F.\nG.\n    H \"I\" 5 (.")
	p, fault := divisions.Parse(l)
	if fault != (api.Fault{}) {
		t.Fatal(fault)
	}
	begins := func(line int) int { return slices.IndexFunc(l, func(x api.Token) bool { return x.At.Line == line }) }
	from := func(i, size int) []api.Token { return l[i : i+size] }
	for i, x := range []struct{ got, want []api.Token }{
		{p.Reports, from(begins(3), 8)}, {p.Screens, from(begins(5), 4)}, {p.Uses[0].Tokens, from(begins(8), 3)}, {p.Uses[0].Paragraphs[0].Tokens, from(begins(9)+2, 2)},
		{p.Paragraphs[0].Tokens, from(begins(11), 3)}, {p.Paragraphs[1].Tokens, from(begins(13), 5)},
	} {
		if !slices.Equal(x.got, x.want) {
			t.Errorf("%d: %v, wanted %v", i, x.got, x.want)
		}
	}
}
