package divisions_test

import (
	"slices"
	"strings"
	"testing"

	"columnseven/api"
	"columnseven/divisions"
	"columnseven/tokens"
)

// P8.1: the procedure division

func TestUsing(t *testing.T) {
	for text, want := range map[string]string{"USING A": "using A", "USING A B": "using A B", "USING A, B, 1C, A, P1": "using A B 1C A P1"} {
		checkProgram(t, head+"PROCEDURE DIVISION "+text+".", want)
	}
	checkProgram(t, head+"PROCEDURE DIVISION USING A.\n    USING B.", "using A", "paragraph 3:12 /: USING B .")
}

func TestNoProcedures(t *testing.T) {
	checkProgram(t, head+"PROCEDURE DIVISION.")
	checkProgram(t, head+"PROCEDURE DIVISION.\nDECLARATIVES.\nEND DECLARATIVES.")
}

func TestParagraphs(t *testing.T) {
	for text, want := range map[string][]string{
		"A.":                              {"paragraph 3:8 /A:"},
		"A.\nB.":                          {"paragraph 3:8 /A:", "paragraph 4:8 /B:"},
		"    MOVE 1 TO N.":                {"paragraph 3:12 /: MOVE 1 TO N ."},
		"    STOP":                        {"paragraph 3:12 /: STOP"},
		"    .":                           {"paragraph 3:12 /: ."},
		"    A. B. C SECTION. END.":       {"paragraph 3:12 /: A . B . C SECTION . END ."},
		"    A.\nB.\n    C.\n    D.\nE.":  {"paragraph 3:12 /: A .", "paragraph 4:8 /B: C . D .", "paragraph 7:8 /E:"},
		"A. B.\n C.\n  D.\n   E.":         {"paragraph 3:8 /A:", "paragraph 3:11 /B:", "paragraph 4:9 /C:", "paragraph 5:10 /D:", "paragraph 6:11 /E:"},
		"A.  B C.":                        {"paragraph 3:8 /A: B C ."},
		"A\n    .\n    B.":                {"paragraph 3:8 /A: B ."},
		"MOVES. MOVE 1":                   {"paragraph 3:8 /MOVES: MOVE 1"},
		"1A.\n    \"A.\" 5 == ( * PIC A.": {"paragraph 3:8 /1A: \"A.\" 5 == ( * PIC A ."},
		"A.\n    DECLARATIVES. END DECLARATIVES. PROCEDURE DIVISION.": {"paragraph 3:8 /A: DECLARATIVES . END DECLARATIVES . PROCEDURE DIVISION ."},
	} {
		checkProgram(t, doing(text), want...)
	}
}

func TestSections(t *testing.T) {
	for text, want := range map[string][]string{
		"S SECTION.":                                                 {"paragraph 3:8 S/:"},
		"S SECTION.\nT SECTION.":                                     {"paragraph 3:8 S/:", "paragraph 4:8 T/:"},
		"S SECTION.\n    B.":                                         {"paragraph 4:12 S/: B ."},
		"S SECTION.\n    B C":                                        {"paragraph 4:12 S/: B C"},
		"S SECTION.\nA.":                                             {"paragraph 4:8 S/A:"},
		"S SECTION.\nA.\n    B.\nC.":                                 {"paragraph 4:8 S/A: B .", "paragraph 6:8 S/C:"},
		"S SECTION. X.\nA.\n    B.\nC.":                              {"paragraph 3:19 S/: X .", "paragraph 4:8 S/A: B .", "paragraph 6:8 S/C:"},
		"    X.\nS SECTION.":                                         {"paragraph 3:12 /: X .", "paragraph 4:8 S/:"},
		"    X.\nA.\nS SECTION.\nA.\n    Y":                          {"paragraph 3:12 /: X .", "paragraph 4:8 /A:", "paragraph 6:8 S/A: Y"},
		"S SECTION.\nS.\nT SECTION.\nS.":                             {"paragraph 4:8 S/S:", "paragraph 6:8 T/S:"},
		"A.\nA SECTION.\nA.":                                         {"paragraph 3:8 /A:", "paragraph 5:8 A/A:"},
		"S\n    SECTION\n    .\n    B.":                              {"paragraph 6:12 S/: B ."},
		"S SECTION.\n    T SECTION. U. V":                            {"paragraph 4:12 S/: T SECTION . U . V"},
		"S SECTION.\nA.\nT SECTION.\nU SECTION.\nA.\nB.\nV SECTION.": {"paragraph 4:8 S/A:", "paragraph 5:8 T/:", "paragraph 7:8 U/A:", "paragraph 8:8 U/B:", "paragraph 9:8 V/:"},
	} {
		checkProgram(t, doing(text), want...)
	}
}

func TestDeclaratives(t *testing.T) {
	for text, want := range map[string][]string{
		"U SECTION. USE.": {"use U:", "- 4:8 U/:"},
		"U SECTION.\n    USE AFTER ERROR PROCEDURE ON F.":   {"use U: AFTER ERROR PROCEDURE ON F", "- 4:8 U/:"},
		"U SECTION. USE A. B C.":                            {"use U: A", "- 4:26 U/: B C ."},
		"U SECTION. USE A. B C":                             {"use U: A", "- 4:26 U/: B C"},
		"U SECTION. USE A.\nB.":                             {"use U: A", "- 5:8 U/B:"},
		"U SECTION. USE A.\n    X.\nB.\n    Y.\nC.":         {"use U: A", "- 5:12 U/: X .", "- 6:8 U/B: Y .", "- 8:8 U/C:"},
		"U SECTION. USE A.\nV SECTION. USE B. C.\nD.":       {"use U: A", "- 4:8 U/:", "use V: B", "- 5:26 V/: C .", "- 6:8 V/D:"},
		"U SECTION. USE.\nA.\nV SECTION. USE.\nA.":          {"use U:", "- 5:8 U/A:", "use V:", "- 7:8 V/A:"},
		"U SECTION. USE.\n    END DECLARATIVES. V SECTION.": {"use U:", "- 5:12 U/: END DECLARATIVES . V SECTION ."},
		"U SECTION. USE END DECLARATIVES USE \"X.\" 5 (.":   {"use U: END DECLARATIVES USE \"X.\" 5 (", "- 4:8 U/:"},
		"U SECTION. USE\nA B\n C SECTION\nEND D.\n    E.":   {"use U: A B C SECTION END D", "- 8:12 U/: E ."},
		"U SECTION.\nUSE A.\n    E.":                        {"use U: A", "- 6:12 U/: E ."},
		"U SECTION. USE A. USE B.\n    USE C.":              {"use U: A", "- 4:26 U/: USE B . USE C ."},
		"U\n    SECTION\n    .\n    USE\n    A\n    .":      {"use U: A", "- 4:8 U/:"},
	} {
		checkProgram(t, doing("DECLARATIVES.\n"+text+"\nEND DECLARATIVES."), want...)
		lines := strings.Count(text, "\n")
		behind := []string{
			"paragraph " + place(api.Pos{Line: lines + 6, Column: 12}) + " /: X .",
			"paragraph " + place(api.Pos{Line: lines + 7, Column: 8}) + " /A:",
			"paragraph " + place(api.Pos{Line: lines + 9, Column: 8}) + " W/A: USE .",
		}
		checkProgram(t, doing("DECLARATIVES.\n"+text+"\nEND DECLARATIVES.\n    X.\nA.\nW SECTION.\nA.\n    USE."), slices.Concat(want, behind)...)
	}
}

// The words around the declaratives may stand in several lines, and the first one in area B.
func TestWordsAroundDeclaratives(t *testing.T) {
	for _, text := range []string{"DECLARATIVES\n    .", "    DECLARATIVES.", "  DECLARATIVES ."} {
		for _, end := range []string{"END DECLARATIVES.", "END\n    DECLARATIVES\n    .", "   END DECLARATIVES.", "END\nDECLARATIVES\n."} {
			lines := strings.Count(text, "\n")
			use := place(api.Pos{Line: 4 + lines, Column: 8})
			behind := place(api.Pos{Line: 7 + lines + strings.Count(end, "\n"), Column: 12})
			checkProgram(t, doing(text+"\nU SECTION.\n    USE.\n"+end+"\n    MOVE."), "use U:", "- "+use+" U/:", "paragraph "+behind+" /: MOVE .")
		}
	}
}

// headed returns some tokens, of which those that are numbered begin in area A.
func headed(text string, left ...int) []api.Token {
	l := scan("    " + strings.ReplaceAll(text, " ", "\n    "))
	for _, i := range left {
		l[i].Left = true
	}
	return l
}

// Only Left tells whether a token begins in area A, and only that of the first token of a header counts.
func TestOnlyLeftCounts(t *testing.T) {
	front := scan(doing(""))
	for _, x := range []struct {
		text string
		left []int
		want string
	}{
		{"A .", nil, "/: A ."},
		{"A .", []int{0}, "/A:"},
		{"A .", []int{0, 1}, "/A:"},
		{"A . B", []int{0, 1}, "/A: B"},
		{"A SECTION .", nil, "/: A SECTION ."},
		{"A SECTION .", []int{0}, "A/:"},
		{"A SECTION .", []int{0, 1}, "A/:"},
		{"A SECTION .", []int{0, 2}, "A/:"},
		{"A SECTION .", []int{0, 1, 2}, "A/:"},
		{"A SECTION . B . C .", []int{0, 3}, "A/B: C ."},
		{"A SECTION . B . C .", []int{0, 3, 5}, "A/B:|A/C:"},
		{"A SECTION . B . C .", []int{3}, "/: A SECTION .|/B: C ."},
		{"A . B SECTION .", []int{2}, "/: A .|B/:"},
		{"A . B SECTION .", []int{0}, "/A: B SECTION ."},
	} {
		l := headed(x.text, x.left...)
		p, fault := divisions.Parse(slices.Concat(front, l))
		var got []string
		for _, paragraph := range p.Paragraphs {
			got = append(got, strings.TrimSpace(paragraph.Section+"/"+paragraph.Name+": "+tokens.Text(paragraph.Tokens)))
		}
		if fault != (api.Fault{}) || strings.Join(got, "|") != x.want {
			t.Errorf("%s %v: %q, %v", x.text, x.left, got, fault)
		}
	}
}

// All tokens of paragraphs are any tokens, also those that no source text has.
func TestAnyTokensInParagraphs(t *testing.T) {
	front := scan(doing("A."))
	var l []api.Token
	for kind := range 256 {
		for _, text := range []string{"", "A", ".", "SECTION", "5", "\xff"} {
			l = append(l, api.Token{Kind: api.Kind(kind), Text: text, At: api.Pos{Line: -kind, Column: len(l)}})
		}
	}
	p, fault := divisions.Parse(slices.Concat(front, l))
	if fault != (api.Fault{}) || len(p.Paragraphs) != 1 || !slices.Equal(p.Paragraphs[0].Tokens, l) {
		t.Error(len(p.Paragraphs), fault)
	}
}
