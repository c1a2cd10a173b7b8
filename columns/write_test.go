package columns

import (
	"fmt"
	"slices"
	"strings"
	"testing"

	"columnseven/api"
)

// numbered returns lines, given from column 7 on, as Write lays them out.
func numbered(lines ...string) string {
	var out strings.Builder
	for i, line := range lines {
		fmt.Fprintf(&out, "%06d%s\n", i+1, line)
	}
	return out.String()
}

// some returns a number of letters, not all of which are equal.
func some(n int) string { return strings.Repeat("ABCDEFGHIJK", n/11+1)[:n] }

// writing is a text and the lines that Write lays out for it, from column 7 on.
type writing struct {
	name string
	line Line
	want []string
}

func checkWritings(t *testing.T, all []writing) {
	t.Helper()
	for _, w := range all {
		want := numbered(w.want...)
		if got, e := Write([]Line{w.line}); got != want || e != api.OK {
			t.Errorf("%s: %d,\n%swanted\n%s", w.name, e, got, want)
		}
		two := slices.Concat(w.want, w.want)
		if got, e := Write([]Line{w.line, w.line}); got != numbered(two...) || e != api.OK {
			t.Errorf("%s, twice: %d,\n%s", w.name, e, got)
		}
	}
}

// P2.3

func TestWriteNothing(t *testing.T) {
	for _, l := range [][]Line{nil, {}} {
		if got, e := Write(l); got != "" || e != api.OK {
			t.Errorf("%q, %d", got, e)
		}
	}
}

func TestWriteExamples(t *testing.T) {
	if got, e := Write([]Line{{false, "STOP RUN."}}); got != "000001     STOP RUN.\n" || e != api.OK {
		t.Errorf("%q, %d", got, e)
	}
	if got, e := Write([]Line{{true, "STOP RUN."}}); got != "000001 STOP RUN.\n" || e != api.OK {
		t.Errorf("%q, %d", got, e)
	}
	if got, e := Write([]Line{{true, "A"}, {false, "B"}, {true, "C"}}); got != "000001 A\n000002     B\n000003 C\n" || e != api.OK {
		t.Errorf("%q, %d", got, e)
	}
}

func TestWriteTextsThatFit(t *testing.T) {
	checkWritings(t, []writing{
		{"one byte", Line{false, "~"}, []string{"     ~"}},
		{"spaces and quotes", Line{true, `A  "B ""  C"  D`}, []string{` A  "B ""  C"  D`}},
		{"not folded", Line{false, "a -*/d"}, []string{"     a -*/d"}},
		{"61 columns", Line{false, some(61)}, []string{"     " + some(61)}},
		{"61 columns with spaces", Line{false, "A " + some(57) + " B"}, []string{"     A " + some(57) + " B"}},
		{"65 columns", Line{true, some(65)}, []string{" " + some(65)}},
		{"65 columns in quotes", Line{true, `"` + some(31) + " " + some(31) + `"`}, []string{` "` + some(31) + " " + some(31) + `"`}},
	})
}

func TestWriteDividesAtASpace(t *testing.T) {
	checkWritings(t, []writing{
		{"behind a full line", Line{false, some(61) + " B"}, []string{"     " + some(61), "     B"}},
		{"behind a full line of area A", Line{true, some(65) + " B"}, []string{" " + some(65), "     B"}},
		{"in the last column", Line{false, some(60) + " BC"}, []string{"     " + some(60), "     BC"}},
		{"in the last column of area A", Line{true, some(64) + " BC"}, []string{" " + some(64), "     BC"}},
		{"at the last one", Line{false, "A B " + some(50) + " C " + some(10)}, []string{"     A B " + some(50) + " C", "     " + some(10)}},
		{"at index 1", Line{false, "A " + some(61)}, []string{"     A", "     " + some(61)}},
		{"spaces up to the full line", Line{false, some(59) + "     B"}, []string{"     " + some(59) + "  ", "     B"}},
		{"spaces behind the full line", Line{false, some(61) + "    B"}, []string{"     " + some(61), "     B"}},
		{"spaces before the last one", Line{false, "A  " + some(59)}, []string{"     A ", "     " + some(59)}},
		{"many spaces", Line{true, "A" + spaces(500) + "B"}, []string{" A" + spaces(64), "     B"}},
		{"several times", Line{true, some(40) + " " + some(40) + "  " + some(40) + " " + some(20) + " B"},
			[]string{" " + some(40), "     " + some(40) + " ", "     " + some(40) + " " + some(20), "     B"}},
	})
}

func TestWriteDividesOutsideOfQuotes(t *testing.T) {
	checkWritings(t, []writing{
		{"not too long", Line{false, `A "` + some(20) + " " + some(36) + `"`}, []string{`     A "` + some(20) + " " + some(36) + `"`}},
		{"before quotes", Line{false, `A "` + some(20) + " " + some(37) + `"`}, []string{"     A", `     "` + some(20) + " " + some(37) + `"`}},
		{"behind quotes", Line{false, `"` + some(20) + " " + some(30) + `" ` + some(20)}, []string{`     "` + some(20) + " " + some(30) + `"`, "     " + some(20)}},
		{"between quotes", Line{false, `"` + some(20) + `" "` + some(18) + " " + some(19) + `"`}, []string{`     "` + some(20) + `"`, `     "` + some(18) + " " + some(19) + `"`}},
		{"two quotes inside", Line{false, `A "B"" ` + some(60) + `"`}, []string{"     A", `     "B"" ` + some(60)[:56], `-    "` + some(60)[56:] + `"`}},
		{"behind an open line", Line{false, `"` + some(61) + `" ` + some(60)}, []string{`     "` + some(60), `-    "` + some(61)[60:] + `"`, "     " + some(60)}},
		{"in the last column behind an open line", Line{false, `"` + some(60) + some(58) + `" B`}, []string{`     "` + some(60), `-    "` + some(58) + `"`, "     B"}},
		{"behind an open line that is full", Line{false, `"` + some(60) + some(59) + `" B`}, []string{`     "` + some(60), `-    "` + some(59) + `"`, "     B"}},
	})
}

func TestWriteDividesBehindAFullLine(t *testing.T) {
	checkWritings(t, []writing{
		{"62 columns", Line{false, some(62)}, []string{"     " + some(61), "-    " + some(62)[61:]}},
		{"66 columns", Line{true, some(66)}, []string{" " + some(65), "-    " + some(66)[65:]}},
		{"the rest just fits", Line{true, some(65 + 61 + 61)}, []string{" " + some(187)[:65], "-    " + some(187)[65:126], "-    " + some(187)[126:]}},
		{"the rest is longer", Line{true, some(65 + 61 + 62)}, []string{" " + some(188)[:65], "-    " + some(188)[65:126], "-    " + some(188)[126:187], "-    " + some(188)[187:]}},
		{"a space one behind", Line{false, some(62) + " B"}, []string{"     " + some(61), "-    " + some(62)[61:] + " B"}},
		{"then at a space", Line{false, some(71) + " " + some(60)}, []string{"     " + some(61), "-    " + some(71)[61:], "     " + some(60)}},
		{"behind quotes", Line{false, `"` + some(59) + `"AB`}, []string{`     "` + some(59) + `"`, "-    AB"}},
		{"between two quotes", Line{false, `"` + some(59) + `""` + some(5) + `"`}, []string{`     "` + some(59) + `"`, `-    "` + some(5) + `"`}},
	})
}

func TestWriteDividesOpenTexts(t *testing.T) {
	checkWritings(t, []writing{
		{"62 columns", Line{false, `"` + some(60) + `"`}, []string{`     "` + some(60), `-    ""`}},
		{"66 columns", Line{true, `"` + some(64) + `"`}, []string{` "` + some(64), `-    ""`}},
		{"the rest just fits", Line{false, `"` + some(60) + some(59) + `"`}, []string{`     "` + some(60), `-    "` + some(59) + `"`}},
		{"the rest is longer", Line{false, `"` + some(60) + some(60) + `"`}, []string{`     "` + some(60), `-    "` + some(60), `-    ""`}},
		{"several times", Line{false, `"` + some(60) + some(60) + " " + some(10) + `"`}, []string{`     "` + some(60), `-    "` + some(60), `-    " ` + some(10) + `"`}},
		{"behind the first quote", Line{false, some(60) + `"AB"`}, []string{"     " + some(60) + `"`, `-    "AB"`}},
		{"before a space", Line{false, `"` + some(60) + ` B"`}, []string{`     "` + some(60), `-    " B"`}},
		{"behind spaces", Line{false, `"` + some(50) + spaces(10) + `B"`}, []string{`     "` + some(50) + spaces(10), `-    "B"`}},
		{"between two quotes", Line{false, `"A"" ` + some(56) + `""B"`}, []string{`     "A"" ` + some(56), `-    """B"`}},
		{"only spaces", Line{false, `"` + spaces(130) + `"`}, []string{`     "` + spaces(60), `-    "` + spaces(60), `-    "` + spaces(10) + `"`}},
	})
}

func TestWriteRefusesTexts(t *testing.T) {
	for _, text := range []string{
		"", " ", "   ", " A", "A ", "  A", "A  ", ` "A"`, `"A" `,
		"\n", "A\n", "\nA", "A\nB", "\x00", "A\x1fB", "A\x7f", "\x80A", "A\xff", "\u00e4", "A\t",
		`"`, `A "B`, `"""`, `"A""`, `"A" "`, `"A" " B`, some(100) + `"`,
	} {
		for _, left := range []bool{false, true} {
			bad := Line{left, text}
			for _, l := range [][]Line{{bad}, {bad, {true, "A"}}, {{true, "A"}, {false, "B"}, bad}, {{true, some(api.MaxText)}, bad}} {
				if got, e := Write(l); got != "" || e != api.ErrArg {
					t.Errorf("%q, %t, of %d lines: %q, %d", text, left, len(l), got, e)
				}
			}
		}
	}
}

func TestWriteEachByte(t *testing.T) {
	for c := range 256 {
		twice := string([]byte{'A', byte(c), byte(c), 'B'})
		got, e := Write([]Line{{true, twice}})
		if c >= 32 && c <= 126 {
			if got != "000001 "+twice+"\n" || e != api.OK {
				t.Errorf("byte %d: %q, %d", c, got, e)
			}
		} else if got != "" || e != api.ErrArg {
			t.Errorf("byte %d: %q, %d", c, got, e)
		}
	}
}

// Each line of area A with one character has 9 bytes.
func TestWriteAsManyBytesAsThereMayBe(t *testing.T) {
	lines := slices.Repeat([]Line{{true, "A"}}, api.MaxText/9)
	last := len(lines) - 1
	lines[last].Text = some(1 + api.MaxText%9)
	got, e := Write(lines)
	if len(got) != api.MaxText || e != api.OK {
		t.Fatalf("%d bytes, %d", len(got), e)
	}
	if want := fmt.Sprintf("\n%06d %s\n", last+1, lines[last].Text); !strings.HasSuffix(got, want) {
		t.Errorf("the text ends with %q", got[len(got)-30:])
	}
	if want := "000009 A\n000010 A\n"; got[8*9:10*9] != want {
		t.Errorf("lines 9 and 10 are %q", got[8*9:10*9])
	}
	lines[last].Text += "X"
	if got, e := Write(lines); got != "" || e != api.ErrLimit {
		t.Errorf("one byte more: %d bytes, %d", len(got), e)
	}
	lines[last].Text = some(1 + api.MaxText%9)
	if got, e := Write(append(lines, Line{true, "A"})); got != "" || e != api.ErrLimit {
		t.Errorf("one line more: %d bytes, %d", len(got), e)
	}
}

// The limit is one of the result, not of the texts.
func TestWriteLongTexts(t *testing.T) {
	for _, text := range []string{some(api.MaxText), `"` + spaces(api.MaxText) + `"`, strings.Repeat("A ", 1<<22) + "A"} {
		if got, e := Write([]Line{{false, "A"}, {true, text}}); got != "" || e != api.ErrLimit {
			t.Errorf("%d bytes: %d bytes, %d", len(text), len(got), e)
		}
	}
	got, e := Write([]Line{{false, "A" + spaces(3*api.MaxText) + "B"}})
	if got != numbered("     A"+spaces(60), "     B") || e != api.OK {
		t.Errorf("many spaces: %d bytes, %d", len(got), e)
	}
}

func TestWriteKeepsTheLines(t *testing.T) {
	room := []Line{{true, some(100)}, {false, "A B"}, {true, " "}}
	kept := slices.Clone(room)
	first, e := Write(room[:2])
	second, _ := Write(room[:2])
	if e != api.OK || first != second {
		t.Errorf("%q, %q, %d", first, second, e)
	}
	Write(room)
	if !slices.Equal(room, kept) {
		t.Errorf("the lines are now %v", room)
	}
}
