package entries_test

import (
	"reflect"
	"slices"
	"strconv"
	"strings"
	"testing"

	"columnseven/api"
	"columnseven/entries"
	"columnseven/tokens"
	"columnseven/words"
)

// P7.1: tokens that are entries

func TestNoEntries(t *testing.T) {
	checkParsed(t, nil)
	checkParsed(t, []api.Token{})
}

// levels returns the levels that entries may have.
func levels() []int {
	l := []int{66, 77, 88}
	for n := 1; n <= 49; n++ {
		l = append(l, n)
	}
	return l
}

func TestLevels(t *testing.T) {
	for n := range 100 {
		want := entries.Entry{Level: n, Name: "A"}
		rest := " A ."
		switch n {
		case 66:
			rest, want.First = " A RENAMES B .", []string{"B"}
		case 88:
			rest, want.Value = " A VALUE 1 .", value("1")
		}
		for _, text := range slices.Compact([]string{strconv.Itoa(n/10) + strconv.Itoa(n%10), strconv.Itoa(n)}) {
			if slices.Contains(levels(), n) {
				checkEntry(t, text+rest, want)
			} else {
				checkFaults(t, api.ErrArg, "~"+text+rest, "~"+text, "~"+text+" MOVE", "~"+text+" A PIC X PIC X .")
			}
		}
	}
	checkFaults(t, api.ErrForm, "~005 A .", "~000 A .", "~100 A .", "~050 A .", "~+5 A .", "~-5 A .", "~+05 A .", "~5.0 A .", "~.5 A .", "~123456789012345678 A .")
}

func TestNames(t *testing.T) {
	for _, name := range []string{"A", "FILLER", "A-1", "1A", "0-A", "TOTAL-AMOUNT", "MOVES", "FILLERS", "X", "N9", strings.Repeat("A", 30), "FILLER-1", "ISA"} {
		checkEntry(t, "05 "+name+" .", entries.Entry{Level: 5, Name: name})
		checkEntry(t, "5 "+name+" PIC X .", entries.Entry{Level: 5, Name: name, Picture: "X"})
		checkEntry(t, "77 "+name+" COMP PIC 9 .", entries.Entry{Level: 77, Name: name, Picture: "9", HasUsage: true, Usage: api.Binary})
	}
	checkEntry(t, "01 .", entries.Entry{Level: 1, Name: "FILLER"})
	checkEntry(t, "49 PIC X .", entries.Entry{Level: 49, Name: "FILLER", Picture: "X"})
	checkEntry(t, "05 REDEFINES A .", entries.Entry{Level: 5, Name: "FILLER", Redefines: "A"})
	checkEntry(t, "05 LEADING PIC S9 .", entries.Entry{Level: 5, Name: "FILLER", Picture: "S9", HasSign: true, Leading: true})
	checkEntry(t, "66 RENAMES A .", entries.Entry{Level: 66, Name: "FILLER", First: []string{"A"}})
	checkEntry(t, "66 FILLER RENAMES A .", entries.Entry{Level: 66, Name: "FILLER", First: []string{"A"}})
}

// begins are the words with which clauses begin.
const begins = "REDEFINES PIC PICTURE USAGE DISPLAY COMP-3 COMPUTATIONAL-3 PACKED-DECIMAL COMP COMPUTATIONAL BINARY SIGN LEADING TRAILING OCCURS " +
	"JUST JUSTIFIED BLANK VALUE VALUES RENAMES"

// Reserved words other than FILLER are no names, where a name may be missing.
func TestReservedWordsBehindTheLevel(t *testing.T) {
	for _, word := range words.All() {
		if word == "FILLER" || slices.Contains(strings.Fields(begins), word) {
			continue
		}
		l := []api.Token{{Kind: api.Number, Text: "05"}, {Kind: api.Word, Text: word, At: first}, {Kind: api.Period}}
		checkFault(t, l, api.ErrForm, first)
		checkFault(t, l[:2], api.ErrForm, first)
		checkFault(t, slices.Insert(l, 1, api.Token{Kind: api.Word, Text: "A"}), api.ErrForm, first)
		checkFault(t, slices.Insert(l, 1, api.Token{Kind: api.Word, Text: "FILLER"}), api.ErrForm, first)
	}
}

// checkForms fails unless all texts of a form are an entry.
func checkForms(t *testing.T, form string, want entries.Entry) {
	t.Helper()
	for _, text := range forms(form) {
		checkEntry(t, text, want)
	}
}

func TestRedefines(t *testing.T) {
	checkForms(t, "05 A REDEFINES B .", entries.Entry{Level: 5, Name: "A", Redefines: "B"})
	checkForms(t, "01 A REDEFINES LONGER-1 PIC X .", entries.Entry{Level: 1, Name: "A", Redefines: "LONGER-1", Picture: "X"})
}

func TestPictures(t *testing.T) {
	for _, picture := range []string{"X", "9(3)", "S9(3)V99", "Z,ZZ9.99-", "A(00005)", "$**9", "9CR", "-9", "X(256)", "PP9"} {
		for _, text := range forms("05 A PIC|PICTURE [IS] " + picture + " .") {
			checkEntry(t, text, entries.Entry{Level: 5, Name: "A", Picture: picture})
		}
	}
}

func TestUsages(t *testing.T) {
	for usage, list := range []string{"DISPLAY", "COMP-3|COMPUTATIONAL-3|PACKED-DECIMAL", "COMP|COMPUTATIONAL|BINARY"} {
		want := entries.Entry{Level: 5, Name: "A", Picture: "S9(3)", HasUsage: true, Usage: api.Usage(usage)}
		checkForms(t, "05 A PIC S9(3) [USAGE [IS]] "+list+" .", want)
		checkForms(t, "05 A [USAGE [IS]] "+list+" PIC S9(3) .", want)
	}
	checkForms(t, "05 A PIC X [USAGE [IS]] DISPLAY .", entries.Entry{Level: 5, Name: "A", Picture: "X", HasUsage: true})
}

func TestSigns(t *testing.T) {
	for _, leading := range []bool{false, true} {
		side := map[bool]string{false: "TRAILING", true: "LEADING"}[leading]
		for _, separate := range []bool{false, true} {
			behind := map[bool]string{false: "", true: "SEPARATE [CHARACTER]"}[separate]
			want := entries.Entry{Level: 5, Name: "A", Picture: "S9", HasSign: true, Leading: leading, Separate: separate}
			checkForms(t, "05 A PIC S9 [SIGN [IS]] "+side+" "+behind+" .", want)
			checkForms(t, "05 A [SIGN [IS]] "+side+" "+behind+" PIC S9 .", want)
		}
	}
}

func TestOccurs(t *testing.T) {
	e := entries.Entry{Level: 5, Name: "A"}
	for text, n := range map[string]int{"1": 1, "2": 2, "0": 0, "00000": 0, "00012": 12, "012": 12, "4096": 4096, "04096": 4096} {
		checkForms(t, "05 A OCCURS "+text+" [TIMES] .", changed(e, func(e *entries.Entry) { e.Occurs = n }))
	}
	e.Occurs = 9
	checkForms(t, "05 A OCCURS 0|00|00000 TO 9|09|00009 [TIMES] .", e)
	e.Depends = []string{"N"}
	checkForms(t, "05 A OCCURS [0|00000 TO] 9|00009 [TIMES] DEPENDING [ON] N .", e)
	e.Depends = []string{"N", "R"}
	checkForms(t, "05 A OCCURS [0|00000 TO] 9|00009 [TIMES] DEPENDING [ON] N OF|IN R .", e)
	e.Depends = []string{"N", "N", "ON-1", "X"}
	checkForms(t, "05 A OCCURS 9 [TIMES] DEPENDING [ON] N OF|IN N IN|OF ON-1 OF|IN X .", e)
	e.Least, e.Depends = 8, []string{"N"}
	checkForms(t, "05 A OCCURS 8|00008 TO 9|00009 [TIMES] DEPENDING [ON] N .", e)
	e.Least, e.Occurs = 4095, 4096
	checkForms(t, "05 A OCCURS 4095 TO 4096 [TIMES] DEPENDING [ON] N .", e)
	e.Picture = "X"
	checkForms(t, "05 A OCCURS 4095 TO 4096 [TIMES] DEPENDING [ON] N PIC X .", e)
	checkForms(t, "05 A PIC X OCCURS 4095 TO 4096 [TIMES] DEPENDING [ON] N .", e)
}

func TestJustifiedAndBlank(t *testing.T) {
	checkForms(t, "05 A PIC X JUST|JUSTIFIED [RIGHT] .", entries.Entry{Level: 5, Name: "A", Picture: "X", Just: true})
	checkForms(t, "05 A JUST|JUSTIFIED [RIGHT] PIC A .", entries.Entry{Level: 5, Name: "A", Picture: "A", Just: true})
	checkForms(t, "05 A PIC Z9 BLANK [WHEN] ZERO|ZEROS|ZEROES .", entries.Entry{Level: 5, Name: "A", Picture: "Z9", Blank: true})
	checkForms(t, "05 A BLANK [WHEN] ZERO|ZEROS|ZEROES PIC Z9 .", entries.Entry{Level: 5, Name: "A", Picture: "Z9", Blank: true})
}

const figuratives = "ZERO|ZEROS|ZEROES|SPACE|SPACES|HIGH-VALUE|HIGH-VALUES|LOW-VALUE|LOW-VALUES|QUOTE|QUOTES"

func TestValues(t *testing.T) {
	for _, literal := range []string{"0", "7", "007", "-1.50", "+.5", ".5", "123456789012345678", "ZERO", "ZEROS", "ZEROES"} {
		checkForms(t, "05 A PIC S9(3) VALUE|VALUES [IS|ARE] "+literal+" .", entries.Entry{Level: 5, Name: "A", Picture: "S9(3)", Value: value(literal)})
	}
	for _, literal := range append(strings.Split(figuratives, "|"), `"A"`, `"AB""C"`, `"1"`, `"ALL"`, `"."`, `ALL "A"`, `ALL "AB""C"`, `"`+strings.Repeat("A", 256)+`"`) {
		for _, text := range []string{"VALUE ", "VALUES ", "VALUE IS ", "VALUE ARE ", "VALUES IS ", "VALUES ARE "} {
			checkEntry(t, "05 A PIC X(9) "+text+literal+" .", entries.Entry{Level: 5, Name: "A", Picture: "X(9)", Value: value(literal)})
			checkEntry(t, "05 A "+text+literal+" PIC X(9) .", entries.Entry{Level: 5, Name: "A", Picture: "X(9)", Value: value(literal)})
			checkEntry(t, "05 A "+text+literal+" .", entries.Entry{Level: 5, Name: "A", Value: value(literal)})
		}
	}
}

func TestValuesOfConditions(t *testing.T) {
	for _, form := range []string{
		`1`, `-1.50`, `"Y"`, `ALL "AB"`, figuratives, `1 2`, `1 2 3`, `"Y" "A"`, `1 THRU|THROUGH 2`, `"A" THRU|THROUGH "C"`, `ZERO THRU|THROUGH HIGH-VALUE`, `ALL "A" THRU|THROUGH ALL "B"`,
		`1 THRU|THROUGH 2 3`, `1 2 THRU|THROUGH 3`, `1 THRU|THROUGH 2 3 THRU|THROUGH 4`, `1 2 THRU|THROUGH 3 4 5`, `ALL "A" ALL "B"`, `"A" ALL "B" 1`, `1 "A" ZERO`, `ALL "A" 1 THRU|THROUGH ALL "B" ALL "C" THRU|THROUGH 2 ALL "D"`,
	} {
		for _, text := range forms("88 YES VALUE|VALUES [IS|ARE] " + form + " .") {
			_, literals, _ := strings.Cut(strings.TrimSuffix(text, " ."), "VALUE")
			literals = strings.TrimPrefix(strings.TrimPrefix(strings.TrimPrefix(literals, "S"), " IS"), " ARE")
			checkEntry(t, text, entries.Entry{Level: 88, Name: "YES", Value: value(strings.ReplaceAll(literals, "THROUGH", "THRU"))})
		}
	}
}

func TestRenames(t *testing.T) {
	for form, want := range map[string][2][]string{
		"A": {{"A"}, nil}, "A OF|IN R": {{"A", "R"}, nil}, "A OF|IN B OF|IN R": {{"A", "B", "R"}, nil}, "A THRU|THROUGH C": {{"A"}, {"C"}}, "A OF|IN R THRU|THROUGH C": {{"A", "R"}, {"C"}},
		"A THRU|THROUGH C OF|IN R": {{"A"}, {"C", "R"}}, "A OF|IN R THRU|THROUGH C OF|IN D OF|IN R": {{"A", "R"}, {"C", "D", "R"}}, "A THRU|THROUGH A": {{"A"}, {"A"}},
	} {
		checkForms(t, "66 B RENAMES "+form+" .", entries.Entry{Level: 66, Name: "B", First: want[0], Last: want[1]})
	}
}

func TestClausesInAnyOrder(t *testing.T) {
	for _, x := range []struct {
		clauses []string
		want    entries.Entry
	}{
		{[]string{"REDEFINES B", "PIC S9(3)", "DISPLAY", "LEADING SEPARATE", "OCCURS 1 TO 9 DEPENDING ON N OF R"}, entries.Entry{Level: 5, Name: "A", Redefines: "B", Picture: "S9(3)", HasUsage: true, HasSign: true, Leading: true, Separate: true, Occurs: 9, Least: 1, Depends: []string{"N", "R"}}},
		{[]string{"PIC S9(3)", "USAGE IS DISPLAY", "SIGN IS TRAILING", "OCCURS 3 TIMES", "VALUES ARE -7"}, entries.Entry{Level: 5, Name: "A", Picture: "S9(3)", HasUsage: true, HasSign: true, Occurs: 3, Value: value("-7")}},
		{[]string{"PIC IS X(5)", "JUST", `VALUE ALL "A"`, "OCCURS 3", "USAGE DISPLAY"}, entries.Entry{Level: 5, Name: "A", Picture: "X(5)", Just: true, Value: value(`ALL "A"`), Occurs: 3, HasUsage: true}},
		{[]string{"PICTURE Z9", "BLANK ZERO", "VALUE SPACE", "OCCURS 0"}, entries.Entry{Level: 5, Name: "A", Picture: "Z9", Blank: true, Value: value("SPACE")}},
		{[]string{"COMPUTATIONAL-3", "PICTURE 9(3)", "VALUE ZERO", "OCCURS 2 DEPENDING N"}, entries.Entry{Level: 5, Name: "A", Picture: "9(3)", HasUsage: true, Usage: api.Packed, Value: value("ZERO"), Occurs: 2, Depends: []string{"N"}}},
		{[]string{"BINARY", "PICTURE 9(3)", "REDEFINES X"}, entries.Entry{Level: 5, Name: "A", Picture: "9(3)", HasUsage: true, Usage: api.Binary, Redefines: "X"}},
	} {
		for _, text := range orders(x.clauses...) {
			checkEntry(t, "05 A "+text+" .", x.want)
			x.want.Name = "FILLER"
			checkEntry(t, "05 "+text+" .", x.want)
			x.want.Name = "A"
		}
	}
}

// What an entry has does not stay for the next one.
func TestSeveralEntries(t *testing.T) {
	texts := []string{
		"01 R .", "05 A PIC S9(3) OCCURS 1 TO 3 DEPENDING ON N OF R COMP-3 .", "05 PIC S9 SIGN LEADING SEPARATE VALUE 7 .", "88 YES VALUES 1 THRU 2 3 .", "05 .", "05 B PIC X JUST .", "05 C PIC Z9 BLANK ZERO .", "66 D RENAMES A THRU B .", "66 E RENAMES A .", "77 N REDEFINES R PIC 9 .", "88 NONE VALUE 0 .", "1 S .",
	}
	want := []entries.Entry{
		{Level: 1, Name: "R"}, {Level: 5, Name: "A", Picture: "S9(3)", Occurs: 3, Least: 1, Depends: []string{"N", "R"}, HasUsage: true, Usage: api.Packed}, {Level: 5, Name: "FILLER", Picture: "S9", HasSign: true, Leading: true, Separate: true, Value: value("7")}, {Level: 88, Name: "YES", Value: value("1 THRU 2 3")}, {Level: 5, Name: "FILLER"},
		{Level: 5, Name: "B", Picture: "X", Just: true}, {Level: 5, Name: "C", Picture: "Z9", Blank: true}, {Level: 66, Name: "D", First: []string{"A"}, Last: []string{"B"}}, {Level: 66, Name: "E", First: []string{"A"}}, {Level: 77, Name: "N", Redefines: "R", Picture: "9"}, {Level: 88, Name: "NONE", Value: value("0")}, {Level: 1, Name: "S"},
	}
	for i := range want {
		want[i].At = api.Pos{Line: i + 1, Column: 12}
	}
	checkParsed(t, lines(texts...), want...)
	for i := range texts {
		checkParsed(t, lines(texts[:i]...), want[:i]...)
		checkParsed(t, lines(append(make([]string, i), texts[i:]...)...), want[i:]...)
	}
}

// Only the kinds and texts of tokens matter, and the position of the level.
func TestPositionsDoNotMatter(t *testing.T) {
	l := lines(`05 A REDEFINES C PIC S9(3) USAGE DISPLAY SIGN IS LEADING OCCURS 1 TO 9 DEPENDING ON N OF R .`, `88 B VALUES 1 THRU ALL "A" ZERO .`, `66 C RENAMES A OF B THRU C .`)
	want, fault := entries.Parse(l)
	if fault != (api.Fault{}) {
		t.Fatal(fault)
	}
	n := 0
	for i, x := range l {
		l[i].At, l[i].Left = api.Pos{Line: -i, Column: 1 << 40}, i%2 == 0
		if x.Kind == api.Period {
			l[i].Text = "?"
		}
		if x.At.Column == 12 {
			want[n].At = l[i].At
			n++
		}
	}
	checkParsed(t, l, want...)
}

func TestManyEntries(t *testing.T) {
	l := slices.Repeat(lines("05 A PIC X ."), 3000)
	got, fault := entries.Parse(l)
	if len(got) != 3000 || fault != (api.Fault{}) {
		t.Error(len(got), fault)
	}
	for _, e := range got {
		if !reflect.DeepEqual(e, entries.Entry{Level: 5, Name: "A", Picture: "X", At: first}) {
			t.Fatal(e)
		}
	}
	names := lines("88 A VALUE")
	for range 3000 {
		names = append(names, lines("1 THRU 2")...)
	}
	got, fault = entries.Parse(append(names, lines(".")...))
	if fault != (api.Fault{}) || len(got) != 1 || len(got[0].Value) != 9000 {
		t.Error(fault)
	}
}

func TestExamples(t *testing.T) {
	checkEntry(t, "05 A PIC 9(3) COMP-3 VALUE 7 .", entries.Entry{Level: 5, Name: "A", Picture: "9(3)", Usage: api.Packed, HasUsage: true, Value: []api.Token{{Kind: api.Number, Text: "7"}}})
	checkEntry(t, "01 .", entries.Entry{Level: 1, Name: "FILLER"})
	checkEntry(t, `88 YES VALUES ARE "Y" "A" THRU "C" .`, entries.Entry{Level: 88, Name: "YES", Value: []api.Token{{Kind: api.Quote, Text: "Y"}, {Kind: api.Quote, Text: "A"}, {Kind: api.Word, Text: "THRU"}, {Kind: api.Quote, Text: "C"}}})
	checkEntry(t, "10 T OCCURS 1 TO 9 TIMES DEPENDING ON N OF R PIC X .", entries.Entry{Level: 10, Name: "T", Picture: "X", Occurs: 9, Least: 1, Depends: []string{"N", "R"}})
	checkEntry(t, "66 B RENAMES A THRU C .", entries.Entry{Level: 66, Name: "B", First: []string{"A"}, Last: []string{"C"}})
	checkFaults(t, api.ErrArg, "~50 A .")
	checkFaults(t, api.ErrForm, "05 ~MOVE .")
	checkFaults(t, api.ErrThere, "05 A PIC X ~PIC X .")
	checkFaults(t, api.ErrKind, "~05 A PIC X VALUE 1 .")
}

// Entries are read from the texts of programs.
func TestSource(t *testing.T) {
	l, fault := tokens.Source("       01  Total-Line.\n           05  Filler pic x(5) value \"A  B\".\n           05  T-1 pic zz9.99, occurs 3 times.\n       77  N pic\n           is s9(4) comp.\n", false)
	if fault != (api.Fault{}) {
		t.Fatal(fault)
	}
	checkParsed(t, l,
		entries.Entry{Level: 1, Name: "TOTAL-LINE", At: api.Pos{Line: 1, Column: 8}},
		entries.Entry{Level: 5, Name: "FILLER", Picture: "X(5)", Value: value(`"A  B"`), At: api.Pos{Line: 2, Column: 12}},
		entries.Entry{Level: 5, Name: "T-1", Picture: "ZZ9.99", Occurs: 3, At: api.Pos{Line: 3, Column: 12}},
		entries.Entry{Level: 77, Name: "N", Picture: "S9(4)", HasUsage: true, Usage: api.Binary, At: api.Pos{Line: 4, Column: 8}})
}
