package entries_test

import (
	"math"
	"strconv"
	"strings"
	"testing"

	"columnseven/api"
	"columnseven/entries"
)

// P7.3

func checkText(t *testing.T, e entries.Entry, want string) {
	t.Helper()
	if got := entries.Text(e); got != want {
		t.Errorf("%s: %q, wanted %q", brief(e), got, want)
	}
}

func TestTextOfLevelsAndNames(t *testing.T) {
	for _, n := range append(levels(), 50, 65, 67, 76, 78, 87, 89, 99, 10) {
		want := strconv.Itoa(n)
		if n < 10 {
			want = "0" + want
		}
		checkText(t, entries.Entry{Level: n, Name: "TOTAL-1"}, want+" TOTAL-1 .")
		checkText(t, entries.Entry{Level: n, Name: "FILLER"}, want+" FILLER .")
	}
	checkText(t, entries.Entry{Level: 5, Name: "move it"}, "05 move it .")
	checkText(t, entries.Entry{Level: 100, Name: "A"}, "100 A .")
	// The parts of the zero entry are its level, an empty name and the period.
	checkText(t, entries.Entry{}, "00  .")
}

func TestTextOfClauses(t *testing.T) {
	e := entries.Entry{Level: 5, Name: "A"}
	for _, x := range []struct {
		want   string
		change func(e *entries.Entry)
	}{
		{"REDEFINES B", func(e *entries.Entry) { e.Redefines = "B" }},
		{"REDEFINES b c", func(e *entries.Entry) { e.Redefines = "b c" }},
		{"PIC S9(3)V99", func(e *entries.Entry) { e.Picture = "S9(3)V99" }},
		{"PIC Q", func(e *entries.Entry) { e.Picture = "Q" }},
		{"PIC XXXXXXXXX", func(e *entries.Entry) { e.Picture = "XXXXXXXXX" }},
		{"USAGE DISPLAY", func(e *entries.Entry) { e.HasUsage = true }},
		{"USAGE COMP-3", func(e *entries.Entry) { e.HasUsage, e.Usage = true, api.Packed }},
		{"USAGE COMP", func(e *entries.Entry) { e.HasUsage, e.Usage = true, api.Binary }},
		{"", func(e *entries.Entry) { e.Usage = api.Packed }},
		{"", func(e *entries.Entry) { e.Usage = 3 }},
		{"SIGN LEADING", func(e *entries.Entry) { e.HasSign, e.Leading = true, true }},
		{"SIGN LEADING SEPARATE", func(e *entries.Entry) { e.HasSign, e.Leading, e.Separate = true, true, true }},
		{"SIGN TRAILING", func(e *entries.Entry) { e.HasSign = true }},
		{"SIGN TRAILING SEPARATE", func(e *entries.Entry) { e.HasSign, e.Separate = true, true }},
		{"", func(e *entries.Entry) { e.Leading, e.Separate = true, true }},
		{"OCCURS 1", func(e *entries.Entry) { e.Occurs = 1 }},
		{"OCCURS 4096", func(e *entries.Entry) { e.Occurs = 4096 }},
		{"OCCURS 4096", func(e *entries.Entry) { e.Occurs, e.Depends = 4096, []string{} }},
		{"OCCURS 5", func(e *entries.Entry) { e.Occurs, e.Least = 5, 3 }},
		{"OCCURS -5", func(e *entries.Entry) { e.Occurs = -5 }},
		{"", func(e *entries.Entry) { e.Least = 3 }},
		{"OCCURS 1 TO 9 DEPENDING ON N", func(e *entries.Entry) { e.Occurs, e.Least, e.Depends = 9, 1, []string{"N"} }},
		{"OCCURS 0 TO 9 DEPENDING ON N OF R", func(e *entries.Entry) { e.Occurs, e.Depends = 9, []string{"N", "R"} }},
		{"OCCURS 0 TO 0 DEPENDING ON N OF M OF R", func(e *entries.Entry) { e.Depends = []string{"N", "M", "R"} }},
		{"OCCURS -2 TO -1 DEPENDING ON ", func(e *entries.Entry) { e.Occurs, e.Least, e.Depends = -1, -2, []string{""} }},
		{"JUSTIFIED", func(e *entries.Entry) { e.Just = true }},
		{"BLANK ZERO", func(e *entries.Entry) { e.Blank = true }},
		{"VALUE 7", func(e *entries.Entry) { e.Value = value("7") }},
		{"VALUE ZEROES", func(e *entries.Entry) { e.Value = value("ZEROES") }},
		{`VALUE "A""B"`, func(e *entries.Entry) { e.Value = value(`"A""B"`) }},
		{`VALUE ALL "A"`, func(e *entries.Entry) { e.Value = value(`ALL "A"`) }},
		{`VALUE "Y" "A" THRU "C" -1.5`, func(e *entries.Entry) { e.Value = value(`"Y" "A" THRU "C" -1.5`) }},
		{`VALUE . == "" MOVE`, func(e *entries.Entry) {
			e.Value = []api.Token{{Kind: api.Period, Text: "?"}, {Kind: api.Pseudo}, {Kind: api.Quote}, {Kind: api.Word, Text: "MOVE"}}
		}},
		{"RENAMES B", func(e *entries.Entry) { e.First = []string{"B"} }},
		{"RENAMES B OF C OF D", func(e *entries.Entry) { e.First = []string{"B", "C", "D"} }},
		{"RENAMES B THRU C", func(e *entries.Entry) { e.First, e.Last = []string{"B"}, []string{"C"} }},
		{"RENAMES B OF C THRU D OF E", func(e *entries.Entry) { e.First, e.Last = []string{"B", "C"}, []string{"D", "E"} }},
		{"RENAMES B", func(e *entries.Entry) { e.First, e.Last = []string{"B"}, []string{} }},
		{"", func(e *entries.Entry) { e.Last = []string{"C"} }},
		{"", func(e *entries.Entry) { e.First, e.Depends, e.Value = []string{}, []string{}, []api.Token{} }},
		{"", func(e *entries.Entry) { e.At = api.Pos{Line: 3, Column: 4} }},
	} {
		want := "05 A ."
		if x.want != "" {
			want = "05 A " + x.want + " ."
		}
		checkText(t, changed(e, x.change), want)
	}
}

// The clauses have the order of the chapter.
func TestTextOfAllClauses(t *testing.T) {
	e := entries.Entry{
		Level: 88, Name: "A", Redefines: "B", Picture: "X(3)", Usage: api.Binary, HasUsage: true, Occurs: 9, Least: 2, Depends: []string{"N", "R"}, HasSign: true, Leading: true, Separate: true, Just: true, Blank: true,
		Value: value(`1 THRU ALL "A" ZERO`), First: []string{"C", "D"}, Last: []string{"E", "F"}, At: api.Pos{Line: 1, Column: 2},
	}
	want := `88 A REDEFINES B PIC X(3) USAGE COMP SIGN LEADING SEPARATE OCCURS 2 TO 9 DEPENDING ON N OF R JUSTIFIED BLANK ZERO VALUE 1 THRU ALL "A" ZERO RENAMES C OF D THRU E OF F .`
	checkText(t, e, want)
	// One clause less leaves all others as they are.
	for part, change := range map[string]func(e *entries.Entry){
		"REDEFINES B ": func(e *entries.Entry) { e.Redefines = "" }, "PIC X(3) ": func(e *entries.Entry) { e.Picture = "" }, "USAGE COMP ": func(e *entries.Entry) { e.HasUsage = false }, "SIGN LEADING SEPARATE ": func(e *entries.Entry) { e.HasSign = false }, " SEPARATE": func(e *entries.Entry) { e.Separate = false },
		"OCCURS 2 TO 9 DEPENDING ON N OF R ": func(e *entries.Entry) { e.Occurs, e.Depends = 0, nil }, "JUSTIFIED ": func(e *entries.Entry) { e.Just = false }, "BLANK ZERO ": func(e *entries.Entry) { e.Blank = false }, `VALUE 1 THRU ALL "A" ZERO `: func(e *entries.Entry) { e.Value = nil }, "RENAMES C OF D THRU E OF F ": func(e *entries.Entry) { e.First = nil }, "THRU E OF F ": func(e *entries.Entry) { e.Last = nil },
	} {
		checkText(t, changed(e, change), strings.Replace(want, part, "", 1))
	}
	checkText(t, changed(e, func(e *entries.Entry) { e.Depends = nil }), strings.Replace(want, "2 TO 9 DEPENDING ON N OF R", "9", 1))
	checkText(t, changed(e, func(e *entries.Entry) { e.Occurs = 0 }), strings.Replace(want, "2 TO 9", "2 TO 0", 1))
	checkText(t, changed(e, func(e *entries.Entry) { e.Leading = false }), strings.Replace(want, "LEADING", "TRAILING", 1))
}

func TestTextOfExamples(t *testing.T) {
	for text, want := range map[string]string{
		"05 A PIC 9(3) COMP-3 VALUE 7 .": "05 A PIC 9(3) USAGE COMP-3 VALUE 7 .",
		"1 .":                            "01 FILLER .",
		`88 YES VALUES ARE "Y" "A" THROUGH "C" .`:                        `88 YES VALUE "Y" "A" THRU "C" .`,
		"10 T OCCURS 1 TO 9 TIMES DEPENDING N IN R PICTURE IS X .":       "10 T PIC X OCCURS 1 TO 9 DEPENDING ON N OF R .",
		"66 B RENAMES A THROUGH C .":                                     "66 B RENAMES A THRU C .",
		"5 A OCCURS 007 PIC S9 VALUE +007 TRAILING SEPARATE CHARACTER .": "05 A PIC S9 SIGN TRAILING SEPARATE OCCURS 7 VALUE +007 .",
		"77 A BLANK WHEN ZEROES PIC Z9 .":                                "77 A PIC Z9 BLANK ZERO .",
		"77 A JUST RIGHT PIC X DISPLAY REDEFINES B .":                    "77 A REDEFINES B PIC X USAGE DISPLAY JUSTIFIED .",
	} {
		list, fault := entries.Parse(lines(text))
		if len(list) != 1 || fault != (api.Fault{}) {
			t.Fatal(text, fault)
		}
		checkText(t, list[0], want)
	}
}

// Text accepts any entry.
func TestTextOfExtremes(t *testing.T) {
	for _, n := range []int{math.MinInt, -1, 0, 1, math.MaxInt} {
		for usage := range 256 {
			e := entries.Entry{Level: n, Usage: api.Usage(usage), HasUsage: true, Occurs: n, Least: n, Depends: []string{"", "\xff"}, Value: make([]api.Token, 3), First: make([]string, 3), Last: []string{""}}
			if text := entries.Text(e); !strings.HasSuffix(text, " .") || !strings.Contains(text, " USAGE ") || !strings.Contains(text, strconv.Itoa(n)) {
				t.Error(text)
			}
			entries.Check(e)
		}
	}
	e := entries.Entry{Level: 88, Name: "A", Value: make([]api.Token, 100000)}
	for i := range e.Value {
		e.Value[i] = api.Token{Kind: api.Number, Text: "1"}
	}
	checkErrors(t, api.OK, e)
	checkText(t, e, "88 A VALUE"+strings.Repeat(" 1", 100000)+" .")
}
