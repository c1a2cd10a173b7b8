package divisions_test

import (
	"reflect"
	"slices"
	"strings"
	"testing"

	"columnseven/api"
	"columnseven/divisions"
	"columnseven/entries"
)

// P8.2

// named returns entries with some names.
func named(names string) []entries.Entry {
	var list []entries.Entry
	for _, name := range strings.Fields(names) {
		list = append(list, entries.Entry{Level: 5, Name: name})
	}
	return list
}

func TestRecords(t *testing.T) {
	for _, x := range []struct{ first, second, working, linkage, want string }{
		{"", "", "", "", ""}, {"A", "", "", "", "A"}, {"", "A", "", "", "A"}, {"", "", "A", "", "A"}, {"", "", "", "A", "A"},
		{"A B", "C D", "E F", "G H", "A B C D E F G H"}, {"C", "B", "A", "Z", "C B A Z"}, {"A", "A", "A", "A", "A A A A"}, {"", "B", "", "A", "B A"}, {"A B C", "", "D", "", "A B C D"},
	} {
		p := divisions.Program{Files: []divisions.File{{Records: named(x.first)}, {}, {Sort: true, Records: named(x.second)}}, Working: named(x.working), Linkage: named(x.linkage)}
		if got := divisions.Records(p); !slices.EqualFunc(got, named(x.want), func(a, b entries.Entry) bool { return reflect.DeepEqual(a, b) }) {
			t.Errorf("%v: %v", x, got)
		}
	}
	if got := divisions.Records(divisions.Program{}); len(got) != 0 {
		t.Error(got)
	}
	// Only the records count.
	p := divisions.Program{Name: "P", Reports: scan("05 A PIC X."), Screens: scan("05 A PIC X."), Using: []string{"A"}, Uses: []divisions.Use{{}}, Paragraphs: []divisions.Paragraph{{Name: "A"}}}
	if got := divisions.Records(p); len(got) != 0 {
		t.Error(got)
	}
}

func TestRecordsOfPrograms(t *testing.T) {
	p := parsed(t, describing("SD G. 01 A. 05 B PIC X. FD F. 01 C PIC X. 01 D PIC X. WORKING-STORAGE SECTION. 77 E PIC X. LINKAGE SECTION. 01 G. 05 H PIC 9 OCCURS 1 TO 5 DEPENDING ON E. 66 I RENAMES H THRU H. 88 J VALUE 1 2. SCREEN SECTION. 01 K."))
	var names []string
	for _, e := range divisions.Records(p) {
		names = append(names, e.Name)
	}
	// The order of the files is that of SELECT.
	if strings.Join(names, "") != "CDABEGHIJ" {
		t.Error(names)
	}
	if list := divisions.Records(p); !reflect.DeepEqual(list[4:5], p.Working) || !reflect.DeepEqual(list[5:], p.Linkage) || !reflect.DeepEqual(list[:2], p.Files[0].Records) {
		t.Error(list)
	}
}

// Any entries are returned as they are, with all fields.
func TestAnyRecords(t *testing.T) {
	e := entries.Entry{Level: -1, Name: "a", Redefines: "R", Picture: "P", Usage: 77, HasUsage: true, Occurs: -5, Least: 9, Depends: []string{"", "D"}, HasSign: true, Leading: true, Separate: true, Just: true, Blank: true, Value: []api.Token{{Kind: 99, Text: "V", At: api.Pos{Line: 1, Column: 2}, Left: true}}, First: []string{"F"}, Last: []string{"L", "M"}, At: api.Pos{Line: -1, Column: 3}}
	p := divisions.Program{Files: []divisions.File{{Records: []entries.Entry{e}}}, Working: []entries.Entry{{}, e}, Linkage: []entries.Entry{e, {}}}
	if got := divisions.Records(p); !reflect.DeepEqual(got, []entries.Entry{e, {}, e, e, {}}) {
		t.Error(got)
	}
}

// R1, R4

func TestRecordsAreNewMemory(t *testing.T) {
	texts := func(text string, n int) []string {
		return append(make([]string, 0, n+9), slices.Repeat([]string{text}, n)...)
	}
	full := func(n int) entries.Entry {
		values := append(make([]api.Token, 0, n+9), slices.Repeat([]api.Token{{Text: "V"}}, n)...)
		return entries.Entry{Level: 5, Depends: texts("D", n), Value: values, First: texts("F", n+1), Last: texts("L", n+2)}
	}
	// A list of 17 texts, or one of 7 tokens, gets more memory than it needs when it is copied.
	list := func(n int) []entries.Entry {
		l := make([]entries.Entry, 0, n+9)
		for i := range n {
			l = append(l, full(6*i+1))
		}
		return l
	}
	for n := range 6 {
		p := divisions.Program{Files: []divisions.File{{Records: list(n)}, {Records: list(1)}}, Working: list(2), Linkage: list(n)}
		want := divisions.Program{Files: []divisions.File{{Records: list(n)}, {Records: list(1)}}, Working: list(2), Linkage: list(n)}
		got, again := divisions.Records(p), divisions.Records(p)
		checkMemory(t, reflect.ValueOf(got))
		spoil(reflect.ValueOf(got))
		if !reflect.DeepEqual(p, want) || !reflect.DeepEqual(again, slices.Concat(list(n), list(1), list(2), list(n))) {
			t.Errorf("%+v, %+v", p, again)
		}
	}
	// Where only one list is not empty, it is another one, too.
	p := divisions.Program{Working: list(3)}
	spoil(reflect.ValueOf(divisions.Records(p)))
	if !reflect.DeepEqual(p.Working, list(3)) {
		t.Error(p.Working)
	}
}
