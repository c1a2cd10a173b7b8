package entries_test

import (
	"math"
	"slices"
	"strings"
	"testing"

	"columnseven/api"
	"columnseven/entries"
	"columnseven/words"
)

// P7.2

// The simplest entries of their sorts.
func plain() entries.Entry   { return entries.Entry{Level: 5, Name: "A"} }
func item() entries.Entry    { return entries.Entry{Level: 5, Name: "A", Picture: "X"} }
func rename() entries.Entry  { return entries.Entry{Level: 66, Name: "A", First: []string{"B"}} }
func choice() entries.Entry  { return entries.Entry{Level: 88, Name: "A", Value: value("1")} }
func integer() entries.Entry { return entries.Entry{Level: 5, Name: "A", Picture: "S9(3)"} }

func TestCheckLevels(t *testing.T) {
	right := map[int]bool{}
	for _, n := range levels() {
		right[n] = true
	}
	for n := -300; n <= 300; n++ {
		e := entries.Entry{Level: n, Name: "A"}
		switch n {
		case 66:
			e.First = []string{"B"}
		case 88:
			e.Value = value("1")
		}
		if right[n] {
			checkErrors(t, api.OK, e, changed(e, func(e *entries.Entry) { e.At = api.Pos{Line: -1, Column: math.MaxInt} }))
		} else {
			checkErrors(t, api.ErrArg, e)
		}
	}
	for _, n := range []int{math.MinInt, math.MaxInt, math.MinInt + 5, 1<<32 + 5, 1<<8 + 5, -1 << 31} {
		checkErrors(t, api.ErrArg, entries.Entry{Level: n, Name: "A"}, entries.Entry{Level: n})
	}
	checkErrors(t, api.ErrArg, entries.Entry{})
}

// named returns entries that have a name in each of the places of names.
func named(name string) []entries.Entry {
	return []entries.Entry{
		{Level: 5, Name: name}, {Level: 1, Name: name}, {Level: 77, Name: name, Picture: "X"}, {Level: 66, Name: name, First: []string{"B"}}, {Level: 88, Name: name, Value: value("1")},
		{Level: 5, Name: "A", Redefines: name}, {Level: 1, Name: "FILLER", Redefines: name, Picture: "X"},
		{Level: 5, Name: "A", Occurs: 2, Depends: []string{name}}, {Level: 5, Name: "A", Occurs: 2, Depends: []string{"B", name}}, {Level: 5, Name: "A", Occurs: 2, Depends: []string{"B", name, "C"}},
		{Level: 66, Name: "A", First: []string{name}}, {Level: 66, Name: "A", First: []string{"B", name}}, {Level: 66, Name: "A", First: []string{name, "B"}},
		{Level: 66, Name: "A", First: []string{"B"}, Last: []string{name}}, {Level: 66, Name: "A", First: []string{"B"}, Last: []string{"B", name}}, {Level: 66, Name: "A", First: []string{"B"}, Last: []string{name, "B"}},
	}
}

func TestCheckNames(t *testing.T) {
	for _, name := range []string{"A", "Z", "A-1", "1A", "1-A", "0000A", "TOTAL-AMOUNT", "MOVES", "FILLERS", "FILLER-1", strings.Repeat("A", 30), strings.Repeat("9", 29) + "A", "A--B", "E-5", "D", "IS-A"} {
		checkErrors(t, api.OK, named(name)...)
	}
	for _, name := range []string{
		"a", "Total", "A-", "-A", "-", "12", "1", "-1", "1-", "A B", " A", "A ", "  A  ", "A.", "A .", ".A", "A,", "A, ", "A;", "A\n", "\nA", "\n", "A\r", "A\t", "\tA", "A\x00", "\x00", "Ä", "A\xff", "\xff", `"A"`, `"A`, `A"`, "(A)", "A(", "A*", "A=", "==", "A==", "A_B", "A'", "A+1", "A/B", "*", " ", "  ", ",", ".", "$", "+A", "=A",
		strings.Repeat("A", 31), strings.Repeat("A", 32), strings.Repeat("A", 29) + "-", strings.Repeat("A", 29) + "-A", strings.Repeat("A", 2000000), strings.Repeat("1", 30), strings.Repeat(" ", 70) + "A", strings.Repeat(" ", 2000000), "A" + strings.Repeat(" ", 70), "           A", "A\n           ", "A\n      *", "A\n      -    B",
	} {
		checkErrors(t, api.ErrWord, named(name)...)
	}
	for _, word := range words.All() {
		list := named(word)
		if word == "FILLER" {
			checkErrors(t, api.OK, list[:4]...)
			checkErrors(t, api.ErrKind, list[4])
			list = list[5:]
		}
		checkErrors(t, api.ErrWord, list...)
	}
	list := named("")
	checkErrors(t, api.ErrWord, slices.Concat(list[:5], list[7:])...)
	checkErrors(t, api.OK, list[5:7]...)
}

// others returns an entry with each of its fields changed that stand for clauses, one at a time.
func others(e entries.Entry) []entries.Entry {
	var list []entries.Entry
	for _, change := range []func(e *entries.Entry){
		func(e *entries.Entry) { e.Redefines = "B" }, func(e *entries.Entry) { e.Picture = "X" }, func(e *entries.Entry) { e.Picture = "Q" },
		func(e *entries.Entry) { e.Usage = api.Packed }, func(e *entries.Entry) { e.Usage = api.Binary }, func(e *entries.Entry) { e.Usage = 3 }, func(e *entries.Entry) { e.Usage = 255 }, func(e *entries.Entry) { e.HasUsage = true },
		func(e *entries.Entry) { e.Occurs = 1 }, func(e *entries.Entry) { e.Occurs = -1 }, func(e *entries.Entry) { e.Occurs = math.MinInt }, func(e *entries.Entry) { e.Occurs = 4097 }, func(e *entries.Entry) { e.Least = 1 }, func(e *entries.Entry) { e.Least = -1 }, func(e *entries.Entry) { e.Depends = []string{"B"} },
		func(e *entries.Entry) { e.HasSign = true }, func(e *entries.Entry) { e.Leading = true }, func(e *entries.Entry) { e.Separate = true }, func(e *entries.Entry) { e.Just = true }, func(e *entries.Entry) { e.Blank = true },
	} {
		list = append(list, changed(e, change))
	}
	return list
}

func TestCheckRenamings(t *testing.T) {
	e := rename()
	checkErrors(t, api.OK, e, entries.Entry{Level: 66, Name: "FILLER", First: []string{"B", "C"}, Last: []string{"D", "E"}}, changed(e, func(e *entries.Entry) {
		e.Last, e.Depends, e.Value = []string{}, []string{}, []api.Token{}
	}))
	checkErrors(t, api.ErrKind, others(e)...)
	checkErrors(t, api.ErrKind, changed(e, func(e *entries.Entry) { e.Value = value("1") }), changed(e, func(e *entries.Entry) { e.First = nil }), changed(e, func(e *entries.Entry) { e.First = []string{} }), changed(e, func(e *entries.Entry) { e.First, e.Last = nil, []string{"B"} }), changed(e, func(e *entries.Entry) { e.Value = make([]api.Token, 1) }))
}

func TestCheckConditions(t *testing.T) {
	e := choice()
	checkErrors(t, api.OK, e, changed(e, func(e *entries.Entry) { e.First, e.Last, e.Depends = []string{}, []string{}, []string{} }))
	checkErrors(t, api.ErrKind, others(e)...)
	checkErrors(t, api.ErrKind, changed(e, func(e *entries.Entry) { e.Name = "FILLER" }), changed(e, func(e *entries.Entry) { e.Value = nil }), changed(e, func(e *entries.Entry) { e.Value = []api.Token{} }), changed(e, func(e *entries.Entry) { e.First = []string{"B"} }), changed(e, func(e *entries.Entry) { e.Last = []string{"B"} }))
}

// First and Last are of level 66 only, and items that occur are of no record.
func TestCheckOtherLevels(t *testing.T) {
	for _, n := range levels() {
		if n == 66 || n == 88 {
			continue
		}
		for _, picture := range []string{"", "X"} {
			e := entries.Entry{Level: n, Name: "A", Picture: picture}
			checkErrors(t, api.OK, e, changed(e, func(e *entries.Entry) { e.First, e.Last = []string{}, []string{} }))
			checkErrors(t, api.ErrKind, changed(e, func(e *entries.Entry) { e.First = []string{"B"} }), changed(e, func(e *entries.Entry) { e.Last = []string{"B"} }))
			occurs := changed(e, func(e *entries.Entry) { e.Occurs = 1 })
			depends := changed(e, func(e *entries.Entry) { e.Occurs, e.Least, e.Depends = 4096, 0, []string{"B"} })
			if n == 1 || n == 77 {
				checkErrors(t, api.ErrKind, occurs, depends, changed(e, func(e *entries.Entry) { e.Occurs = -1 }), changed(e, func(e *entries.Entry) { e.Occurs = 4097 }))
				checkErrors(t, api.ErrArg, changed(e, func(e *entries.Entry) { e.Depends = []string{"B"} }), changed(e, func(e *entries.Entry) { e.Least = 1 }), changed(e, func(e *entries.Entry) { e.Least = -1 }))
			} else {
				checkErrors(t, api.OK, occurs, depends)
			}
		}
	}
}

func TestCheckOccurs(t *testing.T) {
	numbers := []int{math.MinInt, -4096, -2, -1, 0, 1, 2, 3, 4094, 4095, 4096, 4097, 4098, 1 << 40, math.MaxInt}
	for _, e := range []entries.Entry{plain(), item(), {Level: 49, Name: "FILLER", Redefines: "B"}} {
		for _, e.Occurs = range numbers {
			for _, e.Least = range numbers {
				e.Depends = nil
				want := api.ErrArg
				if 0 <= e.Occurs && e.Occurs <= 4096 && e.Least == 0 {
					want = api.OK
				}
				checkErrors(t, want, e, changed(e, func(e *entries.Entry) { e.Depends = []string{} }))
				want = api.ErrArg
				if 0 <= e.Least && e.Least < e.Occurs && e.Occurs <= 4096 {
					want = api.OK
				}
				e.Depends = []string{"N"}
				checkErrors(t, want, e)
				e.Depends = []string{"N", "R"}
				checkErrors(t, want, e)
			}
		}
	}
}

func TestCheckWithoutPicture(t *testing.T) {
	for _, level := range []int{1, 2, 49, 77} {
		e := entries.Entry{Level: level, Name: "A"}
		checkErrors(t, api.OK, e, changed(e, func(e *entries.Entry) { e.Redefines = "B" }), changed(e, func(e *entries.Entry) { e.Value = value(`"A"`) }), changed(e, func(e *entries.Entry) { e.Value = value(`ALL "A"`) }), changed(e, func(e *entries.Entry) { e.Value = value("ZERO") }))
		checkErrors(t, api.ErrKind,
			changed(e, func(e *entries.Entry) { e.HasUsage = true }), changed(e, func(e *entries.Entry) { e.HasSign = true }), changed(e, func(e *entries.Entry) { e.Leading = true }), changed(e, func(e *entries.Entry) { e.Separate = true }), changed(e, func(e *entries.Entry) { e.Just = true }), changed(e, func(e *entries.Entry) { e.Blank = true }),
			changed(e, func(e *entries.Entry) { e.Usage = api.Packed }), changed(e, func(e *entries.Entry) { e.Usage = api.Binary }), changed(e, func(e *entries.Entry) { e.Usage = 3 }), changed(e, func(e *entries.Entry) { e.Usage = 255 }), changed(e, func(e *entries.Entry) { e.Value = value("1") }))
	}
}

// categories returns pictures with their categories.
func categories() map[string]api.Category {
	return map[string]api.Category{
		"A": api.Alphabetic, "X": api.Alphanumeric, "9X": api.Alphanumeric, "XBX": api.AlphaEdited, "9(3)": api.Numeric, "S9(3)": api.Numeric, "S9V9": api.Numeric, "PP9": api.Numeric, "Z9": api.Edited, "-9": api.Edited, "9CR": api.Edited, "9.9": api.Edited,
	}
}

func TestCheckClausesOfPictures(t *testing.T) {
	kind := func(right bool) api.Errno {
		if right {
			return api.OK
		}
		return api.ErrKind
	}
	for picture, category := range categories() {
		e := entries.Entry{Level: 5, Name: "A", Picture: picture}
		numeric, signed := category == api.Numeric, strings.HasPrefix(picture, "S")
		checkErrors(t, api.OK, e, changed(e, func(e *entries.Entry) { e.HasUsage = true }))
		for usage := range 256 {
			e.Usage, e.HasUsage = api.Usage(usage), false
			checkErrors(t, kind(usage == 0), e)
			e.HasUsage = true
			checkErrors(t, kind(usage == 0 || usage <= 2 && numeric), e)
			e.HasSign = true
			checkErrors(t, kind(usage == 0 && signed), e)
			e.HasSign = false
		}
		e.Usage, e.HasUsage = api.Display, false
		for bits := range 8 {
			e.HasSign, e.Leading, e.Separate = bits&1 > 0, bits&2 > 0, bits&4 > 0
			checkErrors(t, kind(bits == 0 || e.HasSign && signed), e)
		}
		e.HasSign, e.Leading, e.Separate = false, false, false
		checkErrors(t, kind(category == api.Alphabetic || category == api.Alphanumeric), changed(e, func(e *entries.Entry) { e.Just = true }))
		checkErrors(t, kind(category == api.Edited), changed(e, func(e *entries.Entry) { e.Blank = true }))
	}
}

func TestCheckPictures(t *testing.T) {
	for picture, want := range map[string]api.Errno{"Q": api.ErrForm, "x": api.ErrForm, "X(": api.ErrForm, " ": api.ErrForm, "X ": api.ErrForm, "9Z": api.ErrForm, "X(0)": api.ErrForm, "X(257)": api.ErrLimit, "9(19)": api.ErrLimit, "X.": api.ErrForm, "9,": api.ErrForm} {
		e := entries.Entry{Level: 5, Name: "A", Picture: picture}
		checkErrors(t, want, e, changed(e, func(e *entries.Entry) { e.Usage = 3 }), changed(e, func(e *entries.Entry) { e.Just, e.Blank, e.Leading, e.Separate = true, true, true, true }), changed(e, func(e *entries.Entry) { e.Value, e.Redefines = value(`"A" "B"`), "B" }))
	}
}

// literals returns literals without errors.
func literals() []string {
	return append(strings.Split(figuratives, "|"), "0", "7", "007", "-1.50", "+.5", "123456789012345678", `"A"`, `"1"`, `"ZERO"`, `""""`, `ALL "A"`, `ALL "0"`, `"`+strings.Repeat("A", 256)+`"`, `ALL "`+strings.Repeat("A", 256)+`"`)
}

// wrong returns tokens that are a literal, but not for words.Literal, with the error.
func wrong() map[api.Token]api.Errno {
	return map[api.Token]api.Errno{
		{Kind: api.Number}: api.ErrForm, {Kind: api.Number, Text: "5."}: api.ErrForm, {Kind: api.Number, Text: "A"}: api.ErrForm, {Kind: api.Number, Text: "1.2.3"}: api.ErrForm, {Kind: api.Number, Text: "+"}: api.ErrForm, {Kind: api.Number, Text: "ZERO"}: api.ErrForm,
		{Kind: api.Number, Text: "1234567890123456789"}: api.ErrWidth, {Kind: api.Quote}: api.ErrWidth, {Kind: api.Quote, Text: strings.Repeat("A", 257)}: api.ErrWidth,
	}
}

// foreign returns tokens that are not a literal.
func foreign() []api.Token {
	l := []api.Token{{}, {Text: "1"}, {Kind: api.Word}, {Kind: api.Word, Text: "zero"}, {Kind: api.Word, Text: "A"}, {Kind: api.Word, Text: "1"}, {Kind: api.Word, Text: "FILLER"}, {Kind: api.Picture, Text: "9"}, {Kind: api.Sign, Text: "+"}, {Kind: api.Period, Text: "."}, {Kind: api.Pseudo, Text: "=="}, {Kind: 8, Text: "1"}, {Kind: 255, Text: "ZERO"}, {Kind: api.Sign, Text: "ALL"}, {Kind: api.Picture, Text: "ZERO"}}
	for _, word := range words.All() {
		if !strings.Contains("|"+figuratives+"|ALL|", "|"+word+"|") {
			l = append(l, api.Token{Kind: api.Word, Text: word})
		}
	}
	return l
}

func TestCheckValues(t *testing.T) {
	for picture, category := range categories() {
		e := entries.Entry{Level: 5, Name: "A", Picture: picture}
		for _, text := range literals() {
			e.Value = value(text)
			want := api.OK
			zero := strings.HasPrefix(text, "ZERO")
			number := e.Value[0].Kind == api.Number
			if category == api.Numeric && !number && !zero || category != api.Numeric && number {
				want = api.ErrKind
			}
			checkErrors(t, want, e)
			checkErrors(t, api.ErrKind, changed(e, func(e *entries.Entry) { e.Redefines = "B" }))
		}
	}
	for _, e := range []entries.Entry{item(), integer(), plain(), {Level: 77, Name: "A", Picture: "9"}} {
		for wrong, want := range wrong() {
			e.Value = []api.Token{wrong}
			checkErrors(t, want, e)
			checkErrors(t, api.ErrKind, changed(e, func(e *entries.Entry) { e.Redefines = "B" }), changed(e, func(e *entries.Entry) { e.Value = append(value("1"), wrong) }), changed(e, func(e *entries.Entry) { e.Value = append(e.Value, wrong) }), changed(e, func(e *entries.Entry) { e.Value = append(e.Value, api.Token{Kind: api.Period}) }))
			e.Value = append(value("ALL"), wrong)
			if wrong.Kind != api.Quote {
				want = api.ErrKind
			}
			checkErrors(t, want, e)
			checkErrors(t, api.ErrKind, changed(e, func(e *entries.Entry) { e.Value = append(e.Value, wrong) }))
		}
		for _, foreign := range foreign() {
			e.Value = []api.Token{foreign}
			checkErrors(t, api.ErrKind, e)
			e.Value = append(value("ALL"), foreign)
			checkErrors(t, api.ErrKind, e)
			e.Value = append(value(`ALL "A"`), foreign)
			checkErrors(t, api.ErrKind, e)
			e.Value = append(value("ZERO"), foreign)
			checkErrors(t, api.ErrKind, e)
			e.Value = append([]api.Token{foreign}, value("ZERO")...)
			checkErrors(t, api.ErrKind, e)
		}
		for _, text := range []string{"ALL", "ALL 1", "ALL ZERO", `ALL ALL "A"`, "1 2", "1 THRU 2", `"A" "B"`, `"A" THRU "B"`, `ALL "A" "B"`, `ALL "A" ALL "B"`, `"A" ALL "B"`, "ZERO ZERO", "THRU 1", "ZERO THRU"} {
			e.Value = value(text)
			checkErrors(t, api.ErrKind, e)
		}
	}
}

func TestCheckValuesOfConditions(t *testing.T) {
	e := choice()
	check := func(want api.Errno, l ...api.Token) {
		t.Helper()
		e.Value = l
		checkErrors(t, want, e)
	}
	for _, one := range literals() {
		check(api.OK, value(one)...)
		for _, other := range literals() {
			for _, text := range []string{one + " " + other, one + " THRU " + other, one + " THRU " + other + " " + one, other + " " + one + " THRU " + other, one + " THRU " + other + " " + one + " THRU " + other} {
				check(api.OK, value(text)...)
			}
		}
	}
	for _, text := range []string{
		"ALL", "THRU", "THRU 1", "1 THRU", "1 THRU THRU 2", "1 THRU 2 THRU", "1 THRU 2 THRU 3", "1 2 THRU", "1 2 THRU 3 THRU 4", "1 ALL", "1 ALL 2", "1 THRU ALL", "1 THRU ALL 2", "ALL THRU", "ALL 1", "ALL ZERO", `ALL ALL "A"`, `ALL "A" THRU`, `ALL "A" THRU ALL`, `ALL "A" ALL`, `THRU ALL "A"`,
		"1 THROUGH 2", "THROUGH", "1 THROUGH", `"A" THROUGH "B"`, "1 TO 2", "1 IS 2", "IS 1", "ARE 1", "1 OR 2", "1 AND 2", "( 1 )", "1 .", "1 = 2",
	} {
		check(api.ErrKind, value(text)...)
	}
	for _, foreign := range foreign() {
		check(api.ErrKind, foreign)
		check(api.ErrKind, append(value("ALL"), foreign)...)
		check(api.ErrKind, append([]api.Token{foreign}, value("1")...)...)
		check(api.ErrKind, append(value("1 THRU"), foreign)...)
		check(api.ErrKind, append(value("1 THRU 2"), foreign)...)
		if foreign.Text != "THRU" {
			check(api.ErrKind, append(append(value("1 2"), foreign), value("3")...)...)
		}
		check(api.ErrKind, append(value("1 THRU ALL"), foreign)...)
	}
	for wrong, want := range wrong() {
		check(want, wrong)
		check(want, wrong, wrong)
		check(want, append(value("1 THRU"), wrong)...)
		check(want, append(value("1 THRU 2"), wrong)...)
		check(want, append(value(`"A" ALL "B"`), wrong)...)
		// The first element that is not right counts.
		check(want, append([]api.Token{wrong}, value("THRU")...)...)
		check(want, append([]api.Token{wrong}, value("ALL")...)...)
		check(want, append([]api.Token{wrong}, value("MOVE")...)...)
		check(want, append(append(value("1 THRU"), wrong), value("THRU 3")...)...)
		check(api.ErrKind, append(value("THRU"), wrong)...)
		check(api.ErrKind, append(value("1 MOVE"), wrong)...)
		check(api.ErrKind, append(value("1 THRU 2 THRU"), wrong)...)
		check(want, append([]api.Token{wrong}, api.Token{Kind: api.Number, Text: "1234567890123456789"}, api.Token{Kind: api.Number})...)
		if wrong.Kind != api.Quote {
			want = api.ErrKind
		}
		check(want, append(value("ALL"), wrong)...)
		check(want, append(value("1 THRU ALL"), wrong)...)
	}
}

// Tokens of values may have positions.
func TestCheckPositions(t *testing.T) {
	for text, e := range map[string]entries.Entry{"7": integer(), `ALL "A"`: item(), `1 THRU ALL "A" ZERO`: choice()} {
		e.Value = lines("", text)
		e.Value[0].Left = true
		checkErrors(t, api.OK, e)
	}
}

// A defect is what an entry may have, with its error.
type defect struct {
	e     api.Errno
	field string // entries have only one of the defects in the same field
	spoil func(e *entries.Entry)
}

// checkOrder fails unless Check returns the error of each defect, and of the first one of two.
func checkOrder(t *testing.T, good entries.Entry, list ...defect) {
	t.Helper()
	checkErrors(t, api.OK, good)
	for i, one := range list {
		spoiled := changed(good, one.spoil)
		if got := entries.Check(spoiled); got != one.e {
			t.Errorf("%d of level %d: %s: %d, wanted %d", i, good.Level, brief(spoiled), got, one.e)
		}
		for j, other := range list[i+1:] {
			if one.field == other.field {
				continue
			}
			both := changed(spoiled, other.spoil)
			if got := entries.Check(both); got != one.e {
				t.Errorf("%d and %d of level %d: %s: %d, wanted %d", i, i+1+j, good.Level, brief(both), got, one.e)
			}
		}
	}
}

// firstDefects returns the levels and names that no entry may have.
func firstDefects() []defect {
	return []defect{
		{api.ErrArg, "level", func(e *entries.Entry) { e.Level = 50 }},
		{api.ErrArg, "level", func(e *entries.Entry) { e.Level = 0 }},
		{api.ErrWord, "name", func(e *entries.Entry) { e.Name = "" }},
		{api.ErrWord, "name", func(e *entries.Entry) { e.Name = "MOVE" }},
		{api.ErrWord, "redefines", func(e *entries.Entry) { e.Redefines = "a" }},
		{api.ErrWord, "depends", func(e *entries.Entry) { e.Depends = []string{"A", "12"} }},
		{api.ErrWord, "first", func(e *entries.Entry) { e.First = []string{"FILLER"} }},
		{api.ErrWord, "last", func(e *entries.Entry) { e.Last = []string{""} }},
	}
}

func TestOrderOfErrors(t *testing.T) {
	kinds := []defect{
		{api.ErrKind, "redefines", func(e *entries.Entry) { e.Redefines = "B" }}, {api.ErrKind, "picture", func(e *entries.Entry) { e.Picture = "Q" }}, {api.ErrKind, "usage", func(e *entries.Entry) { e.Usage = 3 }}, {api.ErrKind, "usage", func(e *entries.Entry) { e.HasUsage = true }},
		{api.ErrKind, "occurs", func(e *entries.Entry) { e.Occurs = 5000 }}, {api.ErrKind, "least", func(e *entries.Entry) { e.Least = -1 }}, {api.ErrKind, "depends", func(e *entries.Entry) { e.Depends = []string{"B"} }}, {api.ErrKind, "sign", func(e *entries.Entry) { e.HasSign = true }}, {api.ErrKind, "sign", func(e *entries.Entry) { e.Leading = true }}, {api.ErrKind, "just", func(e *entries.Entry) { e.Just = true }}, {api.ErrKind, "blank", func(e *entries.Entry) { e.Blank = true }},
	}
	checkOrder(t, rename(), append(append(firstDefects(), kinds...),
		defect{api.ErrKind, "first", func(e *entries.Entry) { e.First = nil }}, defect{api.ErrKind, "value", func(e *entries.Entry) { e.Value = value("MOVE") }})...)
	checkOrder(t, choice(), append(append(firstDefects(), kinds...),
		defect{api.ErrKind, "name", func(e *entries.Entry) { e.Name = "FILLER" }}, defect{api.ErrKind, "first", func(e *entries.Entry) { e.First = []string{"B"} }}, defect{api.ErrKind, "last", func(e *entries.Entry) { e.Last = []string{"B"} }}, defect{api.ErrKind, "value", func(e *entries.Entry) { e.Value = nil }},
		defect{api.ErrForm, "value", func(e *entries.Entry) { e.Value = []api.Token{{Kind: api.Number, Text: "5."}} }}, defect{api.ErrWidth, "value", func(e *entries.Entry) { e.Value = []api.Token{{Kind: api.Quote}} }}, defect{api.ErrKind, "value", func(e *entries.Entry) { e.Value = value("1 THRU") }})...)
	behind := []defect{
		{api.ErrArg, "occurs", func(e *entries.Entry) { e.Occurs = 4097 }}, {api.ErrArg, "occurs", func(e *entries.Entry) { e.Occurs = -1 }}, {api.ErrArg, "occurs", func(e *entries.Entry) { e.Least = -1 }}, {api.ErrArg, "occurs", func(e *entries.Entry) { e.Least = 1 }}, {api.ErrArg, "occurs", func(e *entries.Entry) { e.Occurs, e.Least, e.Depends = 3, 3, append(e.Depends, "B") }},
		{api.ErrForm, "picture", func(e *entries.Entry) { e.Picture = "Q" }}, {api.ErrLimit, "picture", func(e *entries.Entry) { e.Picture = "X(257)" }},
		{api.ErrKind, "usage", func(e *entries.Entry) { e.Usage = 3 }}, {api.ErrKind, "usage", func(e *entries.Entry) { e.Usage = api.Packed }}, {api.ErrKind, "usage", func(e *entries.Entry) { e.Usage, e.HasUsage = 3, true }}, {api.ErrKind, "sign", func(e *entries.Entry) { e.Leading = true }}, {api.ErrKind, "sign", func(e *entries.Entry) { e.Separate = true }}, {api.ErrKind, "blank", func(e *entries.Entry) { e.Blank = true }},
		{api.ErrKind, "redefines", func(e *entries.Entry) { e.Redefines = "B" }}, {api.ErrKind, "value", func(e *entries.Entry) { e.Value = append(e.Value, e.Value...) }}, {api.ErrKind, "value", func(e *entries.Entry) { e.Value = value("FILLER") }},
		{api.ErrForm, "value", func(e *entries.Entry) { e.Value = []api.Token{{Kind: api.Number, Text: "5."}} }}, {api.ErrWidth, "value", func(e *entries.Entry) { e.Value = []api.Token{{Kind: api.Quote}} }},
	}
	renames := []defect{{api.ErrKind, "first", func(e *entries.Entry) { e.First = []string{"B"} }}, {api.ErrKind, "last", func(e *entries.Entry) { e.Last = []string{"B"} }}}
	just := defect{api.ErrKind, "just", func(e *entries.Entry) { e.Just = true }}
	text, number := changed(item(), func(e *entries.Entry) { e.Value = value(`"A"`) }), changed(integer(), func(e *entries.Entry) { e.Value = value("7") })
	for _, level := range []int{2, 49} {
		text.Level, number.Level = level, level
		checkOrder(t, text, append(append(append(firstDefects(), renames...), behind...), defect{api.ErrKind, "value", func(e *entries.Entry) { e.Value = value("1") }})...)
		checkOrder(t, number, append(append(append(append(firstDefects(), renames...), behind[:13]...), just), append(behind[13:], defect{api.ErrKind, "value", func(e *entries.Entry) { e.Value = value("SPACE") }})...)...)
	}
	for _, level := range []int{1, 77} {
		text.Level = level
		occurs := defect{api.ErrKind, "occurs", func(e *entries.Entry) { e.Occurs = 4097 }}
		least := defect{api.ErrArg, "occurs", func(e *entries.Entry) { e.Least = 1 }}
		checkOrder(t, text, append(append(append(firstDefects(), renames...), occurs, least), behind[5:]...)...)
	}
}
