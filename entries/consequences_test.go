package entries_test

import (
	"math"
	"math/rand"
	"reflect"
	"slices"
	"strings"
	"testing"

	"columnseven/api"
	"columnseven/columns"
	"columnseven/entries"
	"columnseven/tokens"
)

// some returns one of the texts, which are separated by spaces.
func some(r *rand.Rand, texts string) string {
	all := strings.Fields(texts)
	return all[r.Intn(len(all))]
}

// filled returns a text of a form, in which some parts are replaced.
func filled(r *rand.Rand, form string) string {
	all := forms(form)
	list := strings.Fields(all[r.Intn(len(all))])
	for i, word := range list {
		switch word {
		case "name":
			list[i] = some(r, "A B C N R TOTAL-1 1A")
		case "names":
			list[i] = some(r, "A B N") + []string{"", " OF R", " IN B OF C"}[r.Intn(3)]
		case "number":
			list[i] = some(r, "0 1 2 3 9 007 +7 -1.50 .5 123456789012345678")
		case "integer":
			list[i] = some(r, "0 1 2 3 9 00012 4095 4096")
		case "text":
			list[i] = some(r, `"A" "AB""C" """" SPACE QUOTES HIGH-VALUE LOW-VALUES`)
			if r.Intn(3) == 0 {
				list[i] = `ALL "A  B"`
			}
		case "zero":
			list[i] = some(r, "ZERO ZEROS ZEROES")
		}
	}
	return strings.Join(list, " ")
}

// themes returns lists of clauses: the first one is there always, and the others may stand beside it, as long as they are not the same.
func themes() [][]string {
	return [][]string{
		{"", "REDEFINES name", "OCCURS 0|1|5|4096 [TIMES]", "OCCURS 1|0 TO 2|4096 [TIMES] DEPENDING [ON] names"},
		{"", "VALUE|VALUES [IS|ARE] text", "OCCURS integer [TIMES]"},
		{"PIC|PICTURE [IS] 9|9(3)|S9(3)V99|PP9|S9P", "REDEFINES name", "[USAGE [IS]] DISPLAY|COMP-3|COMPUTATIONAL-3|PACKED-DECIMAL|COMP|COMPUTATIONAL|BINARY", "OCCURS 3"},
		{"PIC|PICTURE [IS] S9|S9(3)V99", "[SIGN [IS]] LEADING|TRAILING [SEPARATE [CHARACTER]]", "[USAGE [IS]] DISPLAY", "VALUE|VALUES [IS|ARE] number", "OCCURS integer [TIMES]"},
		{"PIC|PICTURE [IS] 9(5)|S99", "[USAGE [IS]] DISPLAY|COMP-3|COMP", "VALUE|VALUES [IS|ARE] zero", "OCCURS 2 DEPENDING [ON] name"},
		{"PIC|PICTURE [IS] X|A(3)|XA9", "JUST|JUSTIFIED [RIGHT]", "VALUE|VALUES [IS|ARE] text", "[USAGE [IS]] DISPLAY", "OCCURS integer [TO integer] [TIMES] [DEPENDING [ON] names]"},
		{"PIC|PICTURE [IS] Z9|Z,ZZ9.99-|9CR", "BLANK [WHEN] ZERO|ZEROS|ZEROES", "VALUE|VALUES [IS|ARE] text", "[USAGE [IS]] DISPLAY", "REDEFINES name"},
	}
}

// randomClauses returns the texts of clauses that may stand together, most of the time, and a level for them.
func randomClauses(r *rand.Rand) (string, []string) {
	switch r.Intn(6) {
	case 0:
		return "66", []string{filled(r, "RENAMES names [THRU|THROUGH names]")}
	case 1:
		text := filled(r, "VALUE|VALUES [IS|ARE] number|text|zero")
		for range r.Intn(4) {
			text += " " + filled(r, "[THRU|THROUGH] number|text|zero")
		}
		return "88", []string{text}
	}
	theme := themes()[r.Intn(len(themes()))]
	var list []string
	for i, form := range theme {
		if i == 0 && form != "" || i > 0 && r.Intn(2) == 0 {
			list = append(list, filled(r, form))
		}
	}
	if r.Intn(12) == 0 {
		all := themes()[r.Intn(len(themes()))]
		list = append(list, filled(r, all[r.Intn(len(all))]))
	}
	r.Shuffle(len(list), func(i, j int) { list[i], list[j] = list[j], list[i] })
	return some(r, "01 1 05 5 10 49 77 02"), list
}

// randomText returns the text of an entry.
func randomText(r *rand.Rand) string {
	level, list := randomClauses(r)
	name := filled(r, "[name|FILLER]")
	if level == "88" {
		name = filled(r, "name")
	}
	return strings.Join(slices.Concat([]string{level, name}, list, []string{"."}), " ")
}

// damaged returns tokens of which one may be missing, or another one.
func damaged(r *rand.Rand, l []api.Token) []api.Token {
	if len(l) == 0 {
		return l
	}
	i := r.Intn(len(l))
	other := l[r.Intn(len(l))]
	if r.Intn(2) == 0 {
		all := lines(begins + " IS ARE ON OF IN TO TIMES DEPENDING WHEN RIGHT SEPARATE CHARACTER THRU THROUGH ALL ZERO SPACE FILLER MOVE A B 5 05 50 88 66 1.5 000001 . . ( \"A\"")
		other = all[r.Intn(len(all))]
	}
	switch r.Intn(6) {
	case 0:
		return l[:i]
	case 1:
		return slices.Delete(l, i, i+1)
	case 2:
		return slices.Insert(l, i, other)
	case 3:
		l[i].Kind = api.Kind(r.Intn(9))
	case 4:
		l[i].Text = append(strings.Fields("a A 1 12 9 X( PIC ."), "")[r.Intn(9)]
	case 5:
		l[i] = other
	}
	return l
}

func sameEntries(a, b []entries.Entry) bool {
	return slices.EqualFunc(a, b, func(a, b entries.Entry) bool { return reflect.DeepEqual(a, b) })
}

// P7.1: random tokens, compared with the model

func TestParseIsTheModel(t *testing.T) {
	r := rand.New(rand.NewSource(7))
	m := newModel()
	good, faults := 0, map[api.Errno]int{}
	for range 30000 {
		var texts []string
		for range 1 + r.Intn(2) {
			texts = append(texts, randomText(r))
		}
		l := lines(texts...)
		for range r.Intn(3) {
			l = damaged(r, l)
		}
		for i := range l {
			l[i].At = api.Pos{Line: i + 1, Column: r.Intn(80)}
		}
		want, wantFault := m.parse(l)
		got, fault := entries.Parse(l)
		if fault != wantFault || !sameEntries(got, want) {
			t.Fatalf("%q: %s, %v, wanted %s, %v", tokens.Text(l), brief(got), fault, brief(want), wantFault)
		}
		faults[fault.E]++
		good += len(got)
	}
	if good < 5000 || faults[api.ErrForm] < 3000 || faults[api.ErrThere] < 100 || faults[api.ErrWord] < 100 || faults[api.ErrArg] < 100 || faults[api.ErrKind] < 500 {
		t.Error(good, faults)
	}
}

// Tokens without an order, most of which fit somewhere.
func TestParseOfSoup(t *testing.T) {
	r := rand.New(rand.NewSource(8))
	m := newModel()
	soup := lines(begins+" IS ARE ON OF IN TO TIMES DEPENDING WHEN RIGHT SEPARATE CHARACTER THRU ALL ZERO A B 5 1 . \"A\"", "05 PIC X")
	for range 30000 {
		l := lines(some(r, "05 88 66 77"))
		for range r.Intn(8) {
			x := soup[r.Intn(len(soup))]
			x.At = api.Pos{Line: len(l), Column: 1}
			l = append(l, x)
		}
		want, wantFault := m.parse(l)
		got, fault := entries.Parse(l)
		if fault != wantFault || !sameEntries(got, want) {
			t.Fatalf("%q: %s, %v, wanted %s, %v", tokens.Text(l), brief(got), fault, brief(want), wantFault)
		}
	}
}

// P7.2: random entries, compared with the model

// randomEntry returns an entry of which few fields are not right, if any.
func randomEntry(r *rand.Rand) entries.Entry {
	list, _ := entries.Parse(lines(randomText(r)))
	for len(list) == 0 {
		list, _ = entries.Parse(lines(randomText(r)))
	}
	return list[0]
}

// alter changes a field of an entry.
func alter(r *rand.Rand, e *entries.Entry) {
	number := []int{math.MinInt, -1, 0, 1, 2, 5, 66, 77, 88, 4096, 4097, math.MaxInt}[r.Intn(12)]
	names := [][]string{nil, {}, {"A"}, {"A", "B-1"}, {"FILLER"}, {"A", ""}, {"a"}, {"A-", "MOVE"}}[r.Intn(8)]
	text := append([]string{"", " "}, strings.Fields("A FILLER MOVE X 9(3) S9 Z9 A(3) a 12 9(19) X(257) XBX")...)[r.Intn(14)]
	bit := r.Intn(2) == 0
	switch r.Intn(18) {
	case 0:
		e.Level = number
	case 1:
		e.Name = text
	case 2:
		e.Redefines = text
	case 3, 4:
		e.Picture = text
	case 5:
		e.Usage = api.Usage(r.Intn(4))
	case 6:
		e.HasUsage = bit
	case 7:
		e.Occurs = number
	case 8:
		e.Least = number
	case 9:
		e.Depends = names
	case 10:
		e.HasSign = bit
	case 11:
		e.Leading = bit
	case 12:
		e.Separate = bit
	case 13:
		e.Just = bit
	case 14:
		e.Blank = bit
	case 15:
		e.First = names
	case 16:
		e.Last = names
	case 17:
		e.Value = damaged(r, value(some(r, "1 ZERO ALL")+" "+some(r, `"A" THRU 2`)+" "+some(r, `"A" THRU 2`)))
	}
}

func TestCheckIsTheModel(t *testing.T) {
	r := rand.New(rand.NewSource(9))
	counts := map[api.Errno]int{}
	for range 30000 {
		e := randomEntry(r)
		for range r.Intn(4) {
			alter(r, &e)
		}
		want := modelCheck(e)
		checkErrors(t, want, e)
		counts[want]++
	}
	for _, e := range []api.Errno{api.OK, api.ErrArg, api.ErrForm, api.ErrWord, api.ErrKind, api.ErrLimit} {
		if counts[e] < 100 {
			t.Error(counts)
		}
	}
}

// P7.4

// plainOf returns an entry without its position, with nil for empty lists.
func plainOf(e entries.Entry) entries.Entry {
	e.At = api.Pos{}
	e.Value = bare(e.Value)
	for _, list := range []*[]string{&e.Depends, &e.First, &e.Last} {
		if len(*list) == 0 {
			*list = nil
		}
	}
	return e
}

// checkBack fails unless the tokens of a text are an entry.
func checkBack(t *testing.T, l []api.Token, e entries.Entry) {
	t.Helper()
	got, fault := entries.Parse(l)
	if len(got) != 1 || fault != (api.Fault{}) || got[0].At != l[0].At || !reflect.DeepEqual(plainOf(got[0]), plainOf(e)) {
		t.Errorf("%s: %s, %v, wanted %s", brief(tokens.Text(l)), brief(got), fault, brief(e))
	}
	for _, e := range got {
		if !reflect.DeepEqual(e.Value, bare(e.Value)) {
			t.Errorf("%s: positions in %v", brief(tokens.Text(l)), e.Value)
		}
	}
}

func TestTextIsReadAgain(t *testing.T) {
	r := rand.New(rand.NewSource(10))
	accepted := 0
	for range 20000 {
		e := randomEntry(r)
		for range r.Intn(3) {
			alter(r, &e)
		}
		if entries.Check(e) != api.OK {
			continue
		}
		accepted++
		text := entries.Text(e)
		checkBack(t, lines(text), e)
		source, errno := columns.Write([]columns.Line{{Text: text}})
		l, fault := tokens.Source(source, false)
		if errno != api.OK || fault != (api.Fault{}) {
			t.Fatalf("%s: %d, %v", text, errno, fault)
		}
		checkBack(t, l, e)
		if again := entries.Text(e); again != text {
			t.Error(text, again)
		}
	}
	if accepted < 8000 {
		t.Error(accepted)
	}
}

// Literals may have any characters, and pictures and names any length that is right.
func TestTextOfLiteralsIsReadAgain(t *testing.T) {
	r := rand.New(rand.NewSource(11))
	for n := range 3000 {
		b := make([]byte, 1+r.Intn(256))
		for i := range b {
			b[i] = byte(r.Intn(256))
			if n%2 == 0 {
				b[i] = "\" .,;\n\x00A"[r.Intn(8)]
			}
		}
		quote := api.Token{Kind: api.Quote, Text: string(b)}
		for _, e := range []entries.Entry{
			{Level: 5, Name: "A", Value: []api.Token{quote}}, {Level: 5, Name: "A", Value: []api.Token{{Kind: api.Word, Text: "ALL"}, quote}}, {Level: 88, Name: "A", Value: []api.Token{quote, {Kind: api.Word, Text: "THRU"}, {Kind: api.Word, Text: "ALL"}, quote, quote}},
		} {
			checkErrors(t, api.OK, e)
			checkBack(t, lines(entries.Text(e)), e)
		}
	}
	for _, picture := range []string{strings.Repeat("X", 256), strings.Repeat("X(1)", 256), "X(00256)", "Z.9(2)", ".9", "$**9", "++.++", "9,CR", "0099", "/9", "BX", "9BDB", "-9", "V9", "PP9", "SV9", "*.9(00001)"} {
		e := entries.Entry{Level: 5, Name: "A", Picture: picture}
		checkErrors(t, api.OK, e)
		checkBack(t, lines(entries.Text(e)), e)
	}
	for _, number := range strings.Fields("0 00 +0 -0 .5 +.5 -.5 1.5 000000000000000001 -1234567890.12345678") {
		e := entries.Entry{Level: 88, Name: "A", Value: append(slices.Repeat([]api.Token{{Kind: api.Number, Text: number}}, 3), value("THRU "+number)...)}
		checkErrors(t, api.OK, e)
		checkBack(t, lines(entries.Text(e)), e)
	}
}

// Each text of few characters that Check accepts is a word.
func TestShortNamesAreReadAgain(t *testing.T) {
	const characters = "AZ09-a .,;\"=()+*/<>:\n\t\x00\xff_$"
	var names []string
	for _, a := range []byte(characters) {
		for _, b := range []byte(characters) {
			for _, c := range []byte(characters) {
				names = append(names, string([]byte{a, b, c}))
			}
			names = append(names, string([]byte{a, b}))
		}
		names = append(names, string([]byte{a}))
	}
	accepted := 0
	for _, name := range names {
		e := entries.Entry{Level: 5, Name: name, Redefines: name}
		if (entries.Check(e) == api.OK) != isNameText(name) {
			t.Errorf("%q: %d", name, entries.Check(e))
		}
		if entries.Check(e) == api.OK {
			accepted++
			checkBack(t, lines(entries.Text(e)), e)
		}
	}
	if accepted < 60 {
		t.Error(accepted)
	}
}

func TestClausesInRandomOrder(t *testing.T) {
	r := rand.New(rand.NewSource(12))
	for range 5000 {
		level, list := randomClauses(r)
		before := lines(level + " A " + strings.Join(list, " ") + " .")
		r.Shuffle(len(list), func(i, j int) { list[i], list[j] = list[j], list[i] })
		after := lines(level + " A " + strings.Join(list, " ") + " .")
		want, fault := entries.Parse(before)
		got, otherFault := entries.Parse(after)
		// The clause that is there twice is another one then, but the fault is not.
		if fault.E != otherFault.E || !sameEntries(got, want) {
			t.Errorf("%s: %s, %v, wanted %s, %v", tokens.Text(after), brief(got), otherFault, brief(want), fault)
		}
	}
}

func TestSeveralRandomEntries(t *testing.T) {
	r := rand.New(rand.NewSource(13))
	for range 2000 {
		var l []api.Token
		var want []entries.Entry
		for range r.Intn(6) {
			part := lines(randomText(r))
			list, fault := entries.Parse(part)
			if fault == (api.Fault{}) {
				l, want = append(l, part...), append(want, list...)
			}
		}
		checkParsed(t, l, want...)
		// The fault of the first entry that has one is that of all.
		if part := damaged(r, lines(randomText(r))); len(part) > 0 {
			list, fault := entries.Parse(part)
			got, all := entries.Parse(slices.Concat(l, part))
			if all != fault || fault == (api.Fault{}) && !sameEntries(got, slices.Concat(want, list)) || fault != (api.Fault{}) && len(got) > 0 {
				t.Errorf("%s: %s, %v, wanted %v", tokens.Text(part), brief(got), all, fault)
			}
		}
	}
}

// R1, R4

// owned returns an entry whose lists have no room behind them, and are shared with none.
func owned(e entries.Entry) entries.Entry {
	e.Depends, e.First, e.Last, e.Value = slices.Clip(slices.Clone(e.Depends)), slices.Clip(slices.Clone(e.First)), slices.Clip(slices.Clone(e.Last)), slices.Clip(slices.Clone(e.Value))
	return e
}

func TestArgumentsStay(t *testing.T) {
	r := rand.New(rand.NewSource(14))
	for range 3000 {
		l := lines(randomText(r), randomText(r))
		if r.Intn(2) == 0 {
			l = damaged(r, l)
		}
		room := append(slices.Clone(l), api.Token{Kind: api.Word, Text: "ROOM"})
		kept := slices.Clone(room)
		entries.Parse(room[:len(l)])
		if !slices.Equal(room, kept) {
			t.Fatal(tokens.Text(l))
		}
		e := randomEntry(r)
		alter(r, &e)
		for _, list := range []*[]string{&e.Depends, &e.First, &e.Last} {
			*list = append(slices.Clone(*list), "ROOM")[:len(*list)]
		}
		e.Value = append(slices.Clone(e.Value), api.Token{Text: "ROOM"})[:len(e.Value)]
		before := owned(e)
		rooms := [][]string{e.Depends[:len(e.Depends)+1], e.First[:len(e.First)+1], e.Last[:len(e.Last)+1]}
		entries.Check(e)
		entries.Text(e)
		if !reflect.DeepEqual(plainOf(owned(e)), plainOf(before)) {
			t.Fatal(before)
		}
		for _, list := range rooms {
			if list[len(list)-1] != "ROOM" {
				t.Fatal(list)
			}
		}
		if e.Value[:len(e.Value)+1][len(e.Value)].Text != "ROOM" {
			t.Fatal(brief(e))
		}
	}
}

func TestResultsAreNewMemory(t *testing.T) {
	r := rand.New(rand.NewSource(15))
	for range 2000 {
		l := lines(randomText(r), randomText(r), randomText(r))
		got, _ := entries.Parse(l)
		again, _ := entries.Parse(l)
		if len(got) != cap(got) {
			t.Fatal(len(got), cap(got))
		}
		for i, e := range got {
			if len(e.Depends) != cap(e.Depends) || len(e.First) != cap(e.First) || len(e.Last) != cap(e.Last) || len(e.Value) != cap(e.Value) {
				t.Fatal(brief(e))
			}
			for _, list := range [][]string{e.Depends, e.First, e.Last} {
				for j := range list {
					list[j] = "SPOILED"
				}
			}
			for j := range e.Value {
				e.Value[j] = api.Token{}
			}
			got[i] = entries.Entry{}
			if !sameEntries(got[i+1:], again[i+1:]) {
				t.Fatal(tokens.Text(l))
			}
		}
		third, _ := entries.Parse(l)
		if !sameEntries(third, again) {
			t.Fatal(tokens.Text(l))
		}
	}
}

// P1

func TestAnyArguments(t *testing.T) {
	r := rand.New(rand.NewSource(16))
	texts := append(strings.Fields(begins+" IS ARE ON OF TO ALL THRU ZERO A 5 05 66 88 . X 9( \xff"), "", " ", strings.Repeat("A", 100), strings.Repeat("9", 100))
	for range 20000 {
		var l []api.Token
		for range r.Intn(10) {
			l = append(l, api.Token{Kind: api.Kind(r.Intn(9)), Text: texts[r.Intn(len(texts))], At: api.Pos{Line: r.Int() - r.Int(), Column: r.Int()}, Left: r.Intn(2) == 0})
		}
		list, fault := entries.Parse(l)
		if fault != (api.Fault{}) && len(list) > 0 || fault == (api.Fault{}) && len(list) == 0 && len(l) > 0 {
			t.Error(list, fault)
		}
		e := entries.Entry{Level: r.Intn(100), Name: "A", Picture: texts[r.Intn(len(texts))], Usage: api.Usage(r.Intn(256)), HasUsage: true, Occurs: r.Int() - r.Int(), Least: r.Int() - r.Int(), Value: l}
		if want := modelCheck(e); entries.Check(e) != want {
			t.Error(brief(e), entries.Check(e), want)
		}
		entries.Text(e)
	}
}
