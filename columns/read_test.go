package columns

import (
	"fmt"
	"strings"
	"testing"

	"columnseven/api"
)

// P2.1: cards

func TestReadNothing(t *testing.T) {
	for name, text := range map[string]string{
		"empty": "", "byte 10": "\n", "bytes 10": "\n\n\n", "spaces": spaces(80), "short": "000001", "six spaces": spaces(6),
		"comments": source(at("*", 8, "NOTE"), at("/", 8, ""), spaces(6)+"*"), "blank columns 8 to 72": "000001" + spaces(66) + "IGNORED.",
		"blank continuation": at("-", 72, " NAME"), "short continuation": spaces(6) + "-",
	} {
		checkCards(t, name, text, false)
		checkCards(t, name+", debugging", text, true)
	}
}

func TestReadCards(t *testing.T) {
	for _, x := range []struct {
		name, text string
		want       []Card
	}{
		{"area B", spaces(13) + "ADD 1", []Card{card(false, "ADD 1", [3]int{0, 1, 14})}},
		{"area A and a comment", source(spaces(7)+"MAIN", spaces(6)+"*NOTE"), []Card{card(true, "MAIN", [3]int{0, 1, 8})}},
		{"column 11", at(" ", 11, "A"), []Card{card(true, "A", [3]int{0, 1, 11})}},
		{"column 12", at(" ", 12, "A"), []Card{card(false, "A", [3]int{0, 1, 12})}},
		{"column 72", at(" ", 72, "AB"), []Card{card(false, "A", [3]int{0, 1, 72})}},
		{"column 8 and beyond", at(" ", 8, "A   B"), []Card{card(true, "A   B", [3]int{0, 1, 8})}},
		{"column 72 ends it", at(" ", 69, "A  BIGNORED."), []Card{card(false, "A  B", [3]int{0, 1, 69})}},
		{"spaces at its end", at(" ", 12, "A B  "), []Card{card(false, "A B", [3]int{0, 1, 12})}},
		{"spaces up to column 72", "ABCDEF " + spaces(4) + "A" + spaces(60) + "IGNORED.", []Card{card(false, "A", [3]int{0, 1, 12})}},
		{"byte 10 at the end", source(at(" ", 8, "A"), ""), []Card{card(true, "A", [3]int{0, 1, 8})}},
		{"quotes", at(" ", 12, `A "B " `), []Card{card(false, `A "B "`, [3]int{0, 1, 12})}},
		{"other columns", "*D-/ X " + `A"B"`, []Card{card(true, `A"B"`, [3]int{0, 1, 8})}},
		{"several", source("", at(" ", 8, "A"), "", at(" ", 12, "B"), at("*", 8, "C"), at(" ", 9, "D"), ""), []Card{
			card(true, "A", [3]int{0, 2, 8}), card(false, "B", [3]int{0, 4, 12}), card(true, "D", [3]int{0, 6, 9})}},
	} {
		checkCards(t, x.name, x.text, false, x.want...)
		checkCards(t, x.name+", debugging", x.text, true, x.want...)
	}
}

func TestReadContinuations(t *testing.T) {
	for _, x := range []struct {
		name, text string
		want       []Card
	}{
		{"a word", source(at(" ", 12, "PERF"), at("-", 12, "ORM P")), []Card{card(false, "PERFORM P", [3]int{0, 1, 12}, [3]int{4, 2, 12})}},
		{"spaces at the ends", source(at(" ", 12, "PERF  "), at("-", 20, "ORM  ")), []Card{card(false, "PERFORM", [3]int{0, 1, 12}, [3]int{4, 2, 20})}},
		{"area A", source(at(" ", 8, "MA"), at("-", 12, "IN")), []Card{card(true, "MAIN", [3]int{0, 1, 8}, [3]int{2, 2, 12})}},
		{"column 72", source(at(" ", 72, "M"), at("-", 72, "A"), at("-", 72, "IN")), []Card{card(false, "MAI", [3]int{0, 1, 72}, [3]int{1, 2, 72}, [3]int{2, 3, 72})}},
		{"of the last card", source(at(" ", 8, "A"), at(" ", 8, "B"), at("-", 12, "C"), at(" ", 8, "D")), []Card{
			card(true, "A", [3]int{0, 1, 8}), card(true, "BC", [3]int{0, 2, 8}, [3]int{1, 3, 12}), card(true, "D", [3]int{0, 4, 8})}},
		{"a quote where none is open", source(at(" ", 12, "A"), at("-", 12, `"B"`)), []Card{card(false, `A"B"`, [3]int{0, 1, 12}, [3]int{1, 2, 12})}},
		{"behind a closed text", source(at(" ", 12, `"A"  `), at("-", 12, `"B"`)), []Card{card(false, `"A""B"`, [3]int{0, 1, 12}, [3]int{3, 2, 12})}},
		{"ignored lines between", source(at(" ", 12, "A"), at("*", 12, "X"), at("/", 12, "X"), at("D", 12, "X"), at("d", 12, "X"), at("-", 12, ""), "", at("-", 12, "B"), "123456 ", at("-", 13, "C")), []Card{
			card(false, "ABC", [3]int{0, 1, 12}, [3]int{1, 8, 12}, [3]int{2, 10, 13})}},
		{"behind an ignored debugging line", source(at(" ", 12, "A"), at("D", 12, "B"), at("-", 12, "C")), []Card{card(false, "AC", [3]int{0, 1, 12}, [3]int{1, 3, 12})}},
	} {
		checkCards(t, x.name, x.text, false, x.want...)
	}
}

func TestReadOpenTexts(t *testing.T) {
	long := strings.Repeat("X", 60)
	for _, x := range []struct {
		name, text string
		want       []Card
	}{
		{"padded to column 72", source(at(" ", 12, `A "B`), at("-", 12, `"C"`)), []Card{card(false, `A "B`+spaces(57)+`C"`, [3]int{0, 1, 12}, [3]int{61, 2, 13})}},
		{"spaces of its own", source(at(" ", 12, `A "B `), at("-", 12, `" C "  `)), []Card{card(false, `A "B`+spaces(57)+` C "`, [3]int{0, 1, 12}, [3]int{61, 2, 13})}},
		{"up to column 72", source(at(" ", 12, `"`+long), at("-", 12, `"C"`)), []Card{card(false, `"`+long+`C"`, [3]int{0, 1, 12}, [3]int{61, 2, 13})}},
		{"up to column 71", source(at(" ", 12, `"`+long[1:]), at("-", 12, `"C"`)), []Card{card(false, `"`+long[1:]+` C"`, [3]int{0, 1, 12}, [3]int{61, 2, 13})}},
		{"beyond column 72", source(at(" ", 12, `"`+long+`"IGNORE`), at("-", 12, `"C"`)), []Card{card(false, `"`+long+`C"`, [3]int{0, 1, 12}, [3]int{61, 2, 13})}},
		{"a quote in column 72", source(at(" ", 72, `"X`), at("-", 12, `"A"`)), []Card{card(false, `"A"`, [3]int{0, 1, 72}, [3]int{1, 2, 13})}},
		{"padded again", source(at(" ", 8, `"A`), at("-", 70, `"B`), at("-", 12, `"C"`)), []Card{
			card(true, `"A`+spaces(63)+`B C"`, [3]int{0, 1, 8}, [3]int{65, 2, 71}, [3]int{67, 3, 13})}},
		{"only padding", source(at(" ", 72, `"`), at("-", 71, `"`), at("-", 12, `"C"`)), []Card{
			card(false, `" C"`, [3]int{0, 1, 72}, [3]int{1, 2, 72}, [3]int{2, 3, 13})}},
		{"an empty part", source(at(" ", 70, `"AB`), at("-", 72, `"CD`), at("-", 12, `"C"`)), []Card{
			card(false, `"ABC"`, [3]int{0, 1, 70}, [3]int{3, 3, 13})}},
		{"empty parts", source(at(" ", 72, `"`), at("-", 72, `"`), at("-", 72, `"`), at("-", 71, `"A`), at("-", 72, `"`), at("-", 71, `""`)), []Card{
			card(false, `"A"`, [3]int{0, 1, 72}, [3]int{1, 4, 72}, [3]int{2, 6, 72})}},
		{"two quotes, divided", source(at(" ", 70, `"A"`), at("-", 12, `"B"`)), []Card{card(false, `"A""B"`, [3]int{0, 1, 70}, [3]int{3, 2, 12})}},
		{"two quotes behind a quote", source(at(" ", 71, `"A`), at("-", 12, `"""B"`)), []Card{card(false, `"A""B"`, [3]int{0, 1, 71}, [3]int{2, 2, 13})}},
		{"closed, then open", source(at(" ", 71, `"A`), at("-", 12, `" C" "D`), at("-", 12, `"E" F`)), []Card{
			card(false, `"A C" "D`+spaces(54)+`E" F`, [3]int{0, 1, 71}, [3]int{2, 2, 13}, [3]int{62, 3, 13})}},
		{"closed, then continued", source(at(" ", 71, `"A`), at("-", 12, `"B" C  `), at("-", 12, "D")), []Card{
			card(false, `"AB" CD`, [3]int{0, 1, 71}, [3]int{2, 2, 13}, [3]int{6, 3, 12})}},
		{"ignored lines between", source(at(" ", 71, `"A`), at("*", 8, `"`), at("D", 8, `"`), at("/", 8, ""), at("-", 8, ""), "", spaces(75)+"X", at("-", 12, `"B"`)), []Card{
			card(false, `"AB"`, [3]int{0, 1, 71}, [3]int{2, 8, 13})}},
		{"the next card is not open", source(at(" ", 71, `"A`), at("-", 12, `"B"`), at(" ", 8, "C  "), at("-", 12, "D")), []Card{
			card(false, `"AB"`, [3]int{0, 1, 71}, [3]int{2, 2, 13}), card(true, "CD", [3]int{0, 3, 8}, [3]int{1, 4, 12})}},
	} {
		checkCards(t, x.name, x.text, false, x.want...)
	}
}

// The mark of the part behind an empty one has the index at which the empty one would begin.
func TestMarksAreIncreasing(t *testing.T) {
	text := source(at(" ", 72, `"`), at("-", 72, `"`), at("-", 72, `"`), at("-", 12, `"A"`), at("-", 12, "B"))
	cards, f := Read(text, false)
	if f != (api.Fault{}) || len(cards) != 1 {
		t.Fatalf("%v, %v", cards, f)
	}
	for i := range len(cards[0].Text) + 1 {
		if p, e := At(cards[0], i); e != api.OK {
			t.Errorf("At(%d) is %v, %d", i, p, e)
		}
	}
}

func TestReadDebuggingLines(t *testing.T) {
	text := source(at("D", 12, "A"), at("-", 12, "B"), at("d", 8, "C"), at("-", 12, "D"), at("D", 8, ""), spaces(6)+"D", at(" ", 12, "E"))
	checkCards(t, "counted", text, true,
		card(false, "AB", [3]int{0, 1, 12}, [3]int{1, 2, 12}), card(true, "CD", [3]int{0, 3, 8}, [3]int{1, 4, 12}), card(false, "E", [3]int{0, 7, 12}))
	if cards, f := Read(text, false); len(cards) != 0 || f != fault(api.ErrState, 2, 7) {
		t.Errorf("not counted: %v, %v", cards, f)
	}
	text = source(at(" ", 12, "A"), at("D", 8, "B"), at("d", 12, "C"), at(" ", 12, "D"))
	checkCards(t, "between, not counted", text, false, card(false, "A", [3]int{0, 1, 12}), card(false, "D", [3]int{0, 4, 12}))
	checkCards(t, "between, counted", text, true,
		card(false, "A", [3]int{0, 1, 12}), card(true, "B", [3]int{0, 2, 8}), card(false, "C", [3]int{0, 3, 12}), card(false, "D", [3]int{0, 4, 12}))
	text = source(at("D", 71, `"A`), at("D", 12, ""), at("-", 12, `"B"`))
	checkCards(t, "an open text", text, true, card(false, `"AB"`, [3]int{0, 1, 71}, [3]int{2, 3, 13}))
}

func TestReadAsManyBytesAsThereMayBe(t *testing.T) {
	line := "000000 " + spaces(72) + "\n"
	text := at(" ", 8, "A") + "\n" + strings.Repeat(line, api.MaxText/len(line)-1)
	text += strings.Repeat("\n", api.MaxText-len(text))
	checkCards(t, "MaxText bytes", text, false, card(true, "A", [3]int{0, 1, 8}))
	for _, more := range []string{"\n", "\x00", "X" + text} {
		if cards, f := Read(text+more, false); len(cards) != 0 || f != fault(api.ErrLimit, 0, 0) {
			t.Errorf("%d bytes more: %d cards, %v", len(more), len(cards), f)
		}
	}
}

// A card may be longer than its source text, because each of its parts is padded.
func TestReadLongCard(t *testing.T) {
	const parts = 70000
	text := at(" ", 12, `"`) + "\n" + strings.Repeat(at("-", 12, `"`)+"\n", parts) + at("-", 12, `"X"`)
	cards, f := Read(text, false)
	if f != (api.Fault{}) || len(cards) != 1 {
		t.Fatalf("%d cards, %v", len(cards), f)
	}
	if want := `"` + spaces(60+60*parts) + `X"`; cards[0].Text != want {
		t.Errorf("a text of %d bytes", len(cards[0].Text))
	}
	last := Mark{From: 61 + 60*parts, At: pos(parts+2, 13)}
	if marks := cards[0].Marks; len(marks) != parts+2 || marks[parts+1] != last || cap(marks) != len(marks) {
		t.Errorf("%d marks, the last one is %v", len(marks), marks[len(marks)-1])
	}
}

// P2.1: faults

// checkFault fails unless Read returns this fault, and no cards.
func checkFault(t *testing.T, name, text string, debug bool, want api.Fault) {
	t.Helper()
	if cards, f := Read(text, debug); len(cards) != 0 || f != want {
		t.Errorf("%s: %d cards, %v, wanted %v", name, len(cards), f, want)
	}
}

func TestReadFaultsOfALine(t *testing.T) {
	first := at(" ", 12, "A")
	for name, x := range map[string]struct {
		line   string
		e      api.Errno
		column int
	}{
		"81 columns":                   {at(" ", 12, "B") + spaces(69), api.ErrWidth, 81},
		"82 columns":                   {spaces(82), api.ErrWidth, 81},
		"81 columns of a comment":      {at("*", 12, "B") + spaces(69), api.ErrWidth, 81},
		"a byte in column 1":           {"\t", api.ErrForm, 1},
		"a byte in column 6":           {"12345\x00" + spaces(6) + "B", api.ErrForm, 6},
		"a byte in column 7":           {"123456\x7f", api.ErrForm, 7},
		"bytes in the text":            {at(" ", 12, "B\x80\x00"), api.ErrForm, 13},
		"a byte in column 80":          {at(" ", 12, "B") + spaces(67) + "\x1f", api.ErrForm, 80},
		"a byte in a comment":          {at("*", 20, "\xe4"), api.ErrForm, 20},
		"a byte of a debugging line":   {at("D", 20, "\xe4"), api.ErrForm, 20},
		"a carriage return":            {at(" ", 12, "B\r"), api.ErrForm, 13},
		"indicator X":                  {at("X", 12, "B"), api.ErrForm, 7},
		"indicator + of a blank line":  {spaces(6) + "+", api.ErrForm, 7},
		"indicator C":                  {at("C", 8, ""), api.ErrForm, 7},
		"a continuation in column 8":   {at("-", 8, "B"), api.ErrForm, 8},
		"a continuation in column 11":  {at("-", 11, "B"), api.ErrForm, 11},
		"a continuation that is wide":  {at("-", 9, "B") + spaces(72), api.ErrWidth, 81},
		"a byte before the indicator":  {"\x00" + spaces(5) + "X", api.ErrForm, 1},
		"a byte behind the indicator":  {spaces(6) + "X\x00", api.ErrForm, 8},
		"a byte of a line that's wide": {"\x00" + spaces(80), api.ErrWidth, 81},
	} {
		for _, debug := range []bool{false, true} {
			checkFault(t, name, source(first, x.line, "\x01"), debug, fault(x.e, 2, x.column))
			checkFault(t, name+", in the last line", source(first, "", x.line), debug, fault(x.e, 3, x.column))
		}
	}
}

func TestReadEachIndicator(t *testing.T) {
	for c := range 256 {
		want := fault(api.ErrForm, 2, 7)
		if strings.IndexByte(" *-/Dd", byte(c)) >= 0 {
			want = api.Fault{}
		}
		if c == '\n' { // it is no character of a line, but ends one
			continue
		}
		text := source(at(" ", 12, "A"), spaces(6)+string([]byte{byte(c)})+spaces(6)+"X")
		for _, debug := range []bool{false, true} {
			if _, f := Read(text, debug); f != want {
				t.Errorf("indicator %d: %v", c, f)
			}
		}
	}
}

// The byte stands there twice, so that quotes leave no open text.
func TestReadEachByte(t *testing.T) {
	for c := range 256 {
		want := fault(api.ErrForm, 1, 9)
		if c >= 32 && c <= 126 || c == '\n' {
			want = api.Fault{}
		}
		twice := string([]byte{byte(c), byte(c)})
		for _, indicator := range []string{" ", "*", "D"} {
			if _, f := Read(at(indicator, 8, "A")+twice+"B", false); f != want {
				t.Errorf("byte %d of a line with the indicator %s: %v", c, indicator, f)
			}
		}
	}
}

func TestReadWithoutACardToContinue(t *testing.T) {
	for name, text := range map[string]string{
		"first": at("-", 12, "X"), "in area A": at("-", 8, "X"), "a quote": at("-", 12, `"X"`),
	} {
		for _, debug := range []bool{false, true} {
			checkFault(t, name, text, debug, fault(api.ErrState, 1, 7))
			checkFault(t, name+", behind ignored lines", source("", at("*", 8, "X"), at("/", 8, "X"), at("-", 12, ""), text), debug, fault(api.ErrState, 5, 7))
		}
		checkFault(t, name+", behind a debugging line", source(at("D", 8, "X"), text), false, fault(api.ErrState, 2, 7))
	}
}

func TestReadTextsThatRemainOpen(t *testing.T) {
	next := at(" ", 12, "X")
	for name, x := range map[string]struct {
		text string
		at   api.Pos
	}{
		"one part":            {at(" ", 12, `A "B`), pos(1, 12)},
		"area A":              {at(" ", 9, `"`), pos(1, 9)},
		"the second part":     {source(at(" ", 12, `"A`), at("-", 20, `"B`)), pos(2, 21)},
		"opened by the part":  {source(at(" ", 12, "A"), at("*", 8, ""), at("-", 20, `"B`)), pos(3, 20)},
		"opened again":        {source(at(" ", 12, `"A`), at("-", 20, `"B" "C`)), pos(2, 21)},
		"the second card":     {source(at(" ", 12, "A"), at(" ", 13, `"B`)), pos(2, 13)},
		"blank continuations": {source(at(" ", 12, `"A`), at("-", 12, ""), at("-", 12, "")), pos(1, 12)},
		"closed beyond":       {at(" ", 12, `"A`+spaces(59)+`"`), pos(1, 12)},
		"an empty part":       {source(at(" ", 12, `"A`), at("-", 72, `"`)), pos(2, 73)},
	} {
		checkFault(t, name, x.text, false, fault(api.ErrForm, x.at.Line, x.at.Column))
		checkFault(t, name+", byte 10", x.text+"\n", false, fault(api.ErrForm, x.at.Line, x.at.Column))
		ignored := source(x.text, at("*", 8, "X"), "", at("D", 8, "X"), at("/", 8, "X"))
		checkFault(t, name+", ignored lines", ignored, false, fault(api.ErrForm, x.at.Line, x.at.Column))
		checkFault(t, name+", the next line", source(ignored, next, "\x00"), false, fault(api.ErrForm, x.at.Line, x.at.Column))
		checkFault(t, name+", a debugging line", source(x.text, at("d", 12, `"X"`)), true, fault(api.ErrForm, x.at.Line, x.at.Column))
	}
}

// The fault of an open text is found in the line that does not continue it, behind the faults of that line alone.
func TestReadOrderOfFaults(t *testing.T) {
	open := at(" ", 12, `"A`)
	for name, x := range map[string]struct {
		text string
		want api.Fault
	}{
		"open, wide":                    {source(open, at(" ", 12, "B")+spaces(70)), fault(api.ErrWidth, 2, 81)},
		"open, a byte":                  {source(open, at(" ", 12, "B\x00")), fault(api.ErrForm, 2, 13)},
		"open, an indicator":            {source(open, at("X", 12, "B")), fault(api.ErrForm, 2, 7)},
		"open, a byte of a comment":     {source(open, at("*", 12, "B\x00")), fault(api.ErrForm, 2, 13)},
		"open, a byte behind that line": {source(open, at(" ", 12, "B"), "\x00"), fault(api.ErrForm, 1, 12)},
		"open, continued by no quote":   {source(open, at("-", 12, "B")), fault(api.ErrForm, 2, 12)},
		"open, a space and no quote":    {source(open, at("-", 20, `B"`)), fault(api.ErrForm, 2, 20)},
		"open, continued in area A":     {source(open, at("-", 8, `"B"`)), fault(api.ErrForm, 2, 8)},
		"open, a quote in column 11":    {source(open, at("-", 11, `"B"`)), fault(api.ErrForm, 2, 11)},
		"open, no quote in area A":      {source(open, at("-", 10, "B")), fault(api.ErrForm, 2, 10)},
		"open, a quote behind":          {source(open, at("-", 72, `B"`)), fault(api.ErrForm, 2, 72)},
		"no card, wide":                 {at("-", 12, "B") + spaces(70), fault(api.ErrWidth, 1, 81)},
		"no card, a byte":               {at("-", 12, "B\x00"), fault(api.ErrForm, 1, 13)},
		"too long, wide, a byte":        {"\x00" + spaces(api.MaxText), fault(api.ErrLimit, 0, 0)},
		"lines in order":                {source(at("-", 12, "A"), "\x00"), fault(api.ErrState, 1, 7)},
	} {
		checkFault(t, name, x.text, false, x.want)
	}
}

// R4

func TestResultsOfReadAreNew(t *testing.T) {
	text := source(at(" ", 12, "A"), at("-", 12, "B"), at(" ", 12, "C"), at("-", 12, "D"))
	first, _ := Read(text, false)
	second, _ := Read(text, false)
	kept := fmt.Sprint(second, first[1])
	for i := range first[0].Marks {
		first[0].Marks[i] = Mark{}
	}
	_ = append(first[0].Marks, Mark{7, pos(7, 7)})
	first[0] = Card{}
	if now := fmt.Sprint(second, first[1]); now != kept {
		t.Errorf("%s, before %s", now, kept)
	}
}
