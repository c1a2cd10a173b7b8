package tokens_test

import (
	"strings"
	"testing"

	"columnseven/api"
	"columnseven/columns"
	"columnseven/tokens"
)

// P3.1: faults

func checkFault(t *testing.T, l []columns.Card, want api.Fault) {
	t.Helper()
	got, f := tokens.Scan(l)
	if len(got) != 0 || f != want {
		var texts []string
		for _, c := range l {
			texts = append(texts, c.Text)
		}
		t.Errorf("%.200q: %.200s, %v, wanted %v", texts, show(got), f, want)
	}
}

// refusal is a text, and how many characters stand in front of the token that is refused.
type refusal struct {
	text string
	at   int
}

func checkRefusals(t *testing.T, e api.Errno, all []refusal) {
	t.Helper()
	for _, x := range all {
		checkFault(t, cards(x.text), fault(e, 1, areaB+x.at))
		checkFault(t, []columns.Card{card(3, areaA, x.text)}, fault(e, 3, areaA+x.at))
		checkFault(t, cards("A B. (", " ", `"C" `+x.text), fault(e, 3, areaB+4+x.at))
		checkFault(t, cards(x.text+" ~ "+strings.Repeat("Z", 40), "~"), fault(e, 1, areaB+x.at))
	}
}

func TestScanRefusesCharacters(t *testing.T) {
	checkRefusals(t, api.ErrForm, []refusal{
		{"~", 0}, {"A ~", 2}, {"A~B", 1}, {"'A'", 0}, {"A_B", 1}, {"$1", 0}, {"1&2", 1}, {"(A]", 2}, {"A B !C", 4}, {`!A"`, 0}, {"\x1fA\"", 0}, {`#A"`, 0}, {"\x00", 0}, {"A\tB", 1}, {"A\n", 1}, {"\u00e4", 0}, {"A\xff", 1}, {"-1\u00e4", 2},
		{",A", 0}, {"A,B", 1}, {"A ,B", 2}, {"A,, B", 1}, {"A;B", 1}, {"A ;; B", 2}, {"A,; B", 1}, {",-1", 0}, {"1,5", 1}, {`"A","B"`, 3}, {"(A,)", 2}, {"A, ,B", 3}, {"A;.", 1}, {"A,\t", 1},
		{"A.B", 1}, {"..", 0}, {"A..", 1}, {". ..", 2}, {"1..", 1}, {"1..5", 1}, {"1.A", 1}, {"-1.A", 2}, {"1.-5", 1}, {".A", 0}, {".-5", 0}, {".,", 0}, {"A.; B", 1}, {"A.)", 1}, {`."A"`, 0}, {`"A"."B"`, 3}, {".==", 0}, {"+.A", 1}, {"1.5.A", 3}, {"A.\t", 1}, {"1.\t", 1},
	})
}

func TestScanRefusesLiterals(t *testing.T) {
	checkRefusals(t, api.ErrForm, []refusal{
		{`""`, 0}, {`A ""`, 2}, {`"" A`, 0}, {`A"".`, 1}, {`"A" ""`, 4}, {`"" ""`, 0}, {`("")`, 1}, {`""A""`, 0}, {`"A""B" ""`, 7},
	})
	for _, x := range []refusal{
		{`"`, 0}, {`"A`, 0}, {`A "B`, 2}, {`"A" "`, 4}, {`"""`, 0}, {`"A""`, 0}, {`"A"" B. `, 0}, {`"""A`, 0}, {`"""""`, 0}, {`A" `, 1}, {`(" B ~`, 1}, {`"A" " A`, 4},
	} {
		checkFault(t, cards(x.text), fault(api.ErrForm, 1, areaB+x.at))
		// The literal does not reach into the next card.
		checkFault(t, cards("A", x.text, `" "`), fault(api.ErrForm, 2, areaB+x.at))
	}
}

func TestScanRefusesPictures(t *testing.T) {
	checkRefusals(t, api.ErrForm, []refusal{
		{"PIC .", 4}, {"PIC ,", 4}, {"PIC ;", 4}, {"PIC . 9", 4}, {"PIC , 9", 4}, {"PICTURE ; 9", 8}, {"PIC.", 3}, {"PIC,", 3}, {"PIC; 9", 3}, {"PICTURE IS .", 11}, {"PIC IS ,", 7}, {"PIC IS, 9", 6}, {"PIC IS.", 6}, {"PIC  ;  IS 9", 5},
		{"PIC 9..", 4}, {"PIC 9.,", 4}, {"PIC 9,,", 4}, {"PIC 9,. A", 4}, {"PIC 9;.", 4}, {"PIC 9;; A", 4}, {"PIC ..", 4}, {"PIC ,;", 4}, {"PIC ,. 9", 4}, {"PIC IS 9..", 7}, {"PIC ...", 4}, {"PIC 9.;.", 4},
		{`PIC A"B"`, 4}, {`PIC "A"`, 4}, {`PIC "`, 4}, {`PIC A"`, 4}, {`PICTURE IS "A B"`, 11}, {`PIC A".`, 4}, {`PIC "".`, 4}, {`PIC"A"`, 3}, {`PIC IS"A"`, 6}, {`PIC X==""==`, 4}, {`PIC """"`, 4},
	})
	for _, texts := range [][]string{{"PIC", ", ;"}, {"PIC", "."}, {"PIC IS", `"A"`}, {"PICTURE IS", "..9.."}, {"PICTURE", " ;"}} {
		index := len(texts[1]) - len(strings.TrimLeft(texts[1], " "))
		checkFault(t, cards(texts...), fault(api.ErrForm, 2, areaB+index))
	}
}

func TestScanRefusesWords(t *testing.T) {
	form, width := api.ErrForm, api.ErrWidth
	checkRefusals(t, form, []refusal{
		{"A-", 0}, {"a-", 0}, {"A--", 0}, {"A- B", 0}, {"A-.", 0}, {"(A-)", 1}, {"1A-", 0}, {"A+B-", 2}, {"PIC-", 0}, {"A -B-", 3},
		{"1-", 0}, {"1-2", 0}, {"12-34.", 0}, {"A 1-1", 2}, {"1--", 0}, {"1-2.5", 0}, {"1-2-3", 0}, {")-1-", 2}, {"1-+A", 0}, {"A+1-1", 2},
		{strings.Repeat("A", api.MaxName) + "-", 0}, {strings.Repeat("AB-", 1000), 0}, {strings.Repeat("1-", 20) + "1", 0}, {"A " + strings.Repeat("1", 30) + "-1", 2},
	})
	long := strings.Repeat("A", api.MaxName+1)
	checkRefusals(t, width, []refusal{
		{long, 0}, {strings.ToLower(long), 0}, {"A " + long + ".", 2}, {strings.Repeat("1", api.MaxName) + "A", 0}, {"(A" + strings.Repeat("-", api.MaxName) + "1", 1}, {strings.Repeat("AB-", 1000) + "A", 0}, {"-" + long, 1}, {"PIC X " + long, 6},
	})
}

func TestScanRefusesNumbers(t *testing.T) {
	nines := strings.Repeat("9", api.MaxDigits)
	checkRefusals(t, api.ErrForm, []refusal{
		{"-1A", 0}, {"+1a", 0}, {"-1-", 0}, {"-1-2", 0}, {"(-1A)", 1}, {"A -1A", 2}, {"-1A.", 0}, {"+12z1", 0}, {"-9Z", 0}, {"-5-A", 0},
		{"1.5A", 0}, {"1.5z", 0}, {"1.5-", 0}, {"1.5-2", 0}, {".5A", 0}, {".5-", 0}, {"-.5A", 0}, {"+.5-1", 0}, {"-1.5A", 0}, {"-1.5-", 0}, {"A.5B", 1}, {"1.5.5A", 3}, {"(1.5-A", 1},
		{"-" + nines + "9A", 0}, {"1." + nines + "-", 0}, {"." + nines + "9Z", 0},
	})
	checkRefusals(t, api.ErrWidth, []refusal{
		{nines + "9", 0}, {"-" + nines + "9", 0}, {"A +" + nines + "9.", 2}, {nines + ".0", 0}, {"0." + nines, 0}, {"-0." + nines, 0}, {"." + nines + "0", 0}, {"+." + nines + "0", 0}, {strings.Repeat("0", 19), 0}, {strings.Repeat("0", 5000) + ".5", 0}, {"1+" + nines + "0", 2}, {"(" + nines + "0)", 1}, {nines + "0 1A-", 0},
	})
}

// The fault stands where the token does that is refused.
func TestFaultPositions(t *testing.T) {
	for text, want := range map[string]api.Fault{
		source(line(" ", 12, "A"), line("-", 12, "B C"), line("-", 12, "-")):           fault(api.ErrForm, 2, 14),
		source(line(" ", 12, "A ("), line("-", 15, "-1"), line("-", 12, "A")):          fault(api.ErrForm, 2, 15),
		source(line(" ", 8, "A"), line("*", 8, "A"), line(" ", 9, "A-")):               fault(api.ErrForm, 3, 9),
		source(line(" ", 8, "A PIC"), "", line(" ", 8, "  .")):                         fault(api.ErrForm, 3, 10),
		source(line(" ", 12, "A"), line(" ", 40, strings.Repeat("A", 31))):             fault(api.ErrWidth, 2, 40),
		source(line(" ", 53, strings.Repeat("1", 20)), line("-", 12, "1"), "\n\n"):     fault(api.ErrWidth, 1, 53),
		source(line(" ", 52, strings.Repeat("A", 21)), line("-", 12, "AAAAAAAAAA-")):   fault(api.ErrForm, 1, 52),
		source(line(" ", 12, `"`), line("-", 12, `""`), line("-", 12, `A,B`)):          fault(api.ErrForm, 3, 13),
		source(line(" ", 70, `"A"`), line("-", 12, `"B" ""`), line(" ", 12, "A-B-C-")): fault(api.ErrForm, 2, 16),
	} {
		if got, f := tokens.Source(text, false); len(got) != 0 || f != want {
			t.Errorf("%q: %s, %v, wanted %v", text, show(got), f, want)
		}
	}
}

// invalid returns cards that are not valid, whose texts have faults as well.
func invalid() []columns.Card {
	first, second := api.Pos{Line: 1, Column: 12}, api.Pos{Line: 2, Column: 12}
	return []columns.Card{
		{}, {Left: true}, {Text: "~"}, {Text: "A", Marks: []columns.Mark{}}, {Marks: []columns.Mark{{At: first}}},
		{Text: "A ~", Marks: []columns.Mark{{From: 1, At: first}}}, {Text: "A ~", Marks: []columns.Mark{{From: -1, At: first}}},
		{Text: "A ~", Marks: []columns.Mark{{At: first}, {From: 0, At: second}}}, {Text: "A ~", Marks: []columns.Mark{{At: first}, {From: 3, At: second}}}, {Text: "A ~", Marks: []columns.Mark{{At: first}, {From: 2, At: second}, {From: 1, At: second}}},
		{Text: "A", Marks: []columns.Mark{{At: api.Pos{Line: 0, Column: 12}}}}, {Text: "~", Marks: []columns.Mark{{At: api.Pos{Line: -1, Column: 12}}}}, {Text: "~", Marks: []columns.Mark{{At: api.Pos{Line: 1, Column: 7}}}}, {Text: "~", Marks: []columns.Mark{{At: api.Pos{Line: 1, Column: 73}}}}, {Text: " ", Marks: []columns.Mark{{}}},
		{Text: "A B", Marks: []columns.Mark{{At: first}, {From: 2, At: api.Pos{Line: 2, Column: 7}}}},
	}
}

func TestScanRefusesCards(t *testing.T) {
	none := fault(api.ErrArg, 0, 0)
	for _, bad := range invalid() {
		checkFault(t, []columns.Card{bad}, none)
		checkFault(t, append(cards("A", "B"), bad), none)
		checkFault(t, append([]columns.Card{bad}, cards("~")...), none)
		checkFault(t, append(append(cards("A B. "), bad), cards(`"`)...), none)
		// The faults of the cards before come first.
		checkFault(t, append(cards("A", "B ~"), bad), fault(api.ErrForm, 2, areaB+2))
		checkFault(t, append(cards(strings.Repeat("A", 31)), bad), fault(api.ErrWidth, 1, areaB))
	}
}

// many returns cards with a number of tokens.
func many(n int) []columns.Card {
	var l []columns.Card
	for n > 0 {
		most := min(n, 60000)
		l = append(l, card(len(l)+1, areaA, strings.Repeat("(", most)))
		n -= most
	}
	return l
}

func TestScanAsManyTokensAsThereMayBe(t *testing.T) {
	full := many(api.MaxTokens)
	for _, behind := range [][]columns.Card{nil, cards(" "), cards(", ; ", ";")} {
		got, f := tokens.Scan(append(full[:len(full):len(full)], behind...))
		if len(got) != api.MaxTokens || f != (api.Fault{}) {
			t.Errorf("%d tokens, %v", len(got), f)
		}
		checkNew(t, "as many as there may be", got)
	}
	for _, n := range []int{1, 2, 1000, api.MaxTokens} {
		checkFault(t, many(api.MaxTokens+n), fault(api.ErrLimit, 2, areaA+api.MaxTokens-60000))
	}
	checkFault(t, []columns.Card{card(1, areaA, strings.Repeat("A ", api.MaxTokens+1))}, fault(api.ErrLimit, 1, areaA+2*api.MaxTokens))
	for text, want := range map[string]api.Fault{
		"A": fault(api.ErrLimit, 5, areaA), " , A": fault(api.ErrLimit, 5, areaA+3), "1": fault(api.ErrLimit, 5, areaA), `"A"`: fault(api.ErrLimit, 5, areaA), ".": fault(api.ErrLimit, 5, areaA), "==": fault(api.ErrLimit, 5, areaA), "PIC .": fault(api.ErrLimit, 5, areaA),
		// These faults come before the limit, but those of the tokens behind do not.
		"~": fault(api.ErrForm, 5, areaA), `""`: fault(api.ErrForm, 5, areaA), "A-": fault(api.ErrForm, 5, areaA), strings.Repeat("A", 31): fault(api.ErrWidth, 5, areaA), " " + strings.Repeat("1", 19): fault(api.ErrWidth, 5, areaA+1), "A ~": fault(api.ErrLimit, 5, areaA),
	} {
		checkFault(t, append(full[:len(full):len(full)], card(5, areaA, text)), want)
	}
	for _, bad := range invalid() {
		checkFault(t, append(full[:len(full):len(full)], bad), fault(api.ErrArg, 0, 0))
		checkFault(t, append(many(api.MaxTokens+1), bad), fault(api.ErrLimit, 2, areaA+api.MaxTokens-60000))
	}
	most := append(many(api.MaxTokens-1), card(5, areaA, "PIC"), card(6, areaA, "."))
	checkFault(t, most, fault(api.ErrForm, 6, areaA))
	most[len(most)-1].Text = "X"
	checkFault(t, most, fault(api.ErrLimit, 6, areaA))
}

// Source has the faults of columns.Read, which come before all others.
func TestSourceFaultsOfRead(t *testing.T) {
	for _, text := range []string{
		line(" ", 12, "A") + spaces(70), source(line(" ", 12, "~"), line(" ", 12, "A\x00")), source(line(" ", 12, `""`), line("X", 12, "A")), source(line(" ", 12, "A-"), line(" ", 12, `"A`)),
		line("-", 12, "A"), source(line(" ", 12, `A "`), line("-", 12, "B")), source(line(" ", 12, "A~"), line("-", 8, "B")), strings.Repeat(" ", api.MaxText+1), source(line(" ", 12, "~"), line(" ", 12, `"`), line("*", 12, "~")),
		source(line(" ", 12, "A"), line("D", 12, "B\x7f")),
	} {
		for _, debug := range []bool{false, true} {
			_, want := columns.Read(text, debug)
			if got, f := tokens.Source(text, debug); len(got) != 0 || f != want || f == (api.Fault{}) {
				t.Errorf("%.200q: %s, %v, wanted %v", text, show(got), f, want)
			}
		}
	}
	text := source(line(" ", 12, "A"), line("D", 12, "~"), line("d", 12, `"`))
	if got, f := tokens.Source(text, false); show(got) != "Word A" || f != (api.Fault{}) {
		t.Errorf("debugging lines that do not count: %s, %v", show(got), f)
	}
	if got, f := tokens.Source(text, true); len(got) != 0 || f != fault(api.ErrForm, 3, 12) {
		t.Errorf("debugging lines: %s, %v", show(got), f)
	}
}
