package tokens_test

import (
	"strings"
	"testing"

	"columnseven/api"
	"columnseven/columns"
	"columnseven/tokens"
)

// The first columns of the areas.
const (
	areaA = 8
	areaB = 12
)

func spaces(n int) string { return strings.Repeat(" ", n) }

// card returns a card whose text begins in a column of a line.
func card(line, column int, text string) columns.Card {
	at := api.Pos{Line: line, Column: column}
	return columns.Card{Left: column < areaB, Text: text, Marks: []columns.Mark{{At: at}}}
}

// cards returns a card in area B for each text, in lines from 1 on.
func cards(texts ...string) []columns.Card {
	var l []columns.Card
	for i, text := range texts {
		l = append(l, card(i+1, areaB, text))
	}
	return l
}

// source returns lines that are separated by bytes 10.
func source(lines ...string) string { return strings.Join(lines, "\n") }

// line returns a line with an indicator in which a text begins in a column.
func line(indicator string, column int, text string) string {
	return spaces(6) + indicator + spaces(column-8) + text
}

func fault(e api.Errno, line, column int) api.Fault {
	return api.Fault{E: e, At: api.Pos{Line: line, Column: column}}
}

// show returns the kinds and texts of tokens. (The texts of periods and pseudo-texts tell nothing.)
func show(l []api.Token) string {
	kinds := map[api.Kind]string{api.Word: "Word", api.Number: "Number", api.Quote: "Quote", api.Picture: "Picture", api.Sign: "Sign", api.Period: "Period", api.Pseudo: "Pseudo"}
	var all []string
	for _, t := range l {
		shown := kinds[t.Kind]
		if t.Kind != api.Period && t.Kind != api.Pseudo {
			shown += " " + t.Text
		}
		all = append(all, shown)
	}
	return strings.Join(all, "|")
}

// stands returns how a token stands in a text, with capital letters.
func stands(t api.Token) string { return strings.ToUpper(tokens.Text([]api.Token{t})) }

// checkPlaces fails unless tokens stand one behind the other in a text that begins in a column of line 1,
// with nothing but spaces, commas and semicolons between them.
func checkPlaces(t *testing.T, text string, column int, l []api.Token) {
	t.Helper()
	end := 0
	for i, token := range l {
		at := token.At.Column - column
		if token.At.Line != 1 || at < end || !strings.HasPrefix(strings.ToUpper(text[at:]), stands(token)) {
			t.Errorf("%q: token %d is at %v", text, i, token.At)
			return
		}
		if strings.Trim(text[end:at], " ,;") != "" {
			t.Errorf("%q: token %d is behind %q", text, i, text[end:at])
		}
		if token.Left != (token.At.Column < areaB) {
			t.Errorf("%q: token %d at %v has Left %t", text, i, token.At, token.Left)
		}
		end = at + len(stands(token))
	}
	if strings.Trim(text[end:], " ,;") != "" {
		t.Errorf("%q: %q is left", text, text[end:])
	}
}

// checkNew fails unless the capacity of a result is its length (R4).
func checkNew[T any](t *testing.T, name string, l []T) {
	t.Helper()
	if cap(l) != len(l) {
		t.Errorf("%q: length %d, capacity %d", name, len(l), cap(l))
	}
}

// scanning is a text and its tokens.
type scanning struct{ text, want string }

func checkScannings(t *testing.T, all []scanning) {
	t.Helper()
	for _, x := range all {
		for _, column := range []int{areaA, 10, areaB, 72} {
			l, f := tokens.Scan([]columns.Card{card(1, column, x.text)})
			if got := show(l); got != x.want || f != (api.Fault{}) {
				t.Errorf("%q: %s, %v, wanted %s", x.text, got, f, x.want)
				continue
			}
			checkPlaces(t, x.text, column, l)
			checkNew(t, x.text, l)
		}
	}
}

// P3.1: tokens

func TestScanNothing(t *testing.T) {
	for _, l := range [][]columns.Card{nil, {}, cards(" "), cards("   ", "  "), cards(","), cards(";"), cards(", ;  , "), cards(",", ";", " ")} {
		if got, f := tokens.Scan(l); len(got) != 0 || f != (api.Fault{}) {
			t.Errorf("%v: %v, %v", l, got, f)
		}
	}
	for _, text := range []string{"", "\n", "\n\n", spaces(80), line("*", 8, "A"), line(" ", 12, ","), source(line(" ", 8, "; ,"), "", line(" ", 20, ";"))} {
		for _, debug := range []bool{false, true} {
			if got, f := tokens.Source(text, debug); len(got) != 0 || f != (api.Fault{}) {
				t.Errorf("%q: %v, %v", text, got, f)
			}
		}
	}
}

func examples() []scanning {
	return []scanning{
		{"move -1.50 to A-1, b(2).", "Word MOVE|Number -1.50|Word TO|Word A-1|Word B|Sign (|Number 2|Sign )|Period"},
		{"05 X PIC 9(3)v99.", "Number 05|Word X|Word PIC|Picture 9(3)V99|Period"},
		{`A - 1 ** .5 <= "B""C"`, `Word A|Sign -|Number 1|Sign **|Number .5|Sign <=|Quote B"C`},
		{"==1A== BY 7.", "Pseudo|Word 1A|Pseudo|Word BY|Number 7|Period"},
		{"COPY A REPLACING ==X PIC== BY ==Z PICTURE IS== 05 BY 10.",
			"Word COPY|Word A|Word REPLACING|Pseudo|Word X|Word PIC|Pseudo|Word BY|Pseudo|Word Z|Word PICTURE|Word IS|Pseudo|Number 05|Word BY|Number 10|Period"},
	}
}

func TestScanExamples(t *testing.T) { checkScannings(t, examples()) }

func separators() []scanning {
	return []scanning{
		{"A B", "Word A|Word B"}, {"A" + spaces(100) + "B", "Word A|Word B"}, {"  A  ", "Word A"},
		{"A, B", "Word A|Word B"}, {"A; B", "Word A|Word B"}, {"A , B ; C", "Word A|Word B|Word C"},
		{"A,", "Word A"}, {"A;", "Word A"}, {"A ,", "Word A"}, {"A ;", "Word A"}, {"A,  ", "Word A"}, {"A ; ", "Word A"},
		{", A", "Word A"}, {"; A", "Word A"}, {", ; , A; , B; ;", "Word A|Word B"},
		{"1, 2; 3,", "Number 1|Number 2|Number 3"}, {`"A", "B";`, "Quote A|Quote B"}, {"(A, B)", "Sign (|Word A|Word B|Sign )"}, {"(, -1; )", "Sign (|Number -1|Sign )"},
		{"==, A; ==,", "Pseudo|Word A|Pseudo"}, {"A. , . ;", "Word A|Period|Period"}, {"A, -1", "Word A|Number -1"}, {"+, -; *,", "Sign +|Sign -|Sign *"},
	}
}

func TestScanSeparators(t *testing.T) { checkScannings(t, separators()) }

func pictures() []scanning {
	return []scanning{
		{"PIC 9", "Word PIC|Picture 9"}, {"PICTURE 9", "Word PICTURE|Picture 9"}, {"pic x(3)", "Word PIC|Picture X(3)"}, {"Picture   s9v9", "Word PICTURE|Picture S9V9"},
		{"PIC IS 9", "Word PIC|Word IS|Picture 9"}, {"PICTURE IS 9", "Word PICTURE|Word IS|Picture 9"}, {"pIc  iS  xX", "Word PIC|Word IS|Picture XX"}, {"picture Is z9", "Word PICTURE|Word IS|Picture Z9"},
		{"PIC 9.", "Word PIC|Picture 9|Period"}, {"PIC 9. A", "Word PIC|Picture 9|Period|Word A"}, {"PIC 9 .", "Word PIC|Picture 9|Period"},
		{"PIC 9,", "Word PIC|Picture 9"}, {"PIC 9, A", "Word PIC|Picture 9|Word A"}, {"PIC 9;", "Word PIC|Picture 9"}, {"PIC 9; A", "Word PIC|Picture 9|Word A"}, {"PIC 9 , A", "Word PIC|Picture 9|Word A"},
		{"PIC Z,ZZ9.99.", "Word PIC|Picture Z,ZZ9.99|Period"}, {"PIC Z;9.9, 1", "Word PIC|Picture Z;9.9|Number 1"}, {"PIC 9.,9", "Word PIC|Picture 9.,9"}, {"PICTURE IS .9;", "Word PICTURE|Word IS|Picture .9"},
		{"PIC ,9", "Word PIC|Picture ,9"}, {"PIC ;9", "Word PIC|Picture ;9"}, {"PIC .9", "Word PIC|Picture .9"}, {"PIC IS ,9", "Word PIC|Word IS|Picture ,9"}, {"PIC IS ;9.", "Word PIC|Word IS|Picture ;9|Period"}, {"PIC ,,9", "Word PIC|Picture ,,9"},
		{"PIC -9", "Word PIC|Picture -9"}, {"PIC 9-", "Word PIC|Picture 9-"}, {"PIC +", "Word PIC|Picture +"}, {"PIC 1A", "Word PIC|Picture 1A"}, {"PIC $*#{", "Word PIC|Picture $*#{"}, {"PIC 9_a&b'", "Word PIC|Picture 9_A&B'"},
		{"PIC =", "Word PIC|Picture ="}, {"PIC = =9 =", "Word PIC|Picture =|Sign =|Number 9|Sign ="}, {"PIC 9==", "Word PIC|Picture 9=="}, {"PIC IS =9==.", "Word PIC|Word IS|Picture =9==|Period"},
		{"PIC" + spaces(70) + strings.Repeat("9", 5000) + ".", "Word PIC|Picture " + strings.Repeat("9", 5000) + "|Period"},
	}
}

func TestScanPictures(t *testing.T) { checkScannings(t, pictures()) }

// What is a picture depends on the tokens before, and on what stands there.
func announcements() []scanning {
	return []scanning{
		{"PIC", "Word PIC"}, {"PICTURE", "Word PICTURE"}, {"PIC IS", "Word PIC|Word IS"}, {"PICTURE IS", "Word PICTURE|Word IS"}, {"PIC IS ", "Word PIC|Word IS"},
		{"PIC IS IS", "Word PIC|Word IS|Picture IS"}, {"PIC IS is A", "Word PIC|Word IS|Picture IS|Word A"}, {"PICTURE IS IS IS 9", "Word PICTURE|Word IS|Picture IS|Word IS|Number 9"},
		{"PIC PIC 9", "Word PIC|Picture PIC|Number 9"}, {"PIC PIC IS 9", "Word PIC|Picture PIC|Word IS|Number 9"}, {"PIC IS PICTURE 9", "Word PIC|Word IS|Picture PICTURE|Number 9"}, {"PIC PICTURE PIC PICTURE", "Word PIC|Picture PICTURE|Word PIC|Picture PICTURE"},
		{"PIC 9 9 PIC 9", "Word PIC|Picture 9|Number 9|Word PIC|Picture 9"}, {"PIC 9 IS 9", "Word PIC|Picture 9|Word IS|Number 9"}, {"PIC IS 9 IS 9", "Word PIC|Word IS|Picture 9|Word IS|Number 9"},
		{"IS 9", "Word IS|Number 9"}, {"A IS 9", "Word A|Word IS|Number 9"}, {"IS PIC 9", "Word IS|Word PIC|Picture 9"}, {"IS IS 9", "Word IS|Word IS|Number 9"}, {"PIC X A IS 9", "Word PIC|Picture X|Word A|Word IS|Number 9"},
		{"PICS 9", "Word PICS|Number 9"}, {"PI 9", "Word PI|Number 9"}, {"A-PIC 9", "Word A-PIC|Number 9"}, {"PIC-9 9", "Word PIC-9|Number 9"}, {"PICTURES 9", "Word PICTURES|Number 9"},
		{`"PIC" 9`, "Quote PIC|Number 9"}, {`"PICTURE" IS 9`, "Quote PICTURE|Word IS|Number 9"}, {`PICTURE IS X "IS" 9`, "Word PICTURE|Word IS|Picture X|Quote IS|Number 9"},
		{"PIC IS9", "Word PIC|Picture IS9"}, {"PIC IS-9", "Word PIC|Picture IS-9"}, {"PIC I 9", "Word PIC|Picture I|Number 9"}, {"PIC AIS 9", "Word PIC|Picture AIS|Number 9"},
		{"PIC(9)", "Word PIC|Picture (9)"}, {"PIC+9 9", "Word PIC|Picture +9|Number 9"}, {"PIC=9", "Word PIC|Picture =9"}, {"PIC IS(9)", "Word PIC|Word IS|Picture (9)"},
		{"PIC == 9", "Word PIC|Pseudo|Number 9"}, {"PIC ==9", "Word PIC|Pseudo|Number 9"}, {"PIC==9", "Word PIC|Pseudo|Number 9"}, {"PICTURE IS == 9", "Word PICTURE|Word IS|Pseudo|Number 9"}, {"PICTURE IS==9", "Word PICTURE|Word IS|Pseudo|Number 9"},
		{"PIC === 9", "Word PIC|Pseudo|Sign =|Number 9"}, {"==PIC== ==PIC IS== BY ==PICTURE==.", "Pseudo|Word PIC|Pseudo|Pseudo|Word PIC|Word IS|Pseudo|Word BY|Pseudo|Word PICTURE|Pseudo|Period"},
	}
}

func TestScanAnnouncedPictures(t *testing.T) { checkScannings(t, announcements()) }

func TestScanPicturesOfOtherCards(t *testing.T) {
	for _, x := range []struct {
		texts []string
		want  string
	}{
		{[]string{"PIC", "9."}, "Word PIC|Picture 9|Period"},
		{[]string{"A PICTURE", "9. A"}, "Word A|Word PICTURE|Picture 9|Period|Word A"},
		{[]string{"PIC IS", "9, A"}, "Word PIC|Word IS|Picture 9|Word A"},
		{[]string{"PIC ", "is 9"}, "Word PIC|Word IS|Picture 9"},
		{[]string{"PIC", "IS", "IS", "9"}, "Word PIC|Word IS|Picture IS|Number 9"},
		{[]string{"PICTURE", " ", "  ,9"}, "Word PICTURE|Picture ,9"},
		{[]string{"PICTURE", "IS", " ", "-9"}, "Word PICTURE|Word IS|Picture -9"},
		{[]string{"PIC", "== 9"}, "Word PIC|Pseudo|Number 9"},
		{[]string{"PIC IS", "==", "9"}, "Word PIC|Word IS|Pseudo|Number 9"},
		{[]string{"PIC 9", "9"}, "Word PIC|Picture 9|Number 9"},
		{[]string{"PIC 9.", "PIC", "9."}, "Word PIC|Picture 9|Period|Word PIC|Picture 9|Period"},
	} {
		if got, f := tokens.Scan(cards(x.texts...)); show(got) != x.want || f != (api.Fault{}) {
			t.Errorf("%q: %s, %v, wanted %s", x.texts, show(got), f, x.want)
		}
	}
}

func literals() []scanning {
	return []scanning{
		{`"A"`, "Quote A"}, {`" a , B. ; == "`, "Quote  a , B. ; == "}, {`" "`, "Quote  "}, {`"-1"`, "Quote -1"}, {`"."`, "Quote ."},
		{`"B""C"`, `Quote B"C`}, {`""""`, `Quote "`}, {`""""""`, `Quote ""`}, {`"""A"`, `Quote "A`}, {`"A"""`, `Quote A"`}, {`"A""""B"`, `Quote A""B`}, {`""" """`, `Quote " "`}, {`"A"" ""B" "C"`, `Quote A" "B|Quote C`},
		{`"A" "B"`, "Quote A|Quote B"}, {`A"B"C`, "Word A|Quote B|Word C"}, {`1"A"2`, "Number 1|Quote A|Number 2"}, {`"A".`, "Quote A|Period"}, {`"A". "B"`, "Quote A|Period|Quote B"}, {`("A")`, "Sign (|Quote A|Sign )"}, {`=="A"==`, "Pseudo|Quote A|Pseudo"}, {`"A"=="B"`, "Quote A|Pseudo|Quote B"},
		{`"` + strings.Repeat(`""x `, 2000) + `"`, "Quote " + strings.Repeat(`"x `, 2000)},
	}
}

func TestScanLiterals(t *testing.T) { checkScannings(t, literals()) }

func periods() []scanning {
	return []scanning{
		{".", "Period"}, {". ", "Period"}, {" .", "Period"}, {". .", "Period|Period"}, {".  . A .", "Period|Period|Word A|Period"},
		{"A.", "Word A|Period"}, {"A. B", "Word A|Period|Word B"}, {"A .", "Word A|Period"}, {"1A.", "Word 1A|Period"}, {").", "Sign )|Period"}, {"=.", "Sign =|Period"}, {"-. A", "Sign -|Period|Word A"}, {"==.", "Pseudo|Period"},
		{"1.", "Number 1|Period"}, {"1. 2", "Number 1|Period|Number 2"}, {"1.5.", "Number 1.5|Period"}, {"-.5. A", "Number -.5|Period|Word A"}, {"(.", "Sign (|Period"},
	}
}

func TestScanPeriods(t *testing.T) { checkScannings(t, periods()) }

func numbers() []scanning {
	return []scanning{
		{"0", "Number 0"}, {"9", "Number 9"}, {"0123456789", "Number 0123456789"}, {"007", "Number 007"}, {"1.50", "Number 1.50"}, {".5", "Number .5"}, {"00.00", "Number 00.00"},
		{"-1", "Number -1"}, {"+1", "Number +1"}, {"-.5", "Number -.5"}, {"+.05", "Number +.05"}, {"-12.50", "Number -12.50"}, {"-1.", "Number -1|Period"}, {"+0. A", "Number +0|Period|Word A"},
		{"A -1", "Word A|Number -1"}, {"A +.5", "Word A|Number +.5"}, {"1 -1", "Number 1|Number -1"}, {"( -1", "Sign (|Number -1"}, {"(-1)", "Sign (|Number -1|Sign )"}, {"(+1.5)", "Sign (|Number +1.5|Sign )"}, {"((-.5", "Sign (|Sign (|Number -.5"}, {", -1", "Number -1"},
		{"A - 1", "Word A|Sign -|Number 1"}, {"A + .5", "Word A|Sign +|Number .5"}, {"1+1", "Number 1|Sign +|Number 1"}, {"1.5+.5", "Number 1.5|Sign +|Number .5"}, {"A+1", "Word A|Sign +|Number 1"},
		{")-1", "Sign )|Sign -|Number 1"}, {")+.5", "Sign )|Sign +|Number .5"}, {"A(1)-1", "Word A|Sign (|Number 1|Sign )|Sign -|Number 1"}, {"=-1", "Sign =|Sign -|Number 1"}, {"*+1", "Sign *|Sign +|Number 1"}, {":-1", "Sign :|Sign -|Number 1"}, {`"A"-1`, "Quote A|Sign -|Number 1"}, {"==-1==", "Pseudo|Sign -|Number 1|Pseudo"},
		{"--1", "Sign -|Sign -|Number 1"}, {"-+1", "Sign -|Sign +|Number 1"}, {"+-.5", "Sign +|Sign -|Number .5"}, {"- -1", "Sign -|Number -1"}, {"-(1", "Sign -|Sign (|Number 1"}, {"-(-1", "Sign -|Sign (|Number -1"}, {"-A", "Sign -|Word A"}, {"+A-1", "Sign +|Word A-1"}, {"(-A", "Sign (|Sign -|Word A"}, {"-", "Sign -"}, {"A -", "Word A|Sign -"}, {`-"A"`, "Sign -|Quote A"},
		{"A.5", "Word A|Number .5"}, {"1A.5", "Word 1A|Number .5"}, {"1.5.5", "Number 1.5|Number .5"}, {".5.5", "Number .5|Number .5"}, {"-1.5.5", "Number -1.5|Number .5"}, {`"A".5`, "Quote A|Number .5"}, {").5", "Sign )|Number .5"}, {"*.5", "Sign *|Number .5"}, {".5(", "Number .5|Sign ("},
		{"1(2:3)", "Number 1|Sign (|Number 2|Sign :|Number 3|Sign )"}, {"1=2", "Number 1|Sign =|Number 2"}, {"1==2", "Number 1|Pseudo|Number 2"}, {"1*-1", "Number 1|Sign *|Sign -|Number 1"}, {"1/2", "Number 1|Sign /|Number 2"},
	}
}

func TestScanNumbers(t *testing.T) { checkScannings(t, numbers()) }

func words() []scanning {
	return []scanning{
		{"A", "Word A"}, {"az", "Word AZ"}, {"aB-1", "Word AB-1"}, {"A--B", "Word A--B"}, {"A-1-2", "Word A-1-2"}, {"A1", "Word A1"}, {"Z-0", "Word Z-0"},
		{"1A", "Word 1A"}, {"1a1", "Word 1A1"}, {"1-A", "Word 1-A"}, {"12-34-a", "Word 12-34-A"}, {"0--z", "Word 0--Z"}, {"007-X", "Word 007-X"}, {"1E5", "Word 1E5"}, {"1-1-A(1", "Word 1-1-A|Sign (|Number 1"},
		{"A B-C", "Word A|Word B-C"}, {"A -B", "Word A|Sign -|Word B"}, {"A(B)C", "Word A|Sign (|Word B|Sign )|Word C"}, {"A+B", "Word A|Sign +|Word B"}, {"A=B", "Word A|Sign =|Word B"}, {"A==B", "Word A|Pseudo|Word B"}, {"A:B/C", "Word A|Sign :|Word B|Sign /|Word C"},
	}
}

func TestScanWords(t *testing.T) { checkScannings(t, words()) }

func signs() []scanning {
	all := []scanning{
		{"***", "Sign **|Sign *"}, {"****", "Sign **|Sign **"}, {"* *", "Sign *|Sign *"}, {"*/", "Sign *|Sign /"}, {"/*", "Sign /|Sign *"}, {"//", "Sign /|Sign /"},
		{"<<", "Sign <|Sign <"}, {"><", "Sign >|Sign <"}, {">>", "Sign >|Sign >"}, {"=<", "Sign =|Sign <"}, {"=>", "Sign =|Sign >"}, {"=>=", "Sign =|Sign >="}, {"<=>", "Sign <=|Sign >"}, {"<>=", "Sign <>|Sign ="}, {"<>==", "Sign <>|Pseudo"}, {">==", "Sign >=|Sign ="}, {"<==", "Sign <=|Sign ="}, {"<===", "Sign <=|Pseudo"}, {"< =", "Sign <|Sign ="}, {"<<=", "Sign <|Sign <="}, {"<<>", "Sign <|Sign <>"},
		{"==", "Pseudo"}, {"===", "Pseudo|Sign ="}, {"====", "Pseudo|Pseudo"}, {"= =", "Sign =|Sign ="}, {"()", "Sign (|Sign )"}, {"((", "Sign (|Sign ("}, {"::", "Sign :|Sign :"}, {"++", "Sign +|Sign +"}, {"--", "Sign -|Sign -"},
		{"A<=B", "Word A|Sign <=|Word B"}, {"1<>.5", "Number 1|Sign <>|Number .5"}, {"A**2", "Word A|Sign **|Number 2"}, {`"A">="B"`, "Quote A|Sign >=|Quote B"},
	}
	for _, sign := range []string{"(", ")", ":", "+", "-", "*", "/", "**", "=", "<", ">", "<=", ">=", "<>"} {
		all = append(all, scanning{sign, "Sign " + sign}, scanning{"A " + sign + " 1", "Word A|Sign " + sign + "|Number 1"}, scanning{`"B"` + sign + "(", "Quote B|Sign " + sign + "|Sign ("})
	}
	return all
}

func TestScanSigns(t *testing.T) { checkScannings(t, signs()) }

// What is just as long as the limits allow.
func longest() []scanning {
	name, nines := strings.Repeat("A-1", 10), strings.Repeat("9", api.MaxDigits)
	return []scanning{
		{name, "Word " + name}, {strings.Repeat("9", 29) + "z", "Word " + strings.Repeat("9", 29) + "Z"}, {"B" + strings.Repeat("-", 28) + "B " + name, "Word B" + strings.Repeat("-", 28) + "B|Word " + name},
		{nines, "Number " + nines}, {"-" + nines, "Number -" + nines}, {"." + nines, "Number ." + nines}, {"+" + nines[1:] + ".0", "Number +" + nines[1:] + ".0"}, {"(-." + nines + ")", "Sign (|Number -." + nines + "|Sign )"}, {nines + ".", "Number " + nines + "|Period"}, {strings.Repeat("0", api.MaxDigits), "Number " + strings.Repeat("0", api.MaxDigits)},
	}
}

func TestScanLongestTokens(t *testing.T) { checkScannings(t, longest()) }

// Each byte alone, and between two words.
func TestScanEachByte(t *testing.T) {
	for c := range 256 {
		text := string([]byte{byte(c)})
		var want string
		switch {
		case strings.Contains(" ,;", text):
		case text == ".":
			want = "Period"
		case strings.Contains("():+-*/=<>", text):
			want = "Sign " + text
		case c >= '0' && c <= '9':
			want = "Number " + text
		case c >= 'A' && c <= 'Z' || c >= 'a' && c <= 'z':
			want = "Word " + strings.ToUpper(text)
		default:
			checkFault(t, cards(text), fault(api.ErrForm, 1, areaB))
			checkFault(t, cards("A"+text+"B"), fault(api.ErrForm, 1, areaB+1))
			continue
		}
		checkScannings(t, []scanning{{text, want}})
		if strings.Contains(".,;", text) {
			checkFault(t, cards("A"+text+"B"), fault(api.ErrForm, 1, areaB+1))
		}
	}
}

// Each printable byte at the beginning, inside and at the end of a picture.
func TestScanEachByteOfPictures(t *testing.T) {
	for c := '!'; c <= '~'; c++ {
		text := string(c)
		switch {
		case text == `"`:
			for _, picture := range []string{text + "9", "9" + text, "9" + text + "9"} {
				checkFault(t, cards("PIC "+picture), fault(api.ErrForm, 1, areaB+4))
			}
		case strings.Contains(".,;", text):
			checkFault(t, cards("PIC "+text), fault(api.ErrForm, 1, areaB+4))
			checkFault(t, cards("PIC 9"+text+text), fault(api.ErrForm, 1, areaB+4))
			checkScannings(t, []scanning{{"PIC " + text + "9" + text + text + "9", "Word PIC|Picture " + text + "9" + text + text + "9"}})
		default:
			want := "Word PIC|Picture " + strings.ToUpper(text)
			checkScannings(t, []scanning{{"PIC " + text, want}, {"PIC " + text + "9" + text, want + "9" + strings.ToUpper(text)}, {"PIC " + text + ",", want}})
		}
	}
}

// samples returns the texts of all tables.
func samples() []string {
	var texts []string
	for _, table := range [][]scanning{examples(), separators(), pictures(), announcements(), literals(), periods(), numbers(), words(), signs(), longest()} {
		for _, x := range table {
			texts = append(texts, x.text)
		}
	}
	return texts
}
