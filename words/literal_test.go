package words_test

import (
	"reflect"
	"slices"
	"strings"
	"testing"

	"columnseven/api"
	"columnseven/words"
)

// numeric returns the field of a number.
func numeric(picture string, digits, scale int, signed bool, bytes string) api.Field {
	return api.Field{Shape: api.Shape{Category: api.Numeric, Picture: picture, Digits: digits, Scale: scale, Signed: signed, Size: len(bytes)}, Bytes: []byte(bytes)}
}

// alphanumeric returns the field of a text.
func alphanumeric(bytes string) api.Field {
	return api.Field{Shape: api.Shape{Category: api.Alphanumeric, Picture: strings.Repeat("X", len(bytes)), Size: len(bytes)}, Bytes: []byte(bytes)}
}

// checkField fails unless a token of a kind has a field, wherever it stands.
func checkField(t *testing.T, kind api.Kind, text string, want api.Field) {
	t.Helper()
	for _, token := range []api.Token{
		{Kind: kind, Text: text},
		{Kind: kind, Text: text, At: api.Pos{Line: 7, Column: 12}, Left: true},
		{Kind: kind, Text: text, At: api.Pos{Line: -1, Column: 1 << 40}},
	} {
		got, e := words.Literal(token)
		if e != api.OK || !reflect.DeepEqual(got, want) {
			t.Errorf("%d %.300q: %+v, %d, wanted %+v", kind, text, got, e, want)
		}
		if cap(got.Bytes) != len(got.Bytes) {
			t.Errorf("%d %.300q: length %d, capacity %d", kind, text, len(got.Bytes), cap(got.Bytes))
		}
	}
}

// checkErrors fails unless a token of a kind has an error and no field, whatever its text.
func checkErrors(t *testing.T, kind api.Kind, want api.Errno, texts ...string) {
	t.Helper()
	for _, text := range texts {
		for _, token := range []api.Token{{Kind: kind, Text: text}, {Kind: kind, Text: text, At: api.Pos{Line: 1, Column: 8}, Left: true}} {
			if got, e := words.Literal(token); e != want || !reflect.DeepEqual(got, api.Field{}) {
				t.Errorf("%d %.300q: %+v, %d, wanted %d", kind, text, got, e, want)
			}
		}
	}
}

// P5.3: numbers

func TestNumbers(t *testing.T) {
	for text, want := range map[string]api.Field{
		"-1.50": numeric("S9V99", 3, 2, true, "15}"), "007": numeric("999", 3, 0, false, "007"), "+.5": numeric("SV9", 1, 1, true, "E"),
		"5": numeric("9", 1, 0, false, "5"), "+5": numeric("S9", 1, 0, true, "E"), "-5": numeric("S9", 1, 0, true, "N"),
		"12": numeric("99", 2, 0, false, "12"), "+12": numeric("S99", 2, 0, true, "1B"), "-12": numeric("S99", 2, 0, true, "1K"),
		".5": numeric("V9", 1, 1, false, "5"), "-.5": numeric("SV9", 1, 1, true, "N"), ".05": numeric("V99", 2, 2, false, "05"), "-.005": numeric("SV999", 3, 3, true, "00N"), ".500": numeric("V999", 3, 3, false, "500"),
		"1.5": numeric("9V9", 2, 1, false, "15"), "+1.5": numeric("S9V9", 2, 1, true, "1E"), "12.345": numeric("99V999", 5, 3, false, "12345"), "+123.4": numeric("S999V9", 4, 1, true, "123D"), "0.5": numeric("9V9", 2, 1, false, "05"), "-00.50": numeric("S99V99", 4, 2, true, "005}"),
		"+007": numeric("S999", 3, 0, true, "00G"), "-010": numeric("S999", 3, 0, true, "01}"), "0100": numeric("9999", 4, 0, false, "0100"),
		"0": numeric("9", 1, 0, false, "0"), "+0": numeric("S9", 1, 0, true, "{"), "-0": numeric("S9", 1, 0, true, "}"), "000": numeric("999", 3, 0, false, "000"), "+000": numeric("S999", 3, 0, true, "00{"), "-000": numeric("S999", 3, 0, true, "00}"),
		".0": numeric("V9", 1, 1, false, "0"), "+.0": numeric("SV9", 1, 1, true, "{"), "-.0": numeric("SV9", 1, 1, true, "}"), "0.00": numeric("9V99", 3, 2, false, "000"), "-0.00": numeric("S9V99", 3, 2, true, "00}"), "+0.0": numeric("S9V9", 2, 1, true, "0{"),
	} {
		checkField(t, api.Number, text, want)
	}
}

func TestLastDigits(t *testing.T) {
	for digit := range 10 {
		plain := string(rune('0' + digit))
		for sign, last := range map[string]string{"": plain, "+": "{ABCDEFGHI"[digit : digit+1], "-": "}JKLMNOPQR"[digit : digit+1]} {
			s, signed := "", sign != ""
			if signed {
				s = "S"
			}
			checkField(t, api.Number, sign+plain, numeric(s+"9", 1, 0, signed, last))
			checkField(t, api.Number, sign+"."+plain, numeric(s+"V9", 1, 1, signed, last))
			checkField(t, api.Number, sign+"9"+plain, numeric(s+"99", 2, 0, signed, "9"+last))
			checkField(t, api.Number, sign+"0123456789."+plain+plain, numeric(s+"9999999999V99", 12, 2, signed, "0123456789"+plain+last))
		}
	}
}

func TestLongNumbers(t *testing.T) {
	digits := strings.Repeat("1", api.MaxDigits)
	nines := strings.Repeat("9", api.MaxDigits)
	checkField(t, api.Number, digits, numeric(nines, api.MaxDigits, 0, false, digits))
	checkField(t, api.Number, strings.Repeat("0", api.MaxDigits), numeric(nines, api.MaxDigits, 0, false, strings.Repeat("0", api.MaxDigits)))
	checkField(t, api.Number, "-"+digits, numeric("S"+nines, api.MaxDigits, 0, true, digits[1:]+"J"))
	for behind := 1; behind <= api.MaxDigits; behind++ {
		front := api.MaxDigits - behind
		picture := nines[:front] + "V" + nines[:behind]
		checkField(t, api.Number, digits[:front]+"."+digits[:behind], numeric(picture, api.MaxDigits, behind, false, digits))
		checkField(t, api.Number, "+"+digits[:front]+"."+digits[:behind], numeric("S"+picture, api.MaxDigits, behind, true, digits[1:]+"A"))
	}
	for _, sign := range []string{"", "+", "-"} {
		checkErrors(t, api.Number, api.ErrWidth, sign+digits+"1", sign+"0"+digits, sign+strings.Repeat("0", api.MaxDigits+1), sign+digits+".1", sign+digits+".0", sign+"."+digits+"1", sign+"."+digits+"0", sign+"0."+digits, sign+digits[:9]+"."+digits[:10], sign+digits+digits, sign+digits+"."+digits, sign+strings.Repeat("7", 5000), sign+"."+strings.Repeat("7", 5000))
	}
}

func TestNoNumbers(t *testing.T) {
	form := api.ErrForm
	checkErrors(t, api.Number, form, "", "+", "-", ".", "+.", "-.", "..", " ", "\x00")
	for _, digits := range []string{"5", "12", "0", strings.Repeat("1", api.MaxDigits), strings.Repeat("1", api.MaxDigits+1), strings.Repeat("0", 5000)} {
		checkErrors(t, api.Number, form,
			digits+".", "+"+digits+".", "-"+digits+".", digits+"..", "."+digits+".", ".."+digits, digits+".."+digits, digits+".5.5", digits+".5.", "."+digits+".5",
			"++"+digits, "--"+digits, "+-"+digits, "-+"+digits, digits+"+", digits+"-", "-"+digits+"-", "+"+digits+"-", digits+"-"+digits, digits+".-5", digits+"-.5", "."+digits+"-", ".-"+digits, ".+"+digits, digits+".+5",
			" "+digits, digits+" ", "- "+digits, digits+" "+digits, digits+" .5", digits+". 5", digits+",5", digits+"A", "A"+digits, digits+"E5", digits+".5E5", "0x"+digits, digits+"_0", digits+"J", digits+"}", "{"+digits, "$"+digits,
			digits+"/", digits+":", "/"+digits, ":"+digits, digits+"\n", "\x00"+digits, digits+"\xff", digits+".\xff", digits+"\u0663", digits+"\uff15", digits+"\u00b2", "\u2212"+digits, "*"+digits, "("+digits+")",
		)
	}
}

// A text that is no number has this error, however long it is.
func TestFormComesBeforeWidth(t *testing.T) {
	long := strings.Repeat("9", api.MaxDigits+1)
	checkErrors(t, api.Number, api.ErrForm, long+".", long+"A", "A"+long, "--"+long, long+".1.", long+"-", "."+long+".", strings.Repeat(".", api.MaxDigits+1), strings.Repeat("A", api.MaxDigits+1), strings.Repeat("-", 5000))
	// Neither a sign nor a period counts as a digit.
	checkField(t, api.Number, "-"+long[:9]+"."+long[:9], numeric("S999999999V999999999", 18, 9, true, "99999999999999999R"))
}

// P5.3: quotes

func TestQuotes(t *testing.T) {
	for _, text := range []string{
		"AB", "A", " ", "   ", "a b", `"`, `"A"`, "5", "-1.50", "ZERO", "MOVE", "TOTAL", ".", "==", "\x00", "\x00\x00", "\xff", "A\xffB", "\n", "\u00e4", "{", "0123456789", strings.Repeat("X", api.MaxPicture-1), strings.Repeat("9", api.MaxPicture), strings.Repeat("\xff", api.MaxPicture), strings.Repeat("\u00e4", api.MaxPicture/2),
	} {
		checkField(t, api.Quote, text, alphanumeric(text))
	}
	for n := range api.MaxPicture {
		text := strings.Repeat("AB C", api.MaxPicture)[:n+1]
		checkField(t, api.Quote, text, alphanumeric(text))
	}
	checkErrors(t, api.Quote, api.ErrWidth, "", strings.Repeat("X", api.MaxPicture+1), strings.Repeat(" ", api.MaxPicture+1), strings.Repeat("\u00e4", api.MaxPicture/2)+"A", strings.Repeat("X", 2*api.MaxPicture), strings.Repeat("X", 100000))
}

// P5.3: words

func TestFigurativeConstants(t *testing.T) {
	for word, b := range figuratives() {
		want := alphanumeric(string([]byte{b}))
		if b == '0' {
			want = numeric("9", 1, 0, false, "0")
		}
		checkField(t, api.Word, word, want)
	}
}

func TestOtherWords(t *testing.T) {
	checkErrors(t, api.Word, api.ErrWord, foreign()...)
	checkErrors(t, api.Word, api.ErrWord, strings.Fields(keys)...)
	checkErrors(t, api.Word, api.ErrWord, strings.Fields(verbs)...)
	m := figuratives()
	for word := range m {
		checkErrors(t, api.Word, api.ErrWord, slices.DeleteFunc(similar(word), func(s string) bool {
			_, figurative := m[s]
			return figurative
		})...)
	}
	checkErrors(t, api.Word, api.ErrWord, "5", "0", "-1.50", ".5", "+", `"AB"`, `"`, strings.Repeat("A", api.MaxPicture+1), strings.Repeat("9", api.MaxDigits+1))
}

// P5.3: other tokens

func TestOtherKinds(t *testing.T) {
	for kind := range 256 {
		switch k := api.Kind(kind); k {
		case api.Word, api.Number, api.Quote:
		default:
			checkErrors(t, k, api.ErrKind, "", ".", "==", "(", "9", "5", "5.", "-1.50", "AB", "ZERO", "SPACE", "HIGH-VALUE", "MOVE", "X(4)", "*", "+", strings.Repeat("9", api.MaxDigits+1), strings.Repeat("X", api.MaxPicture+1), "\xff")
		}
	}
}

// R4

func TestBytesAreNew(t *testing.T) {
	for _, token := range []api.Token{
		{Kind: api.Number, Text: "007"}, {Kind: api.Number, Text: "-1.50"}, {Kind: api.Number, Text: "5"}, {Kind: api.Quote, Text: "A"}, {Kind: api.Quote, Text: "AB C"}, {Kind: api.Quote, Text: strings.Repeat("X", api.MaxPicture)},
		{Kind: api.Word, Text: "ZERO"}, {Kind: api.Word, Text: "SPACE"}, {Kind: api.Word, Text: "HIGH-VALUES"}, {Kind: api.Word, Text: "LOW-VALUE"}, {Kind: api.Word, Text: "QUOTE"},
	} {
		text := strings.Clone(token.Text)
		first, _ := words.Literal(token)
		second, _ := words.Literal(token)
		want := slices.Clone(second.Bytes)
		for i := range first.Bytes {
			first.Bytes[i] ^= 0x55
		}
		third, _ := words.Literal(token)
		if !slices.Equal(second.Bytes, want) || !slices.Equal(third.Bytes, want) || token.Text != text {
			t.Errorf("%d %q: a change of the bytes changes %q, %q", token.Kind, token.Text, second.Bytes, third.Bytes)
		}
	}
	if b, is := words.Byte("ZERO"); b != '0' || !is {
		t.Errorf("a change of the bytes changes Byte: %d, %t", b, is)
	}
}
