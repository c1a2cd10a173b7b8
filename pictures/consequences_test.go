package pictures_test

import (
	"math/rand"
	"regexp"
	"strconv"
	"strings"
	"testing"

	"columnseven/api"
	"columnseven/pictures"
)

// P6.2 once more: all short pictures, compared with a list of all forms

// edited is what a form of an edited number says.
type edited struct {
	digits, scale int
	signed        bool
}

// whole is a whole part with the symbol of which it consists alone, if it does.
type whole struct {
	text   string
	only   string
	digits int
	signs  int
}

// wholes returns all whole parts of at most so many symbols.
func wholes(most int) []whole {
	all := []whole{{text: "", only: ""}}
	for nines := 0; nines <= most; nines++ {
		tail := strings.Repeat("9", nines)
		if nines > 0 {
			all = append(all, whole{text: tail, only: "9", digits: nines})
		}
		for n := 1; n+nines <= most; n++ {
			for _, symbol := range []string{"Z", "*", "$", "+", "-"} {
				w := whole{text: strings.Repeat(symbol, n) + tail, only: symbol, digits: n + nines}
				if nines > 0 {
					w.only = "9"
				}
				if strings.Contains("$+-", symbol) {
					if n == 1 {
						continue
					}
					w.digits--
					if symbol != "$" {
						w.signs = 1
					}
				}
				all = append(all, w)
			}
		}
	}
	return all
}

// fractions returns all points with fractions of at most so many symbols, behind a whole part.
func fractions(w whole, most int) []string {
	all := []string{"", "V"}
	kinds := []string{"9"}
	switch w.only {
	case "":
		kinds = append(kinds, "Z", "*")
	case "Z", "*", "$", "+", "-":
		kinds = append(kinds, w.only)
	}
	for n := 1; n <= most; n++ {
		for _, kind := range kinds {
			all = append(all, "V"+strings.Repeat(kind, n), "."+strings.Repeat(kind, n))
		}
	}
	return all
}

// forms returns all edited pictures without insertion symbols that have parts of at most so many symbols.
func forms(t *testing.T, most int) map[string]edited {
	all := map[string]edited{}
	for _, w := range wholes(most) {
		for _, fraction := range fractions(w, most) {
			for _, sign := range []string{"", "+", "-"} {
				for _, currency := range []string{"", "$"} {
					for _, tail := range []string{"", "+", "-", "CR", "DB"} {
						signs := w.signs
						for _, part := range []string{sign, tail} {
							if part != "" {
								signs++
							}
						}
						e := edited{w.digits + max(0, len(fraction)-1), max(0, len(fraction)-1), signs > 0}
						if signs > 1 || e.digits == 0 || currency != "" && strings.HasPrefix(w.text, "$") {
							continue
						}
						text := sign + currency + w.text + fraction + tail
						if other, twice := all[text]; twice && other != e {
							t.Fatalf("%q is %v and %v", text, e, other)
						}
						all[text] = e
					}
				}
			}
		}
	}
	return all
}

// numbers returns all numeric pictures without a sign that have parts of at most so many symbols, with their scales.
func numbers(most int) map[string]int {
	all := map[string]int{}
	for n := 1; n <= most; n++ {
		nines := strings.Repeat("9", n)
		all[nines] = 0
		for m := range most {
			all[nines+"V"+strings.Repeat("9", m)] = m
		}
		all["V"+nines] = n
		for p := 1; p <= most; p++ {
			scaled := strings.Repeat("P", p)
			all["V"+scaled+nines], all[scaled+nines] = n+p, n+p
			all[nines+scaled], all[nines+scaled+"V"] = -p, -p
		}
	}
	return all
}

// without returns a picture without insertion symbols.
func without(s string) string {
	leave := strings.NewReplacer("B", "", "0", "", "/", "", ",", "")
	if before, debit := strings.CutSuffix(s, "DB"); debit {
		return leave.Replace(before) + "DB"
	}
	return leave.Replace(s)
}

var textForms = []*regexp.Regexp{regexp.MustCompile(`\AA+\z`), regexp.MustCompile(`\A[AX9]*[AX][AX9]*\z`), regexp.MustCompile(`\A[AX9B0/]*[AX][AX9B0/]*\z`)}

// modelShape returns the shape of an expanded picture, or the zero one if it has none.
func modelShape(s string, ofNumbers map[string]int, ofEdited map[string]edited) api.Shape {
	for i, form := range textForms {
		if form.MatchString(s) {
			return api.Shape{Category: api.Category(i + 1), Picture: s, Size: len(s)}
		}
	}
	digits := strings.Count(s, "9")
	if scale, is := ofNumbers[strings.TrimPrefix(s, "S")]; is {
		return api.Shape{Category: api.Numeric, Picture: s, Digits: digits, Scale: scale, Signed: s[0] == 'S', Size: digits}
	}
	if form, is := ofEdited[without(s)]; is && s[0] != ',' && s[len(s)-1] != ',' {
		return api.Shape{Category: api.Edited, Picture: s, Digits: form.digits, Scale: form.scale, Signed: form.signed, Size: len(strings.ReplaceAll(s, "V", ""))}
	}
	return api.Shape{}
}

func TestAllShortPictures(t *testing.T) {
	ofNumbers, ofEdited := numbers(6), forms(t, 6)
	for alphabet, length := range map[string]int{"AX9SVPZ*+-.,$B0/CRD": 3, "9SVPB": 6, "9ZV.+": 6, "$+9V.": 6, "9*-$": 6, "+-CRDB9": 5, "AX9B0/,": 4, "9,Z.0-": 5} {
		for _, s := range texts(alphabet, length)[1:] {
			want := modelShape(s, ofNumbers, ofEdited)
			got, e := pictures.Parse(s)
			if got != want || (e != api.OK) != (want == api.Shape{}) || e != api.OK && e != api.ErrForm {
				t.Errorf("%q: %+v, %d, wanted %+v", s, got, e, want)
			}
		}
	}
}

// P6.5

// checkConsequences fails unless the functions agree with each other about a text.
func checkConsequences(t *testing.T, s string) {
	t.Helper()
	expanded, e := pictures.Expand(s)
	short, shortError := pictures.Short(s)
	described, parseError := pictures.Parse(s)
	if e != shortError || e != api.OK && (e != parseError || expanded != "" || short != "") || parseError != api.OK && described != (api.Shape{}) {
		t.Errorf("%.300q: %d, %d, %d", s, e, shortError, parseError)
	}
	if e != api.OK {
		return
	}
	for _, other := range []string{expanded, short} {
		if got, e := pictures.Parse(other); got != described || e != parseError {
			t.Errorf("%.300q, %.300q: %+v, %d, wanted %+v, %d", s, other, got, e, described, parseError)
		}
		if got, e := pictures.Expand(other); got != expanded || e != api.OK {
			t.Errorf("%.300q, %.300q: %.300q, %d, wanted %.300q", s, other, got, e, expanded)
		}
		if got, e := pictures.Short(other); got != short || e != api.OK {
			t.Errorf("%.300q, %.300q: %.300q, %d, wanted %.300q", s, other, got, e, short)
		}
	}
	if !strings.Contains(s, "(0") && len(short) > len(s) || strings.ContainsAny(expanded, "()") || expanded == "" || len(expanded) > api.MaxPicture {
		t.Errorf("%.300q: %.300q, %.300q", s, expanded, short)
	}
	if parseError == api.OK {
		size, e := pictures.Size(described)
		if pictures.Check(described) != api.OK || size != described.Size || e != api.OK || described.Picture != expanded || described.Digits > api.MaxDigits {
			t.Errorf("%.300q: %+v, Check %d, Size %d, %d", s, described, pictures.Check(described), size, e)
		}
	}
}

func TestConsequencesOfAnyTexts(t *testing.T) {
	r := rand.New(rand.NewSource(2))
	for range 30000 {
		checkConsequences(t, randomPicture(r))
		bytes := make([]byte, r.Intn(12))
		for i := range bytes {
			bytes[i] = byte(r.Intn(256))
		}
		checkConsequences(t, string(bytes))
		checkConsequences(t, "9"+string(bytes)+")")
	}
	for _, s := range texts("9ZX(21)", 5) {
		checkConsequences(t, s)
	}
}

// repeated writes so many symbols, one by one or with numbers.
func repeated(r *rand.Rand, symbol string, times int) string {
	s := ""
	for times > 0 {
		n := 1 + r.Intn(times)
		times -= n
		switch r.Intn(3) {
		case 0:
			s += strings.Repeat(symbol, n)
		case 1:
			s += symbol + "(" + strconv.Itoa(n) + ")"
		default:
			s += strings.Repeat(symbol, n-1) + symbol + strings.Repeat("(1)", 1-r.Intn(2))
		}
	}
	return s
}

// inserted returns a picture with insertion symbols at any places, but within a tail.
func inserted(r *rand.Rand, s string) string {
	tail := ""
	for _, end := range []string{"CR", "DB"} {
		if front, is := strings.CutSuffix(s, end); is {
			s, tail = front, end
		}
	}
	for range r.Intn(6) {
		at := r.Intn(len(s) + 1)
		symbols := "B0/,"
		if at == 0 || at == len(s) && tail == "" {
			symbols = "B0/"
		}
		s = s[:at] + symbols[r.Intn(len(symbols)):][:1] + s[at:]
	}
	return s + tail
}

// written writes an expanded picture with numbers at any places.
func written(r *rand.Rand, s string) string {
	text := ""
	for s != "" {
		n := len(s) - len(strings.TrimLeft(s, s[:1]))
		text += repeated(r, s[:1], n)
		s = s[n:]
	}
	return text
}

// composed composes an edited picture of parts, and says what it is; there are no insertion symbols.
func composed(r *rand.Rand) (string, edited) {
	part := func(list ...string) string { return list[r.Intn(len(list))] }
	some := func(symbol string, least int) string { return strings.Repeat(symbol, least+r.Intn(5)) }
	s, e := part("", "", "+", "-"), edited{}
	e.signed = s != ""
	currency := part("", "$")
	symbol := part("9", "Z", "*", "", "$", "+", "-")
	front := ""
	switch {
	case symbol == "$" && currency == "", symbol == "+" && !e.signed, symbol == "-" && !e.signed:
		front = some(symbol, 2)
		e.digits, e.signed = len(front)-1, e.signed || symbol != "$"
	case symbol == "" || strings.Contains("$+-", symbol):
		symbol, e.digits = "", 0
	default:
		front = some(symbol, 1)
		e.digits = len(front)
	}
	nines := part("", some("9", 0))
	e.digits += len(nines)
	kinds := []string{"9", symbol}
	if nines != "" {
		kinds = []string{"9"}
	} else if symbol == "" {
		kinds = []string{"9", "Z", "*"}
	}
	point := part("", "V", ".")
	fraction := ""
	if point != "" || e.digits == 0 {
		point = part("V", ".")
		fraction = some(part(kinds...), 1)
	}
	e.digits, e.scale = e.digits+len(fraction), len(fraction)
	tail := ""
	if !e.signed {
		tail = part("", "+", "-", "CR", "DB")
		e.signed = tail != ""
	}
	return s + currency + front + nines + point + fraction + tail, e
}

func TestComposedPictures(t *testing.T) {
	r := rand.New(rand.NewSource(3))
	for range 60000 {
		s, want := composed(r)
		if strings.Trim(s, "9SV") == "" {
			continue // it is a number that is not edited
		}
		s = inserted(r, s)
		text := written(r, s)
		checkConsequences(t, text)
		got, e := pictures.Parse(text)
		described := api.Shape{Category: api.Edited, Picture: s, Digits: want.digits, Scale: want.scale, Signed: want.signed, Size: len(strings.ReplaceAll(s, "V", ""))}
		if e != api.OK || got != described {
			t.Errorf("%q: %+v, %d, wanted %+v", text, got, e, described)
		}
	}
}

func TestComposedNumbers(t *testing.T) {
	r := rand.New(rand.NewSource(4))
	for front := range api.MaxDigits + 2 {
		for behind := range api.MaxDigits + 2 {
			nines, scaled := strings.Repeat("9", front), strings.Repeat("P", behind)
			for s, scale := range map[string]int{nines + "V" + strings.Repeat("9", behind): behind, nines + scaled: -behind, nines + scaled + "V": -behind, scaled + nines: front + behind, "V" + scaled + nines: front + behind} {
				if front == 0 || behind == 0 {
					continue
				}
				text := written(r, s)
				checkConsequences(t, text)
				checkConsequences(t, "S"+text)
				if front+behind > api.MaxDigits {
					checkNoShape(t, api.ErrLimit, text)
					continue
				}
				checkNumber(t, text, strings.Count(s, "9"), scale)
			}
		}
	}
}

// P1 and R1

// Check and Size return at once for any shape, and agree with each other.
func TestAnyShapes(t *testing.T) {
	r := rand.New(rand.NewSource(5))
	for range 60000 {
		s, _ := pictures.Parse(randomPicture(r))
		for range r.Intn(3) {
			switch r.Intn(9) {
			case 0:
				s.Category = api.Category(r.Intn(8))
			case 1:
				s.Usage = api.Usage(r.Intn(4))
			case 2:
				s.Digits = r.Intn(22) - 1
			case 3:
				s.Signed, s.Separate = r.Intn(2) == 0, r.Intn(2) == 0
			case 4:
				s.Leading = !s.Leading
			case 5:
				s.Just, s.Blank = r.Intn(2) == 0, r.Intn(2) == 0
			case 6:
				s.Size = int(r.Uint64())
			case 7:
				s.Scale = int(r.Uint64())
			case 8:
				s.Picture = randomPicture(r)
			}
		}
		size, e := pictures.Size(s)
		checked := pictures.Check(s)
		if e != api.OK && (checked != e || size != 0) || checked == api.OK && size != s.Size {
			t.Errorf("%+v: %d, %d, Check %d", s, size, e, checked)
		}
		if want := modelCheck(s); checked != want {
			t.Errorf("%+v: Check %d, wanted %d", s, checked, want)
		}
	}
}

// modelCheck returns the first error of a list of all that apply.
func modelCheck(s api.Shape) api.Errno {
	size, sizeError := pictures.Size(s)
	described, parseError := pictures.Parse(s.Picture)
	group, number, text := s.Category == api.Group, s.Category == api.Numeric, s.Category == api.Alphabetic || s.Category == api.Alphanumeric
	zoned := number && s.Signed && s.Usage == api.Display
	same := api.Shape{Category: s.Category, Picture: described.Picture, Digits: s.Digits, Scale: s.Scale, Signed: s.Signed, Size: described.Size}
	for _, fault := range []struct {
		is bool
		e  api.Errno
	}{
		{sizeError != api.OK, sizeError},
		{group && s != (api.Shape{Size: size}), api.ErrArg},
		{!group && parseError != api.OK, parseError},
		{!group && strings.Contains(s.Picture, "("), api.ErrForm},
		{!group && same != described, api.ErrArg},
		{s.Usage > api.Display && !number, api.ErrKind},
		{s.Leading && !zoned, api.ErrKind},
		{s.Separate && !zoned, api.ErrKind},
		{s.Just && !text, api.ErrKind},
		{s.Blank && s.Category != api.Edited, api.ErrKind},
		{s.Size != size, api.ErrWidth},
	} {
		if fault.is {
			return fault.e
		}
	}
	return api.OK
}
