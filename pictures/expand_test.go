package pictures_test

import (
	"math/rand"
	"regexp"
	"strconv"
	"strings"
	"testing"

	"columnseven/api"
	"columnseven/pictures"
)

// symbols are all symbols of pictures.
const symbols = "AX9SVPZ*+-.,$B0/CRD"

// checkExpanded fails unless a picture is expanded and shortened as wanted.
func checkExpanded(t *testing.T, s, expanded, short string) {
	t.Helper()
	if got, e := pictures.Expand(s); got != expanded || e != api.OK {
		t.Errorf("Expand(%.300q): %.300q, %d, wanted %.300q", s, got, e, expanded)
	}
	if got, e := pictures.Short(s); got != short || e != api.OK {
		t.Errorf("Short(%.300q): %.300q, %d, wanted %.300q", s, got, e, short)
	}
}

// checkNoPicture fails unless the functions return an error for texts, and nothing else.
func checkNoPicture(t *testing.T, want api.Errno, texts ...string) {
	t.Helper()
	for _, s := range texts {
		if got, e := pictures.Expand(s); got != "" || e != want {
			t.Errorf("Expand(%.300q): %.300q, %d, wanted %d", s, got, e, want)
		}
		if got, e := pictures.Short(s); got != "" || e != want {
			t.Errorf("Short(%.300q): %.300q, %d, wanted %d", s, got, e, want)
		}
		if got, e := pictures.Parse(s); got != (api.Shape{}) || e != want {
			t.Errorf("Parse(%.300q): %+v, %d, wanted %d", s, got, e, want)
		}
	}
}

// P6.1

func TestEverySymbol(t *testing.T) {
	for _, symbol := range strings.Split(symbols, "") {
		checkExpanded(t, symbol, symbol, symbol)
		checkExpanded(t, symbol+symbol, symbol+symbol, symbol+symbol)
		checkExpanded(t, symbol+"(1)", symbol, symbol)
		checkExpanded(t, symbol+"(3)", symbol+symbol+symbol, symbol+symbol+symbol)
		checkExpanded(t, symbol+"(7)", strings.Repeat(symbol, 7), symbol+"(7)")
		checkExpanded(t, "A"+symbol+"(2)9", "A"+symbol+symbol+"9", "A"+symbol+symbol+"9")
	}
	checkExpanded(t, symbols, symbols, symbols)
	checkExpanded(t, "DR(2)C/0B$,.-+*ZP(1)VS9XA", "DRRC/0B$,.-+*ZPVS9XA", "DRRC/0B$,.-+*ZPVS9XA")
}

func TestNumbersBehindSymbols(t *testing.T) {
	for number, times := range map[string]int{"1": 1, "9": 9, "01": 1, "10": 10, "12": 12, "001": 1, "0001": 1, "00001": 1, "00010": 10, "099": 99, "100": 100, "0123": 123, "00256": 256, "256": 256} {
		expanded := strings.Repeat("X", times)
		short := expanded
		if times >= 5 {
			short = "X(" + strconv.Itoa(times) + ")"
		}
		checkExpanded(t, "X("+number+")", expanded, short)
	}
	checkExpanded(t, "9(2)X(3)Z", "99XXXZ", "99XXXZ")
	checkExpanded(t, "9(2)9(3)9", "999999", "9(6)")
	checkExpanded(t, "99(2)", "999", "999")
	checkExpanded(t, "S9(3)V9(2)", "S999V99", "S999V99")
	checkExpanded(t, "0(0002)0(3)", "00000", "0(5)")
}

func TestRunsOfSymbols(t *testing.T) {
	checkExpanded(t, "XXXXX9999", "XXXXX9999", "X(5)9999")
	checkExpanded(t, "X(4)9(5)", "XXXX99999", "XXXX9(5)")
	checkExpanded(t, "9999AAAAAZZZZ", "9999AAAAAZZZZ", "9999A(5)ZZZZ")
	checkExpanded(t, "AAAAAXXXXXX9999999999", "AAAAAXXXXXX9999999999", "A(5)X(6)9(10)")
	checkExpanded(t, "XXXX9XXXX", "XXXX9XXXX", "XXXX9XXXX")
	checkExpanded(t, "X(2)XX(2)", "XXXXX", "X(5)")
	checkExpanded(t, "ABABABABAB", "ABABABABAB", "ABABABABAB")
	checkExpanded(t, "X(99)9(100)", strings.Repeat("X", 99)+strings.Repeat("9", 100), "X(99)9(100)")
}

func TestLongPictures(t *testing.T) {
	full := strings.Repeat("X", api.MaxPicture)
	checkExpanded(t, full, full, "X(256)")
	checkExpanded(t, "X(256)", full, "X(256)")
	checkExpanded(t, "X(255)X", full, "X(256)")
	checkExpanded(t, "X(00128)X(128)", full, "X(256)")
	mixed := strings.Repeat("X9", api.MaxPicture/2)
	checkExpanded(t, mixed, mixed, mixed)
	checkExpanded(t, strings.Repeat("X(1)9", api.MaxPicture/2), mixed, mixed)
	checkNoPicture(t, api.ErrLimit, full+"X", mixed+"X", "X(257)", "X(256)X", "XX(256)", "X(256)X(1)", "X(128)9(129)", "X(99999)", "X(00257)", "9(10000)", strings.Repeat("X(1)", 257), strings.Repeat("9(99999)", 5000), strings.Repeat("X", 1<<20), "S(200)R(57)", "D(300)")
}

func TestNoPictures(t *testing.T) {
	checkNoPicture(t, api.ErrForm, "")
	checkNoPicture(t, api.ErrForm, "(", ")", "()", "(1)", "(1)X", "(X)", "((", "))")
	checkNoPicture(t, api.ErrForm, "A(", "A)", "A()", "A(1", "A1)", "A(1))", "A((1)", "A((1))", "A(1)(1)", "A(1)(", "A(1)()", "X(2)(3)", "A(2", "A(12345", "A(2X)", "A(X)", "A(1(2))", "A(1)2)", "A(2)3", "A(2)1")
	checkNoPicture(t, api.ErrForm, "X(0)", "X(00)", "X(000)", "X(0000)", "X(00000)", "9X(0)", "X(0)9", "X(2)9(0)")
	checkNoPicture(t, api.ErrForm, "X(000001)", "X(123456)", "X(000000)", "X(100000)", "X(999999)", "X(0000000000000000000001)", "X(99999999999999999999)")
	checkNoPicture(t, api.ErrForm, "X(+1)", "X(-1)", "X(+0)", "X(-0)", "X( 1)", "X(1 )", "X(1.)", "X(1,0)", "X(1_0)", "X(0x1)", "X(1e1)", "X(A)", "X(９)", "X (1)", "X( )")
	checkNoPicture(t, api.ErrForm, "X(1", "X(12", "X(123", "X(1234", "X(12345", "X(123456", "X(", "X9(", "XX(3")
}

func TestOtherBytes(t *testing.T) {
	for b := range 256 {
		s := string([]byte{byte(b)})
		if strings.Contains(symbols, s) {
			continue
		}
		checkNoPicture(t, api.ErrForm, s, "A"+s, s+"A", "9"+s+"9", s+"(2)", "X(2)"+s, s+s)
		if s < "0" || s > "9" {
			checkNoPicture(t, api.ErrForm, "X("+s+")", "X(1"+s+")", "X("+s+"1)")
		}
	}
	checkNoPicture(t, api.ErrForm, "a", "x", "s9", "9v9", "z9", "9cr", "9db", "x(3)", "Ä", "９", "9 9", " 9", "9 ", "9;", "E9", "9:9", "1", "8", "X1")
}

// A text that is no picture has ErrForm, however many symbols it has.
func TestNoPictureIsFirst(t *testing.T) {
	long := strings.Repeat("X", 300)
	checkNoPicture(t, api.ErrForm, long+"x", "x"+long, long+"(", long+"(0)", long+")", "X(99999)X(0)", "X(99999)1", "X(257)X(", "X(300)(2)", "X(0)X(99999)", strings.Repeat("9(99999)", 5000)+"?", "X(257)X(000001)", long+"9(1")
}

var (
	partForm    = regexp.MustCompile(`([AX9SVPZ*+\-.,$B0/CRD])(?:\(([0-9]{1,5})\))?`)
	pictureForm = regexp.MustCompile(`\A(?:` + partForm.String() + `)+\z`)
)

// modelExpand expands a picture in another way than the package does.
func modelExpand(s string) (string, api.Errno) {
	if !pictureForm.MatchString(s) {
		return "", api.ErrForm
	}
	total, zero := 0, false
	var parts []string
	for _, found := range partForm.FindAllStringSubmatch(s, -1) {
		times := 1
		if found[2] != "" {
			times, _ = strconv.Atoi(found[2])
		}
		zero = zero || times == 0
		total += times
		parts = append(parts, strings.Repeat(found[1], min(times, 300)))
	}
	switch {
	case zero:
		return "", api.ErrForm
	case total > 256:
		return "", api.ErrLimit
	}
	return strings.Join(parts, ""), api.OK
}

// modelShort shortens an expanded picture in another way than the package does.
func modelShort(picture string) string {
	for _, symbol := range strings.Split(symbols, "") {
		if !strings.Contains(picture, strings.Repeat(symbol, 5)) {
			continue
		}
		picture = regexp.MustCompile(regexp.QuoteMeta(symbol)+`{5,}`).ReplaceAllStringFunc(picture, func(run string) string {
			// The run is marked with letters that are no symbols, so that later replacements leave it alone.
			return symbol + "(" + strings.Map(func(r rune) rune { return r - '0' + 'e' }, strconv.Itoa(len(run))) + ")"
		})
	}
	return strings.Map(func(r rune) rune {
		if 'e' <= r && r <= 'n' {
			return r - 'e' + '0'
		}
		return r
	}, picture)
}

// randomPicture returns a text of symbols and numbers, which may be malformed.
func randomPicture(r *rand.Rand) string {
	const any = "()0123456789()aE AX9SVPZ*+-.,$B0/CRD"
	s := ""
	for range 1 + r.Intn(8) {
		symbol := symbols[r.Intn(len(symbols)):][:1]
		switch r.Intn(8) {
		case 0:
			s += strings.Repeat(symbol, r.Intn(12))
		case 1:
			s += symbol + "(" + strconv.Itoa(r.Intn(40)) + ")"
		case 2:
			s += symbol + "(0" + strconv.Itoa(r.Intn(120)) + ")"
		default:
			s += symbol
		}
	}
	if r.Intn(4) == 0 {
		at := r.Intn(len(s) + 1)
		s = s[:at] + any[r.Intn(len(any)):][:1] + s[at:]
	}
	return s
}

func TestAnyTexts(t *testing.T) {
	r := rand.New(rand.NewSource(1))
	for range 30000 {
		s := randomPicture(r)
		want, e := modelExpand(s)
		if e == api.OK {
			checkExpanded(t, s, want, modelShort(want))
			continue
		}
		checkNoPicture(t, e, s)
	}
}

// All texts of at most six of the characters that numbers tell apart.
func TestSmallTexts(t *testing.T) {
	for _, s := range texts("9B(01)", 6) {
		want, e := modelExpand(s)
		if got, gotError := pictures.Expand(s); got != want || gotError != e {
			t.Errorf("%q: %q, %d, wanted %q, %d", s, got, gotError, want, e)
		}
	}
}

// texts returns all texts of at most so many of some characters.
func texts(characters string, length int) []string {
	all := []string{""}
	for from := 0; length > 0; length-- {
		to := len(all)
		for _, text := range all[from:to] {
			for _, c := range strings.Split(characters, "") {
				all = append(all, text+c)
			}
		}
		from = to
	}
	return all
}
