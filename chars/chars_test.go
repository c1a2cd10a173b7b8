package chars

import (
	"bytes"
	"math"
	"strings"
	"testing"

	"columnseven/api"
)

// allBytes holds every byte once.
func allBytes() []byte {
	b := make([]byte, 256)
	for i := range b {
		b[i] = byte(i)
	}
	return b
}

// smallTexts returns all texts of at most three bytes on either side of the space and of the limits of signed bytes.
func smallTexts() [][]byte {
	all := [][]byte{{}}
	for from, length := 0, 0; length < 3; length++ {
		to := len(all)
		for _, text := range all[from:to] {
			for _, c := range []byte{0, 31, ' ', '!', 'a', 0x80, 0xff} {
				all = append(all, append(bytes.Clone(text), c))
			}
		}
		from = to
	}
	return all
}

// checkNew fails unless a result has the capacity of its length (R4).
func checkNew(t *testing.T, call string, result []byte) {
	t.Helper()
	if cap(result) != len(result) {
		t.Errorf("%s: length %d, capacity %d", call, len(result), cap(result))
	}
}

// P1.1

func TestIsDigits(t *testing.T) {
	for s, want := range map[string]bool{
		"": false, "0": true, "9": true, "07": true, "0123456789": true, strings.Repeat("7", 5000): true,
		"1A": false, "A1": false, "1A1": false, "1 ": false, " 1": false, "+1": false, "-1": false, "1.5": false,
		"/": false, ":": false, "\x00": false, "\xb2": false, "\u0663": false, "\uff11": false,
	} {
		if got := IsDigits(s); got != want {
			t.Errorf("IsDigits(%q) is %t", s, got)
		}
	}
	for _, c := range allBytes() {
		want := strings.IndexByte("0123456789", c) >= 0
		if got := IsDigits(string([]byte{c})); got != want {
			t.Errorf("IsDigits of the byte %d is %t", c, got)
		}
	}
}

func TestIsName(t *testing.T) {
	for s, want := range map[string]bool{
		"": false, "A": true, "Z": true, "A-1": true, "1A": true, "1-A": true, "A--B": true, "9Z9": true, "0-A-0": true,
		"12": false, "1-2": false, "1": false, "-": false, "--": false, "A-": false, "-A": false, "-A-": false,
		"a": false, "Ab": false, "A B": false, " A": false, "A ": false, "A_B": false, "A.B": false, "A\x00": false, "\u00c4": false, "A\xff": false,
		strings.Repeat("A", api.MaxName):                        true,
		strings.Repeat("A", api.MaxName+1):                      false,
		strings.Repeat("1", api.MaxName-1) + "A":                true,
		strings.Repeat("1", api.MaxName):                        false,
		strings.Repeat("1", api.MaxName) + "A":                  false,
		"A" + strings.Repeat("-", api.MaxName-2) + "B":          true,
		"A" + strings.Repeat("-", api.MaxName-1) + "B":          false,
		"-" + strings.Repeat("A", api.MaxName-1):                false,
		strings.Repeat("A", api.MaxName-1) + "-":                false,
		"1" + strings.Repeat("-", api.MaxName-2) + "1":          false,
		strings.Repeat("A", 14) + "a" + strings.Repeat("A", 15): false,
	} {
		if got := IsName(s); got != want {
			t.Errorf("IsName(%q) is %t", s, got)
		}
	}
}

func TestIsNameOfEachByte(t *testing.T) {
	const capitals, others = "ABCDEFGHIJKLMNOPQRSTUVWXYZ", "0123456789-"
	for _, c := range allBytes() {
		capital := strings.IndexByte(capitals, c) >= 0
		if got := IsName(string([]byte{c})); got != capital {
			t.Errorf("IsName of the byte %d is %t", c, got)
		}
		inside := capital || strings.IndexByte(others, c) >= 0
		if got := IsName(string([]byte{'A', c, 'B'})); got != inside {
			t.Errorf("IsName with the byte %d inside is %t", c, got)
		}
	}
}

func TestPrintable(t *testing.T) {
	for s, want := range map[string]bool{
		"": true, " ": true, "~": true, "Ab 1-~": true, strings.Repeat("x", 5000): true,
		"\x1f": false, "\x7f": false, "A\t": false, "\nA": false, "A\x00B": false, "\u00e4": false, "\xff": false,
	} {
		if got := Printable(s); got != want {
			t.Errorf("Printable(%q) is %t", s, got)
		}
	}
	for _, c := range allBytes() {
		want := c >= 32 && c <= 126
		for _, s := range []string{string([]byte{c}), string([]byte{c, 'A'}), string([]byte{'A', c})} {
			if got := Printable(s); got != want {
				t.Errorf("Printable(%q) is %t", s, got)
			}
		}
	}
}

// P1.2

func TestFold(t *testing.T) {
	for s, want := range map[string]string{
		"": "", "aZ-9{": "AZ-9{", "abcxyz": "ABCXYZ", "ABC": "ABC", "`a{@A[": "`A{@A[",
		"\u00e4b": "\u00e4B", "\xe4\xffc\x00": "\xe4\xffC\x00",
	} {
		if got := Fold(s); got != want {
			t.Errorf("Fold(%q) is %q", s, got)
		}
	}
	for _, c := range allBytes() {
		want := c
		if i := strings.IndexByte("abcdefghijklmnopqrstuvwxyz", c); i >= 0 {
			want = "ABCDEFGHIJKLMNOPQRSTUVWXYZ"[i]
		}
		if got := Fold(string([]byte{c})); got != string([]byte{want}) {
			t.Errorf("Fold of the byte %d is %q", c, got)
		}
	}
}

// P1.3

func TestCompare(t *testing.T) {
	for _, x := range []struct {
		a, b string
		want int
	}{
		{"", "", 0}, {"AB", "AB", 0}, {"AB", "AB ", 0}, {"", "   ", 0}, {"A", "A     ", 0},
		{"A", "B", -1}, {"A", "A!", -1}, {"B", "A~", 1}, {"A", "A\x00", 1}, {"A", "A\x1f", 1}, {"A", "A  \x1f", 1}, {"A", "A  !", -1},
		{"", "\x00", 1}, {"", "!", -1}, {"\xff", "\x7f", 1}, {"\x80", "A", 1}, {"\x00", "\xff", -1}, {" A", "A", -1},
		{"9", "A", -1}, {"A", "a", -1}, {"AB", "BA", -1}, {"ABC", "ABD", -1}, {"ABCDEF", "ABD", -1},
	} {
		if got := Compare([]byte(x.a), []byte(x.b)); got != x.want {
			t.Errorf("Compare(%q, %q) is %d", x.a, x.b, got)
		}
		if got := Compare([]byte(x.b), []byte(x.a)); got != -x.want {
			t.Errorf("Compare(%q, %q) is %d", x.b, x.a, got)
		}
	}
	if got := Compare(nil, []byte{}); got != 0 {
		t.Errorf("Compare(nil, empty) is %d", got)
	}
}

func TestCompareAsNumbers(t *testing.T) {
	for _, a := range allBytes() {
		for _, b := range allBytes() {
			want := 0
			if a < b {
				want = -1
			} else if a > b {
				want = 1
			}
			if got := Compare([]byte{'x', a}, []byte{'x', b}); got != want {
				t.Fatalf("Compare of the bytes %d and %d is %d", a, b, got)
			}
		}
	}
}

// P1.4

func TestFill(t *testing.T) {
	for _, x := range []struct {
		text string
		n    int
		want string
		e    api.Errno
	}{
		{"ab", 5, "ababa", api.OK}, {"ab", 4, "abab", api.OK}, {"ab", 2, "ab", api.OK}, {"ab", 1, "a", api.OK}, {"ab", 0, "", api.OK}, {"abc", 7, "abcabca", api.OK},
		{"x", 3, "xxx", api.OK}, {"\x00\xff", 3, "\x00\xff\x00", api.OK}, {"", 0, "", api.OK},
		{"", 1, "", api.ErrWidth}, {"", api.MaxStore, "", api.ErrWidth}, {"", api.MaxStore + 1, "", api.ErrLimit}, {"", -1, "", api.ErrArg},
		{"a", -1, "", api.ErrArg}, {"a", math.MinInt, "", api.ErrArg}, {"a", api.MaxStore + 1, "", api.ErrLimit}, {"a", math.MaxInt, "", api.ErrLimit},
	} {
		got, e := Fill([]byte(x.text), x.n)
		if string(got) != x.want || e != x.e {
			t.Errorf("Fill(%q, %d) is %q, %d", x.text, x.n, got, e)
		}
		checkNew(t, "Fill", got)
	}
	if got, e := Fill(nil, 0); len(got) != 0 || e != api.OK {
		t.Errorf("Fill(nil, 0) is %q, %d", got, e)
	}
	if got, e := Fill(nil, 1); len(got) != 0 || e != api.ErrWidth {
		t.Errorf("Fill(nil, 1) is %q, %d", got, e)
	}
	full, e := Fill([]byte("abc"), api.MaxStore)
	if e != api.OK || string(full) != strings.Repeat("abc", api.MaxStore/3)+"abc"[:api.MaxStore%3] {
		t.Errorf("Fill of MaxStore bytes: %d bytes, %d", len(full), e)
	}
	checkNew(t, "Fill of MaxStore bytes", full)
}

// P1.5

func TestFit(t *testing.T) {
	long := strings.Repeat("-", api.MaxStore) + "+"
	for _, x := range []struct {
		text string
		n    int
		left bool
		want string
		e    api.Errno
	}{
		{"abc", 5, false, "abc  ", api.OK}, {"abc", 2, false, "ab", api.OK}, {"abc", 3, false, "abc", api.OK}, {"abc", 0, false, "", api.OK}, {"", 2, false, "  ", api.OK}, {"", 0, false, "", api.OK},
		{"abc", 5, true, "  abc", api.OK}, {"abc", 2, true, "bc", api.OK}, {"abc", 3, true, "abc", api.OK}, {"abc", 0, true, "", api.OK}, {"", 2, true, "  ", api.OK}, {"", 0, true, "", api.OK},
		{" a ", 2, true, "a ", api.OK}, {" a ", 5, true, "   a ", api.OK}, {"\x00\xff", 3, false, "\x00\xff ", api.OK},
		{long, 3, false, "---", api.OK}, {long, 3, true, "--+", api.OK}, {long, api.MaxStore, true, long[1:], api.OK}, {long, api.MaxStore, false, long[:api.MaxStore], api.OK},
		{"abc", -1, false, "", api.ErrArg}, {"abc", -1, true, "", api.ErrArg}, {"", math.MinInt, true, "", api.ErrArg},
		{"abc", api.MaxStore + 1, false, "", api.ErrLimit}, {"abc", api.MaxStore + 1, true, "", api.ErrLimit}, {"", math.MaxInt, false, "", api.ErrLimit},
	} {
		got, e := Fit([]byte(x.text), x.n, x.left)
		if string(got) != x.want || e != x.e {
			t.Errorf("Fit of %d bytes to %d, %t: %d bytes, %d", len(x.text), x.n, x.left, len(got), e)
		}
		checkNew(t, "Fit", got)
	}
	for _, left := range []bool{false, true} {
		if got, e := Fit(nil, 1, left); string(got) != " " || e != api.OK {
			t.Errorf("Fit(nil, 1, %t) is %q, %d", left, got, e)
		}
	}
}

// P1.6

func TestTrim(t *testing.T) {
	for text, want := range map[string]string{
		"": "", " ": "", "   ": "", " a  ": " a", "ab": "ab", "a b ": "a b", "a": "a", "a\x00 ": "a\x00", "a\t ": "a\t", " \n": " \n", "a\xa0 ": "a\xa0", "  b": "  b",
	} {
		got := Trim([]byte(text))
		if string(got) != want {
			t.Errorf("Trim(%q) is %q", text, got)
		}
		checkNew(t, "Trim", got)
	}
	if got := Trim(nil); len(got) != 0 {
		t.Errorf("Trim(nil) is %q", got)
	}
}

// P1.7

func TestCompareIsTheOrderOfFittedTexts(t *testing.T) {
	texts := smallTexts()
	for _, a := range texts {
		for _, b := range texts {
			for _, n := range []int{max(len(a), len(b)), max(len(a), len(b)) + 2} {
				fa, ea := Fit(a, n, false)
				fb, eb := Fit(b, n, false)
				if ea != api.OK || eb != api.OK {
					t.Fatalf("Fit: %d, %d", ea, eb)
				}
				if got, want := Compare(a, b), bytes.Compare(fa, fb); got != want {
					t.Fatalf("Compare(%q, %q) is %d, but the order is %d", a, b, got, want)
				}
			}
			if Compare(b, a) != -Compare(a, b) {
				t.Fatalf("Compare(%q, %q) and its reverse", a, b)
			}
			if equal := string(Trim(a)) == string(Trim(b)); equal != (Compare(a, b) == 0) {
				t.Fatalf("Compare(%q, %q) and Trim", a, b)
			}
		}
	}
}

func TestCompareIsTransitive(t *testing.T) {
	var texts [][]byte
	for _, text := range smallTexts() {
		if len(text) < 3 {
			texts = append(texts, text)
		}
	}
	for _, a := range texts {
		for _, b := range texts {
			if Compare(a, b) > 0 {
				continue
			}
			for _, c := range texts {
				if Compare(b, c) > 0 {
					continue
				}
				want := min(Compare(a, b), Compare(b, c))
				if got := Compare(a, c); got != want {
					t.Fatalf("%q, %q, %q: %d", a, b, c, got)
				}
			}
		}
	}
}

func TestFoldAgain(t *testing.T) {
	for _, s := range []string{"", "aZ-9{", "ABC", "\xe4\x00z", string(allBytes())} {
		if once := Fold(s); Fold(once) != once {
			t.Errorf("Fold of %q is not Fold of it again", s)
		}
	}
	for _, s := range []string{"A", "A-1", "1A", "A--B", strings.Repeat("A", api.MaxName)} {
		if folded := Fold(s); folded != s || !IsName(folded) {
			t.Errorf("Fold of the name %q is %q", s, folded)
		}
	}
}

func TestFitOfTrimmed(t *testing.T) {
	for _, text := range smallTexts() {
		if got, e := Fit(Trim(text), len(text), false); !bytes.Equal(got, text) || e != api.OK {
			t.Fatalf("Fit of the trimmed %q is %q, %d", text, got, e)
		}
	}
}

// R1 and R4

func TestArgumentsAreKeptAndResultsAreNew(t *testing.T) {
	const text = "ab  "
	calls := map[string]func(b []byte) []byte{
		"Trim":          Trim,
		"Compare":       func(b []byte) []byte { Compare(b, b[:2]); return nil },
		"Fill less":     func(b []byte) []byte { r, _ := Fill(b, 3); return r },
		"Fill the same": func(b []byte) []byte { r, _ := Fill(b, 4); return r },
		"Fill more":     func(b []byte) []byte { r, _ := Fill(b, 9); return r },
		"Fit less":      func(b []byte) []byte { r, _ := Fit(b, 3, false); return r },
		"Fit the same":  func(b []byte) []byte { r, _ := Fit(b, 4, false); return r },
		"Fit more":      func(b []byte) []byte { r, _ := Fit(b, 6, false); return r },
		"left less":     func(b []byte) []byte { r, _ := Fit(b, 3, true); return r },
		"left the same": func(b []byte) []byte { r, _ := Fit(b, 4, true); return r },
		"left more":     func(b []byte) []byte { r, _ := Fit(b, 6, true); return r },
	}
	for name, call := range calls {
		// Room behind the argument shows a result that was appended to it.
		room := append(make([]byte, 0, 16), text+"############"...)
		argument := room[:len(text)]
		first := call(argument)
		second := call(argument)
		checkNew(t, name, first)
		kept := string(second)
		for i := range first {
			first[i] = '?'
		}
		if string(room) != text+"############" {
			t.Errorf("%s: the argument is now %q", name, room)
		}
		if string(second) != kept {
			t.Errorf("%s: two results share memory", name)
		}
		for i := range argument {
			argument[i] = '!'
		}
		if string(second) != kept {
			t.Errorf("%s: the result shares memory with the argument", name)
		}
	}
	untrimmed := []byte("ab")
	if trimmed := Trim(untrimmed); &trimmed[0] == &untrimmed[0] {
		t.Error("Trim: a text without spaces at its end is not copied")
	}
}
