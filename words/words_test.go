package words_test

import (
	"maps"
	"math/rand"
	"slices"
	"sort"
	"strings"
	"testing"

	"columnseven/words"
)

// The lists of the chapter.
const verbs = "ACCEPT ADD ALTER CALL CANCEL CLOSE COMPUTE CONTINUE DELETE DISPLAY DIVIDE EVALUATE EXIT GENERATE GO IF " +
	"INITIALIZE INITIATE INSPECT MERGE MOVE MULTIPLY OPEN PERFORM READ RELEASE RETURN REWRITE SEARCH SET SORT START " +
	"STOP STRING SUBTRACT SUPPRESS TERMINATE UNSTRING USE WRITE "

const keys = "ACCESS ADVANCING AFTER ALL ALPHABETIC ALSO ALTERNATE AND ANY ARE AREA AREAS ASCENDING ASSIGN AT AWAY-FROM-ZERO " +
	"BEFORE BINARY BLANK BLOCK BY CF CH CHARACTER CHARACTERS CLASS COLUMN COMP COMP-3 COMPUTATIONAL COMPUTATIONAL-3 " +
	"CONFIGURATION CONTAINS CONTENT CONTROL CONTROLS CONVERTING COPY CORR CORRESPONDING COUNT DATA DE DECLARATIVES " +
	"DELIMITED DELIMITER DEPENDING DESCENDING DETAIL DIVISION DOWN DUPLICATES DYNAMIC ELSE END END-ADD END-CALL " +
	"END-COMPUTE END-DELETE END-DIVIDE END-EVALUATE END-IF END-MULTIPLY END-PERFORM END-READ END-RETURN END-REWRITE " +
	"END-SEARCH END-START END-STRING END-SUBTRACT END-UNSTRING END-WRITE ENVIRONMENT EQUAL ERROR EXCEPTION EXTEND " +
	"FALSE FD FILE FILE-CONTROL FILLER FINAL FIRST FOOTING FOR FROM GIVING GREATER GROUP HEADING I-O I-O-CONTROL " +
	"IDENTIFICATION IN INDEXED INDICATE INITIAL INPUT INPUT-OUTPUT INTO INVALID IS JUST JUSTIFIED KEY LABEL LAST " +
	"LEADING LEFT LESS LIMIT LIMITS LINE LINES LINKAGE MODE NEAREST-AWAY-FROM-ZERO NEAREST-EVEN NEAREST-TOWARD-ZERO " +
	"NEGATIVE NEXT NO NOT NUMBER NUMERIC OCCURS OF OFF OMITTED ON OPTIONAL OR ORDER ORGANIZATION OTHER OUTPUT " +
	"OVERFLOW PACKED-DECIMAL PAGE PF PH PIC PICTURE PLUS POINTER POSITIVE PROCEDURE PROCEED PROGRAM PROGRAM-ID " +
	"PROHIBITED RANDOM RD RECORD RECORDS REDEFINES REFERENCE RELATIVE REMAINDER RENAMES REPLACING REPORT REPORTING " +
	"REPORTS RESET RF RH RIGHT ROUNDED RUN SCREEN SD SECTION SELECT SENTENCE SEPARATE SEQUENCE SEQUENTIAL SIGN SIZE " +
	"SOURCE STANDARD STATUS SUM TALLYING TEST THAN THEN THROUGH THRU TIMES TO TOWARD-GREATER TOWARD-LESSER TRAILING " +
	"TRUE TRUNCATION TYPE UNTIL UP UPON USAGE USING VALUE VALUES VARYING WHEN WITH WORKING-STORAGE "

// figuratives returns the figurative constants with their bytes.
func figuratives() map[string]byte {
	return map[string]byte{
		"ZERO": 48, "ZEROS": 48, "ZEROES": 48, "SPACE": 32, "SPACES": 32, "QUOTE": 34, "QUOTES": 34,
		"HIGH-VALUE": 255, "HIGH-VALUES": 255, "LOW-VALUE": 0, "LOW-VALUES": 0,
	}
}

// classes returns the reserved words with their classes.
func classes() map[string]words.Class {
	m := map[string]words.Class{}
	for _, word := range strings.Fields(keys) {
		m[word] = words.Key
	}
	for _, word := range strings.Fields(verbs) {
		m[word] = words.Verb
	}
	for word := range figuratives() {
		m[word] = words.Figurative
	}
	return m
}

// similar returns texts that differ little from a word. Some of them are reserved words themselves.
func similar(word string) []string {
	first, last := word[:1], word[len(word)-1:]
	l := []string{
		strings.ToLower(word), strings.ToLower(first) + word[1:], word[:len(word)-1] + strings.ToLower(last), strings.ToUpper(first) + strings.ToLower(word[1:]),
		word[1:], word[:len(word)-1], first, last, word + last, first + word, word + "S", word + "-", "-" + word, "A" + word, word + "1", word + word, word + "-" + word, word + ".",
		" " + word, word + " ", " " + word + " ", word + "\n", "\n" + word, "\t" + word, word + "\x00", "\x00" + word, word + "\xff", "\xff" + word, word + "\u00a0", first + " " + word[1:],
		strings.ReplaceAll(word, "-", " "), strings.ReplaceAll(word, "-", ""), strings.ReplaceAll(word, "-", "_"), strings.ReplaceAll(word, "-", "--"), strings.ReplaceAll(word, "O", "0"), word + " " + word, "=" + word, `"` + word + `"`,
	}
	for i := range len(word) {
		l = append(l, word[:i]+word[i+1:], word[:i]+"Q"+word[i+1:], word[:i]+"Q"+word[i:], word[:i]+string([]byte{word[i] ^ 0x80})+word[i+1:], word[:i]+string([]byte{word[i] + 1})+word[i+1:])
	}
	return l
}

// foreign returns texts that are no reserved words.
func foreign() []string {
	return []string{
		"", " ", "  ", "\n", "-", "--", "A", "Z", "1", "12", "TOTAL", "X-1", "TOTAL-AMOUNT", "NAME", "FIGURATIVE", "WORD", "COL", "HIGH", "LOW", "HIGH-VALUE-S", "LOW VALUE", "END-MOVE", "COMP-1", "COMP-2", "COMP-4", "NULL", "FUNCTION", "WORKING-STORAGE-SECTION",
		verbs, keys, "ADD ALTER", "GO IF", "GO\nIF", "ACCEPT ADD", "USE WRITE", "BY BYE", "\xff", "\xff\xfe", "\x00", "\u00c4", "MOV\u00c9", "\u212aEY", "\u017fPACE", "move", "Move", "zero", "Zeros", "MOVE TO", strings.Repeat("A", 31), strings.Repeat("MOVE", 5000), strings.Repeat(" ", 5000),
	}
}

// P5.1

func TestClasses(t *testing.T) {
	for want, c := range []words.Class{words.Name, words.Key, words.Verb, words.Figurative} {
		if int(c) != want {
			t.Errorf("class %d is %d", want, c)
		}
	}
}

func TestOfTheExamples(t *testing.T) {
	for s, want := range map[string]words.Class{"MOVE": words.Verb, "TO": words.Key, "SPACES": words.Figurative, "TOTAL": words.Name, "move": words.Name} {
		if got := words.Of(s); got != want {
			t.Errorf("Of(%q) is %d", s, got)
		}
	}
}

func TestOfReservedWords(t *testing.T) {
	m := classes()
	if len(m) != len(strings.Fields(keys))+len(strings.Fields(verbs))+len(figuratives()) {
		t.Fatal("a word stands in two lists")
	}
	for word, want := range m {
		if got := words.Of(word); got != want {
			t.Errorf("Of(%q) is %d, wanted %d", word, got, want)
		}
		for _, s := range similar(word) {
			if got := words.Of(s); got != m[s] {
				t.Errorf("Of(%q) is %d, wanted %d", s, got, m[s])
			}
		}
	}
}

func TestOfOtherTexts(t *testing.T) {
	for _, s := range foreign() {
		if got := words.Of(s); got != words.Name {
			t.Errorf("Of(%.100q) is %d", s, got)
		}
	}
}

func TestAll(t *testing.T) {
	want := slices.Collect(maps.Keys(classes()))
	sort.Strings(want)
	got := words.All()
	if !slices.Equal(got, want) {
		t.Errorf("%q, wanted %q", got, want)
	}
	if len(got) != 262 || got[0] != "ACCEPT" || got[261] != "ZEROS" {
		t.Errorf("%d words from %q to %q", len(got), got[0], got[len(got)-1])
	}
	// The hyphen comes before the digits, and these before the letters.
	for _, x := range [][2]string{{"COMP-3", "COMPUTATIONAL"}, {"COMPUTATIONAL", "COMPUTATIONAL-3"}, {"COMPUTATIONAL-3", "COMPUTE"}, {"END-WRITE", "ENVIRONMENT"}, {"I-O-CONTROL", "IDENTIFICATION"}, {"PROGRAM-ID", "PROHIBITED"}, {"ZEROES", "ZEROS"}} {
		if i := slices.Index(got, x[0]); i < 0 || got[i+1] != x[1] {
			t.Errorf("%q does not stand right before %q", x[0], x[1])
		}
	}
}

// P5.2

func TestByte(t *testing.T) {
	m := figuratives()
	for word, want := range m {
		if got, is := words.Byte(word); got != want || !is {
			t.Errorf("Byte(%q) is %d, %t", word, got, is)
		}
	}
	others := foreign()
	for word := range classes() {
		others = append(append(others, word), similar(word)...)
	}
	for _, s := range others {
		want, figurative := m[s]
		if got, is := words.Byte(s); got != want || is != figurative {
			t.Errorf("Byte(%.100q) is %d, %t", s, got, is)
		}
	}
}

// R1, R4

func TestAllIsNew(t *testing.T) {
	first, second := words.All(), words.All()
	if cap(first) != len(first) {
		t.Errorf("length %d, capacity %d", len(first), cap(first))
	}
	want := slices.Clone(second)
	for i := range first {
		first[i] = "CHANGED"
	}
	if !slices.Equal(second, want) || !slices.Equal(words.All(), want) {
		t.Error("a change of the list changes another one")
	}
	for _, word := range want {
		if words.Of(word) != classes()[word] {
			t.Errorf("a change of the list changes the class of %q", word)
		}
	}
	if words.Of("CHANGED") != words.Name {
		t.Error("a change of the list makes a reserved word")
	}
}

// P1

// randomText returns a text of parts of words and of any bytes.
func randomText(r *rand.Rand, all []string) string {
	var b []byte
	for range r.Intn(4) {
		word := all[r.Intn(len(all))]
		switch r.Intn(4) {
		case 0:
			b = append(b, word...)
		case 1:
			b = append(b, word[r.Intn(len(word)):]...)
		case 2:
			b = append(b, word[:r.Intn(len(word))]...)
		case 3:
			b = append(b, byte(r.Intn(256)))
		}
	}
	return string(b)
}

func TestAnyTexts(t *testing.T) {
	r := rand.New(rand.NewSource(1))
	all, m, repeated := words.All(), classes(), figuratives()
	for range 100000 {
		s := randomText(r, all)
		if got := words.Of(s); got != m[s] {
			t.Errorf("Of(%q) is %d", s, got)
		}
		want, figurative := repeated[s]
		if got, is := words.Byte(s); got != want || is != figurative {
			t.Errorf("Byte(%q) is %d, %t", s, got, is)
		}
	}
}
