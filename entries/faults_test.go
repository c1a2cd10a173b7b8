package entries_test

import (
	"slices"
	"strings"
	"testing"

	"columnseven/api"
	"columnseven/words"
)

// P7.1: faults

// whole returns entries that have every word that may be missing, and some that have none.
func whole() []string {
	return []string{
		"05 A REDEFINES B PICTURE IS S9(3) USAGE IS DISPLAY SIGN IS LEADING SEPARATE CHARACTER OCCURS 1 TO 9 TIMES DEPENDING ON N OF M IN R .",
		"05 FILLER SIGN IS TRAILING SEPARATE CHARACTER PIC S9 USAGE IS DISPLAY VALUE IS -7 .",
		"49 A PIC X JUSTIFIED RIGHT VALUES ARE ALL \"A\" .",
		"01 PIC Z9 BLANK WHEN ZERO VALUE SPACES DISPLAY .",
		"77 N USAGE IS COMP PIC 9 .",
		"77 N USAGE PACKED-DECIMAL PIC 9 REDEFINES B .",
		"02 T OCCURS 3 DEPENDING N .",
		"01 .",
		"88 YES VALUES ARE 1 THRU 2 \"A\" ALL \"B\" THROUGH ALL \"C\" ZERO .",
		"66 A RENAMES B OF C THRU D IN E OF F .",
		"66 RENAMES B .",
	}
}

func TestWholeEntries(t *testing.T) {
	for _, text := range whole() {
		l := lines(text)
		if list, fault := parse(l); len(list) != 1 || fault != (api.Fault{}) {
			t.Errorf("%s: %v, %v", text, list, fault)
		}
	}
}

// The tokens may end in each place before the Period.
func TestEnds(t *testing.T) {
	for _, text := range whole() {
		l := lines("01 R .", "05 Q PIC X .", text)
		start := slices.IndexFunc(l, func(x api.Token) bool { return x.At.Line == 3 })
		for end := start + 1; end < len(l); end++ {
			at := api.Pos{Line: 3, Column: 12}
			checkFault(t, l[start:end], api.ErrForm, at)
			checkFault(t, l[:end], api.ErrForm, at)
		}
	}
}

// misfits returns tokens that fit nowhere.
func misfits() []api.Token {
	l := []api.Token{
		{Kind: api.Word}, {Kind: api.Picture}, {Kind: api.Pseudo, Text: "=="}, {Kind: 0, Text: "A"}, {Kind: 8, Text: "."}, {Kind: 255, Text: "9"}, {}, {Kind: api.Sign}, {Kind: api.Sign, Text: "A"}, {Kind: api.Pseudo, Text: "PIC"}, {Kind: 0, Text: "PIC"}, {Kind: 0, Text: "."}, {Kind: 9, Text: "05"},
		{Kind: api.Word, Text: "MOVE"}, {Kind: api.Word, Text: "COPY"}, {Kind: api.Word, Text: "AND"},
	}
	for _, text := range strings.Fields("( ) : = < > + - * / ** <= >= <>") {
		l = append(l, api.Token{Kind: api.Sign, Text: text})
	}
	return l
}

func TestTokensThatFitNowhere(t *testing.T) {
	for _, text := range whole() {
		l := lines(text)
		for i := range l {
			for _, misfit := range misfits() {
				misfit.At = api.Pos{Line: 7, Column: 77}
				want := api.ErrForm
				if isReserved(misfit) && i > 0 && needsName(l[i-1], l[i]) {
					want = api.ErrWord
				}
				checkFault(t, slices.Concat(l[:i], []api.Token{misfit}, l[i:]), want, misfit.At)
				checkFault(t, slices.Concat(l[:i], []api.Token{misfit}), want, misfit.At)
				checkFault(t, slices.Concat(l[:i], []api.Token{misfit}, l[i+1:]), want, misfit.At)
				checkFault(t, slices.Concat(l, l[:i], []api.Token{misfit}), want, misfit.At)
			}
		}
		for _, misfit := range misfits() {
			misfit.At = api.Pos{Line: 7, Column: 77}
			checkFault(t, slices.Concat(l, []api.Token{misfit}), api.ErrForm, misfit.At)
			checkFault(t, []api.Token{misfit}, api.ErrForm, misfit.At)
		}
	}
}

func isReserved(x api.Token) bool { return x.Kind == api.Word && isReservedText(x.Text) }

// needsName reports whether a name is required between two tokens of an entry, or in place of the second one.
func needsName(before, x api.Token) bool {
	if before.Kind != api.Word {
		return false
	}
	name := slices.Contains(strings.Fields("REDEFINES DEPENDING ON OF IN RENAMES"), before.Text)
	return name || slices.Contains(strings.Fields("THRU THROUGH"), before.Text) && x.Kind == api.Word && !isReserved(x)
}

// Tokens of another kind are others, whatever their texts are.
func TestKindsOfTokens(t *testing.T) {
	for _, text := range whole() {
		l := lines(text)
		for i, x := range l {
			for _, kind := range []api.Kind{0, api.Sign, api.Pseudo, 8, 255} {
				other := slices.Clone(l)
				other[i].Kind = kind
				checkFault(t, other, api.ErrForm, x.At)
				checkFault(t, other[:i+1], api.ErrForm, x.At)
			}
		}
	}
	// The tokens that are numbered here do not fit as a Quote, a Picture or a Number.
	for text, places := range map[string][]int{
		"05 A REDEFINES B PIC X USAGE IS DISPLAY SIGN IS LEADING SEPARATE CHARACTER .": {1, 2, 3, 4, 6, 7, 8, 9, 10, 11, 12, 13},
		"05 A OCCURS 1 TO 9 TIMES DEPENDING ON N OF M JUST RIGHT BLANK WHEN ZERO .":    {1, 2, 4, 6, 7, 8, 9, 10, 11, 12, 13, 14, 15, 16},
		"66 A RENAMES B OF C THRU D IN E .":                                            {1, 2, 3, 4, 5, 6, 7, 8, 9},
		"05 A VALUE ZERO .":                                                            {1, 2},
		"88 A VALUE 1 VALUE 1 .":                                                       {1, 2},
	} {
		l := lines(text)
		for _, at := range places {
			for _, kind := range []api.Kind{api.Quote, api.Picture, api.Number} {
				other := slices.Clone(l)
				other[at].Kind = kind
				checkFault(t, other, api.ErrForm, l[at].At)
			}
		}
	}
}

func TestMisfits(t *testing.T) {
	checkFaults(t, api.ErrForm,
		"~A .", "~. 05 A .", "~FILLER .", `~"05" A .`, "~( 05 A .", "05 ~05 .", `05 ~"A" .`, "05 ~( .", "05 ~MOVE .", "05 A ~B .", "05 A ~FILLER .", "05 FILLER ~FILLER .", "05 FILLER ~A .", "05 A ~7 .", "05 A ~MOVE .", `05 A ~"B" .`, "05 A ~IS .", "05 A ~OF B .", "05 A ~ZERO .", "05 A ~ALL .", "05 A ~THRU .", "05 A . ~B .", "05 A . ~. 05 B .", "05 A . ~FILLER .",
		"05 A REDEFINES ~.", "05 A REDEFINES ~7 .", `05 A REDEFINES ~"B" .`, "05 A REDEFINES B ~C .", "05 A REDEFINES B ~OF C .", "05 A REDEFINES B ~THRU C .",
		"05 A PIC X ~IS .", "05 A PIC X ~X .", "05 A PIC IS X ~9 .", "05 A ~IS PIC X .",
		"05 A USAGE ~.", "05 A USAGE IS ~.", "05 A USAGE ~7 .", "05 A USAGE IS ~IS COMP .", "05 A USAGE ~PIC X .", "05 A USAGE ~B .", "05 A USAGE ~USAGE COMP .", "05 A ~IS COMP .", "05 A COMP ~IS .", "05 A USAGE IS ~LEADING .", "05 A USAGE ~FILLER .",
		"05 A SIGN ~.", "05 A SIGN IS ~.", "05 A SIGN IS ~SEPARATE .", "05 A ~SEPARATE .", "05 A SIGN ~COMP .", "05 A LEADING ~CHARACTER .", "05 A LEADING SEPARATE CHARACTER ~CHARACTER .", "05 A LEADING SEPARATE ~SEPARATE .", "05 A ~CHARACTER .", "05 A SIGN ~SIGN LEADING .", "05 A SIGN IS ~IS LEADING .",
		"05 A OCCURS ~.", "05 A OCCURS ~N .", "05 A OCCURS ~TIMES .", "05 A OCCURS ~ZERO .", `05 A OCCURS ~"3" .`, "05 A OCCURS ~000001 .", "05 A OCCURS ~100000 .", "05 A OCCURS ~+3 .", "05 A OCCURS ~-3 .", "05 A OCCURS ~3.0 .", "05 A OCCURS ~.3 .", "05 A OCCURS ~TO 3 .", "05 A OCCURS ~DEPENDING N .", "05 A OCCURS 1 ~3 .", "05 A OCCURS 1 TO ~.", "05 A OCCURS 1 TO ~N .", "05 A OCCURS 1 TO ~TIMES .", "05 A OCCURS 1 TO ~000001 .", "05 A OCCURS 1 TO ~+9 .", "05 A OCCURS 1 TO 2 ~TO 3 .", "05 A OCCURS 3 TIMES ~TIMES .", "05 A OCCURS 3 TIMES ~TO 4 .", "05 A OCCURS 3 ~ON N .", "05 A ~TIMES .", "05 A ~DEPENDING ON N .", "05 A ~TO 3 .",
		"05 A OCCURS 3 DEPENDING ~.", "05 A OCCURS 3 DEPENDING ON ~.", "05 A OCCURS 3 DEPENDING ON ~7 .", "05 A OCCURS 3 DEPENDING ON N ~N .", "05 A OCCURS 3 DEPENDING ON N OF ~.", "05 A OCCURS 3 DEPENDING ON N IN ~7 .", "05 A OCCURS 3 DEPENDING ON N OF M OF ~.", "05 A OCCURS 3 DEPENDING ON N ~TIMES .", "05 A OCCURS 3 DEPENDING ON N ~THRU M .", "05 A OCCURS 3 DEPENDING ON N OF M ~M .",
		"05 A JUST ~LEFT .", "05 A JUST RIGHT ~RIGHT .", "05 A ~RIGHT .", "05 A JUST ~WHEN .", "05 A BLANK ~.", "05 A BLANK WHEN ~.", "05 A BLANK WHEN ~WHEN ZERO .", "05 A BLANK ~0 .", "05 A BLANK ~SPACE .", "05 A BLANK WHEN ~SPACES .", "05 A BLANK ~IS ZERO .", "05 A BLANK ~A .", `05 A BLANK ~"ZERO" .`, "05 A BLANK ZERO ~ZERO .", "05 A ~WHEN ZERO .", "05 A BLANK ~ALL .", "05 A BLANK ~HIGH-VALUE .",
		"05 A VALUE ~.", "05 A VALUE IS ~.", "05 A VALUE IS ~ARE 1 .", "05 A VALUE ~B .", "05 A VALUE ~MOVE .", "05 A VALUE ~FILLER .", "05 A VALUE ~THRU 1 .", "05 A VALUE ~( .", "05 A VALUE ALL ~.", "05 A VALUE ALL ~1 .", "05 A VALUE ALL ~ZERO .", `05 A VALUE ALL ~ALL "A" .`, "05 A VALUE ALL ~B .", "05 A VALUE 1 ~2 .", `05 A VALUE "A" ~"B" .`, `05 A VALUE 1 ~THRU 2 .`, `05 A VALUE 1 ~THROUGH 2 .`, `05 A VALUE "A" ~ALL "B" .`, `05 A VALUE ALL "A" ~"B" .`, "05 A VALUE ZERO ~ZERO .", "77 A VALUE 1 ~2 .", "66 A VALUE 1 ~2 .", "01 A VALUE 1 ~THRU 2 .",
		"88 A VALUE ~.", "88 A VALUE ARE ~.", "88 A VALUE ~THRU 1 .", "88 A VALUE 1 THRU ~.", "88 A VALUE 1 THROUGH ~.", "88 A VALUE 1 THRU ~THRU 2 .", "88 A VALUE 1 THRU 2 ~THRU 3 .", "88 A VALUE 1 THRU 2 ~THROUGH 3 .", "88 A VALUE 1 2 THRU 3 ~THRU 4 .", "88 A VALUE 1 THRU ~B .", "88 A VALUE 1 THRU ALL ~.", "88 A VALUE 1 THRU ALL ~1 .", "88 A VALUE ALL ~THRU .", "88 A VALUE 1 ALL ~.", "88 A VALUE 1 2 ~B .", "88 A VALUE 1 ~MOVE .", "88 A VALUE 1 ~IS .", "88 A VALUE 1 2 ALL ~2 .", "88 A VALUE 1 ~TO 2 .", "88 A VALUE 1 THRU 2 ~OF .",
		"66 A RENAMES ~.", "66 A RENAMES ~7 .", `66 A RENAMES ~"B" .`, "66 A RENAMES B ~C .", "66 A RENAMES B OF ~.", "66 A RENAMES B THRU ~.", "66 A RENAMES B THRU ~7 .", "66 A RENAMES B THRU C ~THRU D .", "66 A RENAMES B THRU C ~D .", "66 A RENAMES B THRU C OF ~.", "66 A RENAMES B ~TO C .", "66 A RENAMES B OF C ~C .", "66 A ~THRU C .")
}

// A name is required there, and there is a reserved word.
func TestReservedWords(t *testing.T) {
	for _, before := range []string{
		"05 A REDEFINES", "05 A OCCURS 3 DEPENDING", "05 A OCCURS 3 DEPENDING ON", "05 A OCCURS 3 DEPENDING ON N OF", "05 A OCCURS 3 DEPENDING ON N IN", "05 A OCCURS 3 DEPENDING ON N OF M IN",
		"66 A RENAMES", "66 A RENAMES B OF", "66 A RENAMES B IN", "66 A RENAMES B OF C OF", "66 A RENAMES B THRU", "66 A RENAMES B THROUGH", "66 A RENAMES B OF C THRU", "66 A RENAMES B THRU C OF", "66 A RENAMES B THRU C IN D OF",
	} {
		l := lines(before)
		for _, word := range words.All() {
			if strings.HasSuffix(before, "DEPENDING") && word == "ON" {
				continue
			}
			at := api.Pos{Line: 8, Column: 9}
			l := append(slices.Clip(l), api.Token{Kind: api.Word, Text: word, At: at})
			checkFault(t, l, api.ErrWord, at)
			checkFault(t, append(l, api.Token{Kind: api.Period}), api.ErrWord, at)
		}
	}
	checkFaults(t, api.ErrWord, "05 A REDEFINES ~FILLER .", "05 A REDEFINES ~REDEFINES B .", "05 A OCCURS 1 TO 2 DEPENDING ON ~ON .", "66 A RENAMES B THRU ~THRU C .", "66 A RENAMES B OF ~OF C .", "66 RENAMES ~RENAMES .", "05 A REDEFINES ~MOVE PIC X PIC X .", "05 A PIC X REDEFINES ~TO")
}

// The entry has the clause already.
func TestClausesTwice(t *testing.T) {
	clauses := [][]string{
		{"REDEFINES B", "REDEFINES C"},
		{"PIC X", "PICTURE 9", "PIC IS Z9"},
		{"DISPLAY", "USAGE DISPLAY", "USAGE IS COMP", "COMP-3", "COMPUTATIONAL-3", "PACKED-DECIMAL", "COMP", "COMPUTATIONAL", "BINARY", "USAGE BINARY"},
		{"SIGN LEADING", "SIGN IS TRAILING SEPARATE", "LEADING", "TRAILING", "LEADING SEPARATE CHARACTER"},
		{"OCCURS 0", "OCCURS 3 TIMES", "OCCURS 1 TO 3 DEPENDING ON N"},
		{"JUST", "JUSTIFIED RIGHT", "JUSTIFIED"},
		{"BLANK ZERO", "BLANK WHEN ZEROES"},
		{"VALUE 1", `VALUES ARE ALL "A"`, "VALUES ZERO"},
		{"RENAMES B", "RENAMES B OF C THRU D"},
	}
	for i, list := range clauses {
		for _, level := range []string{"05", "88", "66", "77"} {
			for _, one := range list {
				for _, other := range list {
					between := ""
					if i != 6 {
						between = "BLANK WHEN ZERO "
					}
					if i != 8 {
						between += "RENAMES X OF Y"
					}
					checkFaults(t, api.ErrThere, level+" A "+one+" ~"+other+" .", level+" "+one+" ~"+other, level+" A "+one+" "+between+" ~"+other+" MOVE", level+" A "+between+" "+one+" ~"+other+" "+one+" .")
				}
			}
		}
	}
	// The first word of the clause is enough.
	checkFaults(t, api.ErrThere, "05 A PIC X ~PIC", "05 A PIC X ~PICTURE", "05 A COMP ~USAGE .", "05 A USAGE IS COMP ~USAGE IS .", "05 A LEADING ~SIGN MOVE", "05 A SIGN LEADING ~TRAILING", "05 A OCCURS 2 ~OCCURS .", "05 A REDEFINES B ~REDEFINES .", "05 A JUST ~JUST", "05 A BLANK ZERO ~BLANK .", "05 A VALUE 1 ~VALUE .", "88 A VALUES 1 2 ~VALUES 3 .", "66 A RENAMES B ~RENAMES .", "66 A RENAMES B THRU C ~RENAMES D .", "05 A COMP ~COMP", "05 A DISPLAY ~COMP", "05 A COMP-3 PIC 9 ~BINARY .")
	// Another entry may have it again.
	checkParsedTexts(t, "05 A PIC X JUST VALUE \"A\" DISPLAY .", "05 B PIC X JUST VALUE \"A\" DISPLAY .", "05 C OCCURS 2 REDEFINES A .", "05 D OCCURS 2 REDEFINES B .")
}

// The error of Check is at the level, wherever the entry ends.
func TestErrorsOfCheck(t *testing.T) {
	checkFaults(t, api.ErrKind, "~05 A PIC X VALUE 1 .", "~66 A .", "~88 A .", "~88 VALUE 1 .", "~88 FILLER VALUE 1 .", "~88 A PIC X VALUE 1 .", "~66 A RENAMES B PIC X .", "~05 A RENAMES B .", "~01 A OCCURS 2 .", "~77 A PIC X OCCURS 2 .", "~05 A COMP .", "~05 A LEADING .", "~05 A PIC X COMP .", "~05 A PIC 9 LEADING .", "~05 A PIC S9 COMP LEADING .", "~05 A PIC 9 JUST .", "~05 A PIC 9 BLANK ZERO .", "~05 A REDEFINES B PIC X VALUE \"A\" .", "~05 A VALUE 1 .", "~05 A PIC 9 VALUE SPACE .", "05 B . ~05 A COMP . 05 C .", "05 B . 01 B . ~66 C .", "~66 C . 50 D .", "~88 C . MOVE")
	checkFaults(t, api.ErrForm, "~05 A PIC Q .", "~05 A PIC X( .", "~01 PIC 9Z .", "~05 A PIC ZX JUST BLANK ZERO .")
	checkFaults(t, api.ErrLimit, "~05 A PIC X(257) .", "~05 A PIC 9(19) VALUE \"A\" .")
	checkFaults(t, api.ErrWidth, `~05 A PIC X VALUE "`+strings.Repeat("A", 257)+`" .`, `~88 A VALUE 1 THRU ALL "`+strings.Repeat("A", 257)+`" .`)
	checkFaults(t, api.ErrArg, "~05 A OCCURS 4097 .", "~05 A OCCURS 99999 .", "~05 A OCCURS 1 TO 3 .", "~05 A OCCURS 3 TO 3 DEPENDING ON N .", "~05 A OCCURS 4 TO 3 DEPENDING ON N .", "~05 A OCCURS 0 DEPENDING ON N .", "~05 A OCCURS 0 TO 4097 DEPENDING ON N .", "05 B . ~05 A OCCURS 4097 .")
	// Literals that no source text has.
	for text, want := range map[string]api.Errno{"": api.ErrForm, "5.": api.ErrForm, "A": api.ErrForm, "1234567890123456789": api.ErrWidth} {
		for _, before := range []string{"05 A PIC 9 VALUE", "88 A VALUE", "88 A VALUE 1 THRU", "88 A VALUE 1 THRU 2"} {
			l := lines(before)
			l = append(l, api.Token{Kind: api.Number, Text: text, At: api.Pos{Line: 5, Column: 5}}, api.Token{Kind: api.Period})
			checkFault(t, l, want, first)
		}
	}
	l := append(lines("88 A VALUE ALL"), api.Token{Kind: api.Quote, At: api.Pos{Line: 5, Column: 5}}, api.Token{Kind: api.Period})
	checkFault(t, l, api.ErrWidth, first)
	// Words and pictures that no source text has.
	for _, text := range []string{"a", "A ", " ", "A-", "-", "12", ".", "A.", strings.Repeat("A", 31)} {
		word := api.Token{Kind: api.Word, Text: text, At: api.Pos{Line: 5, Column: 5}}
		period := api.Token{Kind: api.Period}
		for _, before := range []string{"05", "05 REDEFINES", "05 OCCURS 3 DEPENDING ON", "05 OCCURS 3 DEPENDING ON N OF", "66 RENAMES", "66 RENAMES B THRU", "66 RENAMES B OF", "66 RENAMES B THRU C IN"} {
			checkFault(t, append(lines(before), word, period), api.ErrWord, first)
			checkFault(t, append(lines(before), word, word), api.ErrForm, word.At)
		}
		if word.Kind = api.Picture; strings.HasPrefix(text, "AA") {
			continue
		}
		checkFault(t, append(lines("05 PIC"), word, period), api.ErrForm, first)
	}
}

// Faults are found from left to right, and those of an entry by itself when it has ended.
func TestFirstFaults(t *testing.T) {
	checkFaults(t, api.ErrArg, "~50 MOVE .", "~0 A PIC X PIC X .", "~99 A REDEFINES MOVE .", "~65 A", "~67", "~50 A RENAMES B .", "~50 A OCCURS 000001 .")
	checkFaults(t, api.ErrForm, "~050 A .", "05 A ~MOVE PIC X PIC X .", "05 A PIC 9 VALUE \"A\" ~MOVE .", "05 A COMP ~B REDEFINES MOVE .", "66 A PIC X ~B .", "05 A OCCURS 4097 ~B .", "05 A OCCURS 99999 ~99999 .", "88 A PIC X ~X .", "~05 A PIC X VALUE 1", "~05 A OCCURS 4097", "~66 A", "~88 A VALUE 1 THRU", "05 A PIC Q ~Q .", "05 B . 05 A ~MOVE . 50 C .", "05 ~MOVE . 50 C .", "05 A . ~MOVE . 50 .", "05 A . 05 ~MOVE . 05 A PIC X PIC X .")
	checkFaults(t, api.ErrThere, "05 A PIC X ~PIC X REDEFINES MOVE .", "05 A PIC 9 VALUE \"A\" ~VALUE .", "66 A PIC X ~PIC 9 .", "05 A OCCURS 4097 ~OCCURS .", "05 A PIC Q ~PIC", "88 PIC X ~PIC X MOVE")
	checkFaults(t, api.ErrWord, "05 A REDEFINES ~MOVE MOVE .", "05 A PIC Q REDEFINES ~MOVE .", "66 A PIC X RENAMES ~MOVE .", "05 A OCCURS 4097 DEPENDING ON ~MOVE .", "05 A REDEFINES ~FILLER", "88 A RENAMES ~ZERO .")
	checkFaults(t, api.ErrKind, "~05 A COMP . 05 MOVE .", "~66 A . 66 B", "~01 A OCCURS 5000 .")
	checkFaults(t, api.ErrArg, "~05 A OCCURS 5000 COMP PIC X .", "~02 A OCCURS 5000 PIC Q .")
}
