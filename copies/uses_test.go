package copies_test

import (
	"slices"
	"strconv"
	"strings"
	"testing"

	"columnseven/api"
	"columnseven/copies"
)

// P4.3

func checkUses(t *testing.T, l []api.Token, want ...string) {
	t.Helper()
	got, fault := copies.Uses(l)
	if fault != (api.Fault{}) || !slices.Equal(got, want) {
		t.Errorf("%s: %.200q, %v, wanted %.200q", show(l), got, fault, want)
	}
	checkNew(t, "names", got)
}

func TestUses(t *testing.T) {
	for text, want := range map[string]string{
		"": "", "A B .": "", "COPY A .": "A", `COPY "A" .`: "A", `COPY "a b" .`: "a b", "COPY 1A .": "1A",
		"COPY A . X": "A", "X COPY A .": "A", "X COPY A . Y": "A", "X . COPY A . . Y": "A",
		"COPY A . COPY B .": "A,B", "COPY B . X COPY A .": "B,A", "COPY A . COPY A .": "A", `COPY B . COPY A . X COPY "B" . COPY C . COPY A .`: "B,A,C", `COPY "a" . COPY a .`: "a,A",
		// The word COPY of another kind, and words that only contain it.
		`"COPY" A .`: "", "PIC COPY .": "", "COPY-A A . COPYA A COPY1 A": "", "REPLACING X BY Y .": "",
		// Words of the statement itself as names.
		"COPY COPY .": "COPY", "COPY REPLACING .": "REPLACING", "COPY BY .": "BY", "COPY COPY REPLACING COPY BY COPY .": "COPY", "COPY REPLACING REPLACING REPLACING BY REPLACING .": "REPLACING", "COPY BY REPLACING BY BY BY .": "BY",
		// Operands.
		"COPY A REPLACING X BY Y .": "A", `COPY A REPLACING 1 BY "Y" .`: "A", `COPY A REPLACING "X" BY -1.5 .`: "A", "COPY A REPLACING X BY Y 1 BY 2 Z BY X .": "A",
		"COPY A REPLACING ==X== BY ==Y== .": "A", "COPY A REPLACING ==X Y== BY == == Z BY ==1 2 3== .": "A", "COPY A REPLACING X BY ==== .": "A", "COPY A REPLACING ==X== BY Y ==Z== BY ==== .": "A",
		// Whatever stands in a pseudo-text.
		"COPY A REPLACING ==COPY B . == BY ==COPY C . == .": "A", "COPY A REPLACING ==. == BY ==. . == . COPY B .": "A,B", "COPY A REPLACING ==REPLACING== BY ==BY== .": "A", "COPY A REPLACING ==BY== BY ==BY X BY== .": "A", "COPY A REPLACING ==COPY== BY ==(:) == .": "A", `COPY A REPLACING == PIC 9(3) VALUE "A" == BY == ** == .`: "A",
		// A statement in other text.
		"MOVE COPY A . TO X": "A", "COPY A REPLACING X BY Y . . COPY B REPLACING X BY Y . COPY C .": "A,B,C", "== COPY A . ==": "A",
	} {
		var names []string
		if want != "" {
			names = strings.Split(want, ",")
		}
		checkUses(t, list(1, text), names...)
	}
}

// Periods and pseudo-texts are told by their kinds; the words COPY, REPLACING and BY by their texts, too.
func TestUsesAnyTokens(t *testing.T) {
	w := func(text string) api.Token { return kindAndText(api.Word, text) }
	end, pseudo := kindAndText(api.Period, "x"), kindAndText(api.Pseudo, "")
	checkUses(t, []api.Token{w("COPY"), w("a b"), end}, "a b")
	checkUses(t, []api.Token{w("COPY"), kindAndText(api.Quote, ""), end}, "")
	checkUses(t, []api.Token{w("COPY"), w("A"), w("REPLACING"), pseudo, {}, end, kindAndText(255, "BY"), pseudo, w("BY"), pseudo, pseudo, end}, "A")
	checkUses(t, []api.Token{w("copy"), w("A"), end, w(" COPY"), kindAndText(0, "COPY"), kindAndText(255, "COPY"), kindAndText(api.Picture, "COPY"), kindAndText(api.Sign, "COPY"), kindAndText(api.Number, "COPY"), kindAndText(api.Period, "COPY"), kindAndText(api.Pseudo, "COPY")})
}

// Uses has no limits.
func TestUsesOfManyStatements(t *testing.T) {
	var l []api.Token
	var want []string
	for i := range 2*api.MaxTokens + 1 {
		name := "A" + strconv.Itoa(i%70000)
		l = append(l, kindAndText(api.Word, "COPY"), kindAndText(api.Quote, name), kindAndText(api.Period, "."))
		if i < 70000 {
			want = append(want, name)
		}
	}
	checkUses(t, l, want...)
}

// malformed returns texts in each of which a tilde stands in front of the token that does not fit,
// or of the word COPY of the statement that does not end.
func malformed() []string {
	return []string{
		// The name.
		"~COPY", "A ~COPY", "COPY ~.", "COPY ~1 .", "COPY ~-1 .", "COPY ~( A .", "COPY ~==A== .", "X COPY ~. COPY A .", "COPY ~== == .", "COPY ~. A .", "COPY ~** .",
		// What is behind the name.
		"~COPY A", "X ~COPY A", "COPY A ~B .", "COPY A ~B", "COPY A ~COPY B .", "COPY A ~BY B .", "COPY A ~1 .", `COPY A ~"B" .`, "COPY A ~== == .", "COPY A ~( .", `COPY A ~"REPLACING" X BY Y .`, "COPY COPY ~A .", "COPY REPLACING ~X BY Y .", "COPY PIC ~REPLACING X BY Y .",
		// The first operand.
		"~COPY A REPLACING", "COPY A REPLACING ~.", "COPY A REPLACING ~( BY X .", "COPY A REPLACING ~: BY X .", "COPY A REPLACING ~. X BY Y .", "COPY A REPLACING REPLACING ~X BY Y .",
		"COPY A REPLACING ==~== BY X .", "COPY A REPLACING == ~== .", "COPY A REPLACING ==~==", "COPY A REPLACING X BY Y ==~== BY X .", "COPY A REPLACING ==~== X == BY Y .",
		"~COPY A REPLACING ==", "~COPY A REPLACING == X", "~COPY A REPLACING == X BY Y . COPY B .", "~COPY A REPLACING == .", "~COPY A REPLACING X BY Y == X .",
		// The word BY.
		"COPY A REPLACING X ~.", "COPY A REPLACING X ~Y .", "COPY A REPLACING X ~1 .", "COPY A REPLACING X ~== BY == .", `COPY A REPLACING X ~"BY" Y .`, "COPY A REPLACING ==X== ~.", "COPY A REPLACING ==X== ~Y BY Z .", "COPY A REPLACING ==X== ~==Y== .", "COPY A REPLACING PIC ~BY X .", "COPY A REPLACING X BY Y Z ~.", "COPY A REPLACING X ~TO Y .", "COPY A REPLACING BY ~X .",
		"~COPY A REPLACING X", "~COPY A REPLACING ==X==", "~COPY A REPLACING X BY Y Z",
		// The second operand.
		"COPY A REPLACING X BY ~.", "COPY A REPLACING X BY ~( .", "COPY A REPLACING X BY ~= .", "COPY A REPLACING X BY ~. Y .", "COPY A REPLACING ==X== BY ~.", "COPY A REPLACING X BY Y Z BY ~.", "COPY A REPLACING BY BY ~.",
		"~COPY A REPLACING X BY", "~COPY A REPLACING X BY ==", "~COPY A REPLACING X BY == Y .", "~COPY A REPLACING X BY == == Z BY == .",
		// What is behind a pair.
		"~COPY A REPLACING X BY Y", "~COPY A REPLACING X BY ====", "COPY A REPLACING X BY Y ~( .", "COPY A REPLACING X BY ==Y== ~) .", "COPY A REPLACING X BY Y ~** 1 BY 2 .", "COPY A REPLACING X BY PIC ~Y .", "COPY A REPLACING X BY Y COPY ~B .", "COPY A REPLACING X BY Y BY ~Z .",
		// Statements behind others.
		"COPY A . COPY ~.", "COPY A . ~COPY B", "COPY A REPLACING X BY Y . X COPY B ~C .", "COPY A . ~COPY", "COPY A . COPY A ~COPY .",
	}
}

// cut returns the tokens of a text without its tilde, and the position of the token behind it.
func cut(line int, text string) ([]api.Token, api.Pos) {
	before, behind, _ := strings.Cut(text, "~")
	return list(line, before+behind), api.Pos{Line: line, Column: column + len(before)}
}

func TestUsesRefuses(t *testing.T) {
	for _, text := range malformed() {
		l, at := cut(1, text)
		got, fault := copies.Uses(l)
		if len(got) != 0 || fault != (api.Fault{E: api.ErrForm, At: at}) {
			t.Errorf("%q: %q, %v, wanted a fault at %v", text, got, fault, at)
		}
	}
}

// Tokens of all kinds where none of them fits.
func TestUsesRefusesKinds(t *testing.T) {
	before := map[string]string{
		"COPY":                            " Word Quote ",
		"COPY A":                          " Period ",
		"COPY A REPLACING":                " Word Number Quote Pseudo ",
		"COPY A REPLACING X":              " ",
		"COPY A REPLACING == X ==":        " ",
		"COPY A REPLACING X BY":           " Word Number Quote Pseudo ",
		"COPY A REPLACING X BY Y":         " Word Number Quote Pseudo Period ",
		"COPY A REPLACING X BY == Y ==":   " Word Number Quote Pseudo Period ",
		"COPY A REPLACING ==":             " 0 Word Number Quote Picture Sign Period 8 ",
		"COPY A REPLACING == X":           " 0 Word Number Quote Picture Sign Period Pseudo 8 ",
		"COPY A REPLACING X BY ==":        " 0 Word Number Quote Picture Sign Period Pseudo 8 ",
		"COPY A REPLACING X BY == Y":      " 0 Word Number Quote Picture Sign Period Pseudo 8 ",
		"COPY A REPLACING X BY Y == . Y":  " 0 Word Number Quote Picture Sign Period Pseudo 8 ",
		"COPY A REPLACING X BY Y Z BY ==": " 0 Word Number Quote Picture Sign Period Pseudo 8 ",
	}
	kinds := []string{"0", "Word", "Number", "Quote", "Picture", "Sign", "Period", "Pseudo", "8"}
	for text, fit := range before {
		l := list(1, text)
		for kind, name := range kinds {
			next := api.Token{Kind: api.Kind(kind), Text: "X", At: api.Pos{Line: 7, Column: 9}}
			want := api.Fault{E: api.ErrForm, At: next.At}
			if strings.Contains(fit, " "+name+" ") {
				want.At = l[0].At
			}
			if want.At == l[0].At && name == "Period" && !strings.Contains(fit, " 0 ") {
				want = api.Fault{} // the end of the statement
			}
			if _, fault := copies.Uses(append(slices.Clip(l), next)); fault != want {
				t.Errorf("%q and a token of kind %d: %v, wanted %v", text, kind, fault, want)
			}
		}
	}
}

// R1 and R4

func TestUsesIsNew(t *testing.T) {
	l := list(1, "COPY A REPLACING X BY Y . COPY B . COPY A . COPY C .")
	kept := slices.Clone(l)
	first, _ := copies.Uses(l[:len(l)-3])
	second, _ := copies.Uses(l[:len(l)-3])
	_ = append(first, "X")
	clear(first)
	if !slices.Equal(l, kept) || !slices.Equal(second, []string{"A", "B"}) {
		t.Errorf("the argument is %v, the other result %q", l, second)
	}
}
