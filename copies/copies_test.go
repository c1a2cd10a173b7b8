package copies_test

import (
	"slices"
	"strings"
	"testing"

	"columnseven/api"
	"columnseven/columns"
	"columnseven/copies"
	"columnseven/tokens"
)

// column is where the texts of lists begin.
const column = 8

// list returns the tokens of a text that stands in a line.
func list(line int, text string) []api.Token {
	if text == "" {
		return nil
	}
	at := api.Pos{Line: line, Column: column}
	l, fault := tokens.Scan([]columns.Card{{Text: text, Marks: []columns.Mark{{At: at}}}})
	if fault != (api.Fault{}) {
		panic(text)
	}
	return l
}

// members returns a member for each text, which begins with its name and a colon, in lines from 2 on.
func members(texts ...string) []copies.Member {
	var all []copies.Member
	for i, text := range texts {
		name, text, _ := strings.Cut(text, ":")
		all = append(all, copies.Member{Name: name, Tokens: list(i+2, text)})
	}
	return all
}

// replacements returns a replacement for each text, in which an arrow stands between the Old and the New.
func replacements(texts ...string) []copies.Replacement {
	var all []copies.Replacement
	for _, text := range texts {
		before, behind, _ := strings.Cut(text, "->")
		all = append(all, copies.Replacement{Old: list(1001, strings.TrimSpace(before)), New: list(1002, strings.TrimSpace(behind))})
	}
	return all
}

func kindAndText(kind api.Kind, text string) api.Token { return api.Token{Kind: kind, Text: text} }

// word returns n words.
func word(text string, n int) []api.Token {
	return slices.Repeat([]api.Token{kindAndText(api.Word, text)}, n)
}

// checkNew fails unless a result has the capacity of its length (R4).
func checkNew[T any](t *testing.T, call string, result []T) {
	t.Helper()
	if cap(result) != len(result) {
		t.Errorf("%s: length %d, capacity %d", call, len(result), cap(result))
	}
}

// show returns the first tokens of a list with their kinds.
func show(l []api.Token) string {
	shown := ""
	for i, t := range l {
		if i == 40 {
			return shown + " .."
		}
		shown += " " + "?WNQPS.="[min(int(t.Kind), 7):][:1] + t.Text
	}
	return shown
}

// P4.1

func checkReplace(t *testing.T, l []api.Token, r []copies.Replacement, want []api.Token) {
	t.Helper()
	got, e := copies.Replace(l, r)
	if e != api.OK || !tokens.Same(got, want) {
		t.Errorf("%.200s, %.200v: %s, %d, wanted %s", show(l), r, show(got), e, show(want))
	}
	checkNew(t, "tokens", got)
}

func checkRefused(t *testing.T, l []api.Token, r []copies.Replacement, want api.Errno) {
	t.Helper()
	if got, e := copies.Replace(l, r); len(got) != 0 || e != want {
		t.Errorf("%.200s, %.200v: %d tokens, %d, wanted %d", show(l), r, len(got), e, want)
	}
}

func TestReplace(t *testing.T) {
	for _, x := range []struct{ text, pairs, want string }{
		{"", "", ""}, {"", "X -> Y", ""}, {"A B .", "", "A B ."},
		{"X", "X -> Y", "Y"}, {"A", "X -> Y", "A"}, {"X A X", "X -> Y", "Y A Y"}, {"A X A", "X -> Y", "A Y A"}, {"X X X", "X -> Y", "Y Y Y"},
		// An Old and a New of several tokens, or of none.
		{"A X B X", "X -> 1 2 3", "A 1 2 3 B 1 2 3"}, {"A X Y B", "X Y -> Z", "A Z B"}, {"A X B", "X ->", "A B"}, {"X", "X ->", ""}, {"X X", "X ->", ""}, {"X Y X Y", "X Y -> Y X", "Y X Y X"},
		// An Old that begins before the end only.
		{"A X", "X Y -> Z", "A X"}, {"X", "X X -> Z", "X"}, {"Y X", "X Y -> Z", "Y X"}, {"X X Y", "X Y -> Z", "X Z"}, {"X A Y", "X Y -> Z", "X A Y"},
		// An Old that overlaps with itself.
		{"X X X", "X X -> Y", "Y X"}, {"X X X X X", "X X -> Y", "Y Y X"}, {"X Y X Y X", "X Y X -> Z", "Z Y X"}, {"X X Y X X Y", "X X Y -> Z", "Z Z"}, {"X Y X Y X Y", "X Y X -> X", "X Y X Y"},
		// What was put in is not searched, not even together with what is behind it.
		{"X", "X -> X X", "X X"}, {"X Y", "X -> Y|Y -> X", "Y X"}, {"X", "X -> Y|Y -> Z", "Y"}, {"X X", "X -> Y X X", "Y X X Y X X"}, {"A B C", "A -> X|X B -> Z", "X B C"}, {"A B", "A B -> A B A B", "A B A B"}, {"X X Y", "X -> X|X Y -> Z", "X X Y"}, {"X Y Z", "X ->|Y Z -> A|X Y -> B", "A"},
		{"X", "X -> COPY", "COPY"}, {"COPY A .", "A -> B", "COPY B ."}, {"COPY A .", "COPY A . -> X", "X"},
		// The first one of several that fit, at the first place.
		{"X Y", "X -> 1|X Y -> 2", "1 Y"}, {"X Y", "X Y -> 2|X -> 1", "2"}, {"X Z", "X Y -> 2|X -> 1", "1 Z"}, {"X", "X -> 1|X -> 2", "1"}, {"X Y Z", "Y Z -> 2|X Y -> 1", "1 Z"}, {"X Y Z", "Z -> 3|Y -> 2|X -> 1", "1 2 3"}, {"A X Y Z", "B -> 1|Y -> 2|X Y -> 3|X -> 4", "A 3 Z"},
		// Tokens of all kinds.
		{`05 A PIC 9(3) VALUE "X" , -1 .`, `"X" -> "Y"|-1 -> +1|. -> X|VALUE -> IS`, `05 A PIC 9(3) IS "Y" +1 X`}, {"PIC X X", "X -> Y", "PIC X Y"}, {"A ( 1 : 2 ) ** B", "( 1 -> (|: -> **|** -> :", "A ( ** 2 ) : B"}, {"PIC 9 .", "PIC 9 -> PIC X", "PIC X ."}, {"== A ==", "== ->|A -> ==", "=="},
		// Others than alike ones.
		{"1 01 1.0 +1", "1 -> X", "X 01 1.0 +1"}, {`X "X"`, `"X" -> Y`, "X Y"}, {`X "X"`, "X -> Y", `Y "X"`}, {`"x" "X" " X"`, `"X" -> Y`, `"x" Y " X"`}, {`"1" 1`, "1 -> 2", `"1" 2`}, {"X-1 X1 X", "X -> Y", "X-1 X1 Y"},
	} {
		var r []copies.Replacement
		if x.pairs != "" {
			r = replacements(strings.Split(x.pairs, "|")...)
		}
		checkReplace(t, list(1, x.text), r, list(1, x.want))
	}
}

// Tokens that Scan does not return are alike, too, if their kinds and texts are.
func TestReplaceAnyTokens(t *testing.T) {
	odd := []api.Token{{}, kindAndText(8, "X"), kindAndText(255, "\xff"), kindAndText(api.Word, ""), kindAndText(api.Period, ""), kindAndText(api.Period, "x"), kindAndText(api.Pseudo, "")}
	for i, old := range odd {
		want := slices.Clone(odd)
		want[i] = kindAndText(9, "Y")
		checkReplace(t, odd, []copies.Replacement{{Old: []api.Token{old}, New: want[i : i+1]}}, want)
	}
	checkReplace(t, odd, []copies.Replacement{{Old: odd}}, nil)
	checkReplace(t, nil, []copies.Replacement{{Old: odd}}, []api.Token{})
}

// All tokens keep their positions; those of an Old do not count.
func TestReplacePositions(t *testing.T) {
	at := func(line int, left bool) api.Token {
		return api.Token{Kind: api.Word, Text: "A", At: api.Pos{Line: line, Column: 9 + line}, Left: left}
	}
	other := api.Token{Kind: api.Word, Text: "B", At: api.Pos{Line: 5, Column: 8}, Left: true}
	l := []api.Token{other, at(1, true), at(2, false), other, at(3, false), at(0, true)}
	got, e := copies.Replace(l, []copies.Replacement{{Old: []api.Token{at(7, false), at(8, true)}, New: []api.Token{at(9, true), other, at(-1, false)}}})
	want := []api.Token{other, at(9, true), other, at(-1, false), other, at(9, true), other, at(-1, false)}
	if e != api.OK || !slices.Equal(got, want) {
		t.Errorf("%v, %d, wanted %v", got, e, want)
	}
	same, e := copies.Replace(l, nil)
	if e != api.OK || !slices.Equal(same, l) {
		t.Errorf("%v, %d, wanted %v", same, e, l)
	}
}

func TestReplaceRefusesEmptyOlds(t *testing.T) {
	x, long := word("X", 1), word("X", api.MaxTokens+1)
	for _, r := range [][]copies.Replacement{
		{{}}, {{New: x}}, {{Old: []api.Token{}, New: x}}, {{Old: x, New: x}, {New: x}}, {{New: x}, {Old: x, New: x}}, {{Old: x, New: x}, {}, {Old: x}}, {{Old: x, New: long}, {}},
	} {
		for _, l := range [][]api.Token{nil, word("A", 1), x, long} {
			checkRefused(t, l, r, api.ErrArg)
		}
	}
}

func TestReplaceLimit(t *testing.T) {
	const most = api.MaxTokens
	a, x := word("A", 1), word("X", 1)
	to := func(n int) []copies.Replacement { return []copies.Replacement{{Old: x, New: word("Y", n)}} }
	for _, r := range [][]copies.Replacement{nil, {}, to(0), to(1), to(2)} {
		checkReplace(t, word("A", most), r, word("A", most))
		checkRefused(t, word("A", most+1), r, api.ErrLimit)
	}
	checkReplace(t, x, to(most), word("Y", most))
	checkRefused(t, x, to(most+1), api.ErrLimit)
	checkReplace(t, word("X", most/2), to(2), word("Y", most))
	checkRefused(t, word("X", most/2+1), to(2), api.ErrLimit)
	for _, l := range [][]api.Token{slices.Concat(x, a), slices.Concat(a, x)} {
		checkRefused(t, l, to(most), api.ErrLimit)
	}
	checkReplace(t, slices.Concat(x, a), to(most-1), slices.Concat(word("Y", most-1), a))
	checkReplace(t, slices.Concat(a, x), to(most-1), slices.Concat(a, word("Y", most-1)))
	// Only the result counts.
	checkReplace(t, word("X", 3*most), to(0), nil)
	checkReplace(t, slices.Concat(word("A", most), word("X", 9)), to(0), word("A", most))
	checkReplace(t, slices.Concat(word("X", 9), word("A", most)), to(0), word("A", most))
	checkRefused(t, slices.Concat(word("A", most+1), word("X", 9)), to(0), api.ErrLimit)
	checkReplace(t, word("X", 2*most+1), []copies.Replacement{{Old: word("X", 2), New: a}, {Old: x}}, word("A", most))
	checkRefused(t, word("X", 2*most+2), []copies.Replacement{{Old: word("X", 2), New: a}, {Old: x}}, api.ErrLimit)
	// A result that no memory could hold is refused as well.
	checkRefused(t, word("X", most), to(most), api.ErrLimit)
}

// R1 and R4

func TestReplaceIsNew(t *testing.T) {
	l, r := list(1, "A X B X X"), replacements("X -> Y Z", "B -> C")
	keptList, keptPairs := slices.Clone(l), replacements("X -> Y Z", "B -> C")
	first, _ := copies.Replace(l[:4], r[:1])
	second, _ := copies.Replace(l[:4], r[:1])
	want := slices.Clone(second)
	_ = append(first, api.Token{})
	clear(first)
	for i := range r {
		if !slices.Equal(r[i].Old, keptPairs[i].Old) || !slices.Equal(r[i].New, keptPairs[i].New) {
			t.Errorf("replacement %d is %v", i, r[i])
		}
	}
	if !slices.Equal(l, keptList) || !slices.Equal(second, want) {
		t.Errorf("the argument is %v, the other result %v", l, second)
	}
	clear(l)
	clear(r[0].New)
	if !slices.Equal(second, want) {
		t.Errorf("the result is %v", second)
	}
	whole := list(1, "A B")
	same, _ := copies.Replace(whole, nil)
	clear(same)
	if whole[0].Text != "A" || whole[1].Text != "B" {
		t.Errorf("the argument is %v", whole)
	}
}
