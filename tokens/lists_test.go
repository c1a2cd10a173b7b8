package tokens_test

import (
	"fmt"
	"reflect"
	"slices"
	"strings"
	"testing"

	"columnseven/api"
	"columnseven/columns"
	"columnseven/tokens"
)

func kindAndText(kind api.Kind, text string) api.Token { return api.Token{Kind: kind, Text: text} }

// P3.2

func TestText(t *testing.T) {
	for _, x := range []struct {
		l    []api.Token
		want string
	}{
		{nil, ""}, {[]api.Token{}, ""},
		{[]api.Token{kindAndText(api.Word, "A")}, "A"}, {[]api.Token{kindAndText(api.Number, "-1.50")}, "-1.50"}, {[]api.Token{kindAndText(api.Picture, "Z,Z9.99")}, "Z,Z9.99"}, {[]api.Token{kindAndText(api.Sign, "<=")}, "<="},
		{[]api.Token{kindAndText(api.Quote, "A b")}, `"A b"`}, {[]api.Token{kindAndText(api.Quote, `"`)}, `""""`}, {[]api.Token{kindAndText(api.Quote, `A"B""C`)}, `"A""B""""C"`}, {[]api.Token{kindAndText(api.Quote, "")}, `""`},
		{[]api.Token{kindAndText(api.Period, ".")}, "."}, {[]api.Token{kindAndText(api.Period, "")}, "."}, {[]api.Token{kindAndText(api.Period, "A")}, "."},
		{[]api.Token{kindAndText(api.Pseudo, "==")}, "=="}, {[]api.Token{kindAndText(api.Pseudo, "")}, "=="}, {[]api.Token{kindAndText(api.Pseudo, "=")}, "=="},
		{[]api.Token{kindAndText(api.Word, "MOVE"), kindAndText(api.Quote, " "), kindAndText(api.Word, "TO"), kindAndText(api.Word, "A"), kindAndText(api.Sign, "("), kindAndText(api.Number, "1"), kindAndText(api.Sign, ")"), kindAndText(api.Period, "")}, `MOVE " " TO A ( 1 ) .`},
		{[]api.Token{kindAndText(api.Pseudo, ""), kindAndText(api.Pseudo, ""), kindAndText(api.Period, ""), kindAndText(api.Period, "")}, "== == . ."},
		// It accepts any tokens.
		{[]api.Token{{}}, ""}, {[]api.Token{{}, {}, {}}, "  "}, {[]api.Token{kindAndText(0, `a"`), kindAndText(8, " . "), kindAndText(255, "\x00\xff")}, "a\"  .  \x00\xff"},
		{[]api.Token{kindAndText(api.Word, "a b"), kindAndText(api.Number, ""), kindAndText(api.Sign, `"`), kindAndText(api.Picture, `"x".`)}, `a b  " "x".`},
		{[]api.Token{kindAndText(api.Quote, "\xff\n")}, "\"\xff\n\""},
		{[]api.Token{token(api.Word, "A", 7, -7, true), token(api.Period, "", 0, 9, true)}, "A ."},
	} {
		if got := tokens.Text(x.l); got != x.want {
			t.Errorf("%v: %q, wanted %q", x.l, got, x.want)
		}
	}
}

func TestTextOfManyTokens(t *testing.T) {
	l := slices.Repeat([]api.Token{kindAndText(api.Word, "A"), kindAndText(api.Period, "")}, 2*api.MaxTokens)
	if got := tokens.Text(l); got != strings.Repeat("A . ", 2*api.MaxTokens)[:8*api.MaxTokens-1] {
		t.Errorf("%d bytes: %.40q", len(got), got)
	}
}

// P3.3

func TestSame(t *testing.T) {
	a, b := kindAndText(api.Word, "A"), kindAndText(api.Word, "B")
	for _, x := range []struct {
		a, b []api.Token
		want bool
	}{
		{nil, nil, true}, {nil, []api.Token{}, true}, {[]api.Token{a}, []api.Token{a}, true}, {[]api.Token{a, b}, []api.Token{a, b}, true},
		{nil, []api.Token{a}, false}, {nil, []api.Token{{}}, false}, {[]api.Token{a}, []api.Token{a, a}, false}, {[]api.Token{a}, []api.Token{a, {}}, false}, {[]api.Token{b}, []api.Token{a, b}, false},
		{[]api.Token{a}, []api.Token{b}, false}, {[]api.Token{a, b}, []api.Token{b, a}, false}, {[]api.Token{a, b}, []api.Token{a, a}, false}, {[]api.Token{a, b}, []api.Token{b, b}, false},
		{[]api.Token{a}, []api.Token{kindAndText(api.Quote, "A")}, false}, {[]api.Token{a}, []api.Token{kindAndText(0, "A")}, false}, {[]api.Token{kindAndText(api.Number, "1")}, []api.Token{kindAndText(api.Picture, "1")}, false},
		{[]api.Token{a}, []api.Token{kindAndText(api.Word, "a")}, false}, {[]api.Token{a}, []api.Token{kindAndText(api.Word, "A ")}, false}, {[]api.Token{kindAndText(api.Number, "1")}, []api.Token{kindAndText(api.Number, "+1")}, false}, {[]api.Token{kindAndText(api.Number, "1.0")}, []api.Token{kindAndText(api.Number, "1")}, false},
		{[]api.Token{kindAndText(api.Period, ".")}, []api.Token{kindAndText(api.Pseudo, ".")}, false}, {[]api.Token{kindAndText(api.Period, ".")}, []api.Token{kindAndText(api.Period, "A")}, false},
		{[]api.Token{kindAndText(255, "\xff")}, []api.Token{kindAndText(255, "\xff")}, true}, {[]api.Token{kindAndText(255, "\xff")}, []api.Token{kindAndText(255, "\xfe")}, false}, {[]api.Token{{}}, []api.Token{{}}, true},
		// Positions do not count.
		{[]api.Token{token(api.Word, "A", 1, 8, true)}, []api.Token{token(api.Word, "A", 2, 8, true)}, true}, {[]api.Token{token(api.Word, "A", 1, 8, true)}, []api.Token{token(api.Word, "A", 1, 9, true)}, true}, {[]api.Token{token(api.Word, "A", 1, 8, true)}, []api.Token{token(api.Word, "A", 1, 8, false)}, true},
	} {
		if got := tokens.Same(x.a, x.b); got != x.want {
			t.Errorf("%v, %v: %t", x.a, x.b, got)
		}
		if got := tokens.Same(x.b, x.a); got != x.want {
			t.Errorf("%v, %v: %t", x.b, x.a, got)
		}
	}
}

// P3.4

func TestSplit(t *testing.T) {
	a, b, c := token(api.Word, "A", 1, 8, true), token(api.Quote, ".", 2, 12, false), token(api.Picture, "9.9", 3, 70, false)
	end, other := token(api.Period, ".", 1, 12, true), kindAndText(api.Period, "A")
	for _, x := range []struct {
		l    []api.Token
		want [][]api.Token
	}{
		{nil, nil}, {[]api.Token{}, nil},
		{[]api.Token{a}, [][]api.Token{{a}}}, {[]api.Token{a, b, c}, [][]api.Token{{a, b, c}}}, {[]api.Token{{}}, [][]api.Token{{{}}}},
		{[]api.Token{end}, [][]api.Token{{}}}, {[]api.Token{end, end}, [][]api.Token{{}, {}}}, {[]api.Token{end, other, end}, [][]api.Token{{}, {}, {}}},
		{[]api.Token{a, end}, [][]api.Token{{a}}}, {[]api.Token{end, a}, [][]api.Token{{}, {a}}}, {[]api.Token{a, b, other, c}, [][]api.Token{{a, b}, {c}}}, {[]api.Token{a, end, b, end, c, end}, [][]api.Token{{a}, {b}, {c}}},
		{[]api.Token{a, end, end, b}, [][]api.Token{{a}, {}, {b}}}, {[]api.Token{end, end, a, end, end, end}, [][]api.Token{{}, {}, {a}, {}, {}}},
		{[]api.Token{kindAndText(api.Word, "."), kindAndText(0, "."), kindAndText(255, "."), end, kindAndText(api.Sign, ".")}, [][]api.Token{{kindAndText(api.Word, "."), kindAndText(0, "."), kindAndText(255, ".")}, {kindAndText(api.Sign, ".")}}},
	} {
		got := tokens.Split(x.l)
		if !slices.EqualFunc(got, x.want, slices.Equal) {
			t.Errorf("%v: %v, wanted %v", x.l, got, x.want)
		}
		checkNew(t, "lists", got)
		for _, list := range got {
			checkNew(t, "list", list)
		}
	}
}

// R1 and R4

func TestArgumentsAreKept(t *testing.T) {
	room := append(cards("PIC", "9. A-1 , ", `"a""b" -1`), columns.Card{Text: "~"})
	kept := fmt.Sprintf("%+v", room)
	tokens.Scan(room[:3])
	tokens.Scan(room)
	if now := fmt.Sprintf("%+v", room); now != kept {
		t.Errorf("the cards are %s", now)
	}
	l := []api.Token{token(api.Word, "A", 1, 8, true), token(api.Period, "x", 1, 9, true), token(api.Quote, `"`, 1, 10, true), token(api.Period, "", 1, 11, true), token(api.Pseudo, "", 2, 12, false)}
	before := slices.Clone(l)
	tokens.Text(l[:3])
	tokens.Same(l[:3], l[2:])
	tokens.Split(l[:4])
	tokens.Split(l[:1])
	if !slices.Equal(l, before) {
		t.Errorf("the tokens are %v", l)
	}
}

func TestResultsAreNew(t *testing.T) {
	l := cards("A. B (", "C. . D")
	first, _ := tokens.Scan(l)
	second, _ := tokens.Scan(l)
	want := slices.Clone(second)
	clear(first)
	for i := range l {
		l[i].Text = "X"
		clear(l[i].Marks)
	}
	if !slices.Equal(second, want) {
		t.Errorf("the tokens are %v", second)
	}
	lists, others := tokens.Split(second), tokens.Split(second)
	wanted := fmt.Sprint(others)
	for i, list := range lists {
		_ = append(list, api.Token{Text: "Y"})
		clear(list)
		lists[i] = nil
	}
	if !slices.Equal(second, want) || fmt.Sprint(others) != wanted {
		t.Errorf("the tokens are %v, their lists %v", second, others)
	}
	clear(second)
	if fmt.Sprint(others) != wanted {
		t.Errorf("the lists are %v", others)
	}
}

// No list shares memory with another one, although they stand side by side in the argument.
func TestListsAreApart(t *testing.T) {
	a, end := kindAndText(api.Word, "A"), kindAndText(api.Period, "")
	lists := tokens.Split([]api.Token{a, end, end, a, a, end, a})
	want := [][]api.Token{{a}, {}, {a, a}, {a}}
	for i := range lists {
		grown := append(lists[i], api.Token{})
		clear(grown)
		if !reflect.DeepEqual(lists[i], want[i]) {
			t.Errorf("list %d is %v", i, lists[i])
		}
	}
}
