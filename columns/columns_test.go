package columns

import (
	"math"
	"reflect"
	"strings"
	"testing"

	"columnseven/api"
)

func spaces(n int) string { return strings.Repeat(" ", n) }

func pos(line, column int) api.Pos { return api.Pos{Line: line, Column: column} }

func fault(e api.Errno, line, column int) api.Fault { return api.Fault{E: e, At: pos(line, column)} }

// source returns lines that are separated by bytes 10.
func source(lines ...string) string { return strings.Join(lines, "\n") }

// at returns a line with an indicator in which a text begins in a column.
func at(indicator string, column int, text string) string {
	return spaces(6) + indicator + spaces(column-8) + text
}

// card returns a card with a mark for each index, line and column.
func card(left bool, text string, marks ...[3]int) Card {
	c := Card{Left: left, Text: text}
	for _, m := range marks {
		c.Marks = append(c.Marks, Mark{From: m[0], At: pos(m[1], m[2])})
	}
	return c
}

// checkCards fails unless Read returns these cards, in memory without room (R4).
func checkCards(t *testing.T, name, text string, debug bool, want ...Card) {
	t.Helper()
	got, f := Read(text, debug)
	if f != (api.Fault{}) {
		t.Errorf("%s: fault %v", name, f)
		return
	}
	if len(got) != len(want) || len(got) > 0 && !reflect.DeepEqual(got, want) {
		t.Errorf("%s:\n%+v\nwanted\n%+v", name, got, want)
	}
	if cap(got) != len(got) {
		t.Errorf("%s: %d cards, capacity %d", name, len(got), cap(got))
	}
	for _, c := range got {
		if cap(c.Marks) != len(c.Marks) {
			t.Errorf("%s: %d marks, capacity %d", name, len(c.Marks), cap(c.Marks))
		}
	}
}

// P2.2

func TestAt(t *testing.T) {
	c := card(false, "PERFORM P", [3]int{0, 1, 12}, [3]int{4, 3, 20}, [3]int{5, 4, 72})
	want := []api.Pos{
		pos(1, 12), pos(1, 13), pos(1, 14), pos(1, 15), pos(3, 20),
		pos(4, 72), pos(4, 73), pos(4, 74), pos(4, 75), pos(4, 76),
	}
	for i, p := range want {
		if got, e := At(c, i); got != p || e != api.OK {
			t.Errorf("At(%d) is %v, %d, wanted %v", i, got, e, p)
		}
	}
	for _, i := range []int{-1, 10, 11, math.MinInt, math.MaxInt} {
		if got, e := At(c, i); got != (api.Pos{}) || e != api.ErrArg {
			t.Errorf("At(%d) is %v, %d", i, got, e)
		}
	}
}

func TestAtOfOneByte(t *testing.T) {
	for _, p := range []api.Pos{pos(1, 8), pos(1, 72), pos(math.MaxInt, 8)} {
		c := Card{Text: "\x00", Marks: []Mark{{At: p}}}
		for i := range 2 {
			if got, e := At(c, i); got != pos(p.Line, p.Column+i) || e != api.OK {
				t.Errorf("At(%d) of a card at %v is %v, %d", i, p, got, e)
			}
		}
	}
}

func TestAtOfInvalidCards(t *testing.T) {
	for name, c := range map[string]Card{
		"zero":              {},
		"no text":           card(false, "", [3]int{0, 1, 8}),
		"no marks":          {Text: "AB"},
		"no marks, left":    {Left: true, Text: "AB", Marks: []Mark{}},
		"first From 1":      card(false, "AB", [3]int{1, 1, 8}),
		"first From -1":     card(false, "AB", [3]int{-1, 1, 8}),
		"first From least":  card(false, "AB", [3]int{math.MinInt, 1, 8}, [3]int{0, 2, 8}),
		"From equal":        card(false, "AB", [3]int{0, 1, 8}, [3]int{0, 2, 8}),
		"From equal later":  card(false, "ABC", [3]int{0, 1, 8}, [3]int{1, 2, 8}, [3]int{1, 3, 8}),
		"From less":         card(false, "ABC", [3]int{0, 1, 8}, [3]int{2, 2, 8}, [3]int{1, 3, 8}),
		"From below 0":      card(false, "ABC", [3]int{0, 1, 8}, [3]int{-1, 2, 8}),
		"From of the end":   card(false, "AB", [3]int{0, 1, 8}, [3]int{2, 2, 8}),
		"From greatest":     card(false, "AB", [3]int{0, 1, 8}, [3]int{math.MaxInt, 2, 8}),
		"line 0":            card(false, "AB", [3]int{0, 0, 8}),
		"line -1":           card(false, "AB", [3]int{0, -1, 8}),
		"line least":        card(false, "AB", [3]int{0, math.MinInt, 8}),
		"second line 0":     card(false, "AB", [3]int{0, 1, 8}, [3]int{1, 0, 8}),
		"column 7":          card(false, "AB", [3]int{0, 1, 7}),
		"column 0":          card(false, "AB", [3]int{0, 1, 0}),
		"column 73":         card(false, "AB", [3]int{0, 1, 73}),
		"column least":      card(false, "AB", [3]int{0, 1, math.MinInt}),
		"column greatest":   card(false, "AB", [3]int{0, 1, math.MaxInt}),
		"second column 7":   card(false, "AB", [3]int{0, 1, 8}, [3]int{1, 1, 7}),
		"second column 73":  card(false, "AB", [3]int{0, 1, 8}, [3]int{1, 1, 73}),
		"third column 73":   card(false, "ABC", [3]int{0, 1, 8}, [3]int{1, 1, 8}, [3]int{2, 1, 73}),
		"no mark is at all": card(false, "AB", [3]int{}),
	} {
		for _, i := range []int{-1, 0, 1, 2} {
			if got, e := At(c, i); got != (api.Pos{}) || e != api.ErrArg {
				t.Errorf("%s: At(%d) is %v, %d", name, i, got, e)
			}
		}
	}
}

// Lines need not ascend, and parts may be longer than a line: At asks for no more than the chapter.
func TestAtOfUnusualCards(t *testing.T) {
	c := card(true, spaces(100)+"AB", [3]int{0, 7, 72}, [3]int{100, 2, 8})
	for i, want := range map[int]api.Pos{0: pos(7, 72), 99: pos(7, 171), 100: pos(2, 8), 101: pos(2, 9), 102: pos(2, 10)} {
		if got, e := At(c, i); got != want || e != api.OK {
			t.Errorf("At(%d) is %v, %d", i, got, e)
		}
	}
}

func TestAtKeepsTheCard(t *testing.T) {
	room := []Mark{{0, pos(1, 8)}, {1, pos(2, 9)}, {5, pos(6, 7)}}
	kept := append([]Mark{}, room...)
	c := Card{Text: "AB", Marks: room[:2]}
	for i := -1; i <= 3; i++ {
		At(c, i)
	}
	if !reflect.DeepEqual(room, kept) {
		t.Errorf("the marks are now %v", room)
	}
}
