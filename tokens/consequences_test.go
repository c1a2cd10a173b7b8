package tokens_test

import (
	"math/rand"
	"slices"
	"strings"
	"testing"

	"columnseven/api"
	"columnseven/columns"
	"columnseven/tokens"
)

// P3.5

// small returns all texts of at most four of the characters that tokens tell apart.
func small() []string {
	all := []string{""}
	for from, length := 0, 0; length < 4; length++ {
		to := len(all)
		for _, text := range all[from:to] {
			for _, c := range `A1.-+,"=(* <` {
				all = append(all, text+string(c))
			}
		}
		from = to
	}
	return all
}

// checkAgain fails unless the text of tokens, laid out in columns and scanned again, gives the same tokens.
func checkAgain(t *testing.T, l []api.Token) {
	t.Helper()
	text := tokens.Text(l)
	for _, left := range []bool{false, true} {
		laid, e := columns.Write([]columns.Line{{Left: left, Text: text}})
		if e != api.OK {
			t.Errorf("%q: Write returns %d", text, e)
			return
		}
		again, f := tokens.Source(laid, false)
		if f != (api.Fault{}) || !tokens.Same(again, l) {
			t.Errorf("%q: again %s, %v", text, show(again), f)
		}
	}
}

func TestTextIsScannedAgain(t *testing.T) {
	for _, text := range samples() {
		l, f := tokens.Scan(cards(text))
		if f != (api.Fault{}) {
			t.Errorf("%q: %v", text, f)
			continue
		}
		checkAgain(t, l)
	}
}

func TestSmallTextsAreScannedAgain(t *testing.T) {
	for _, front := range []string{"", "PIC ", "PIC IS"} {
		for _, text := range small() {
			if l, f := tokens.Scan(cards(front + text + " ")); f == (api.Fault{}) && len(l) > 0 {
				checkAgain(t, l)
			}
		}
	}
}

// randomTexts returns several samples, each of which becomes a card.
func randomTexts(r *rand.Rand) []string {
	all := samples()
	var texts []string
	for range 1 + r.Intn(12) {
		texts = append(texts, all[r.Intn(len(all))])
	}
	return texts
}

// The text of all cards is one line, which is divided anywhere between its tokens, or in them if they are too long.
func TestLongTextsAreScannedAgain(t *testing.T) {
	r := rand.New(rand.NewSource(3))
	for range 4000 {
		texts := randomTexts(r)
		if l, f := tokens.Scan(cards(texts...)); f == (api.Fault{}) && len(l) > 0 {
			checkAgain(t, l)
		}
	}
}

// checkDivided fails unless a text has the same tokens in one line and in two of them, divided at an index.
// The first line is full, so that no space at its end is left out.
func checkDivided(t *testing.T, text string, index int) {
	t.Helper()
	whole, fault := tokens.Scan(cards(text))
	quote := ""
	if strings.Count(text[:index], `"`)%2 != 0 {
		quote = `"`
	} else if text[index] == ' ' || text[index-1] == ' ' {
		return
	}
	divided, f := tokens.Source(source(line(" ", 73-index, text[:index]), line("-", 12, quote+text[index:])), false)
	if f.E != fault.E || !tokens.Same(divided, whole) {
		t.Errorf("%q at %d: %s, %v, wanted %s, %v", text, index, show(divided), f, show(whole), fault)
	}
}

func TestLinesDoNotMatter(t *testing.T) {
	for _, text := range append(small(), samples()...) {
		if len(text) > 60 || strings.Count(text, `"`)%2 != 0 || strings.Trim(text, " ") != text {
			continue
		}
		for index := 1; index < len(text); index++ {
			checkDivided(t, text, index)
		}
	}
}

// Marks change nothing but positions, which are those of columns.At.
func TestMarksDoNotMatter(t *testing.T) {
	r := rand.New(rand.NewSource(4))
	for _, text := range samples() {
		one := card(1, areaB, text)
		whole, _ := tokens.Scan([]columns.Card{one})
		several := columns.Card{Text: text, Marks: []columns.Mark{{At: api.Pos{Line: 1, Column: areaA}}}}
		for from := 1 + r.Intn(3); from < len(text); from += 1 + r.Intn(3) {
			several.Marks = append(several.Marks, columns.Mark{From: from, At: api.Pos{Line: 1 + r.Intn(9), Column: areaA + r.Intn(65)}})
		}
		got, f := tokens.Scan([]columns.Card{several})
		if f != (api.Fault{}) || !tokens.Same(got, whole) {
			t.Errorf("%q: %s, %v, wanted %s", text, show(got), f, show(whole))
			continue
		}
		for i := range got {
			at, _ := columns.At(several, whole[i].At.Column-areaB)
			if got[i].At != at || got[i].Left != (at.Column < areaB) {
				t.Errorf("%q: token %d is at %v, Left %t, wanted %v", text, i, got[i].At, got[i].Left, at)
			}
		}
	}
}

// The lists of Split, with a period behind each, are the tokens again.
func TestListsAreTheTokens(t *testing.T) {
	r := rand.New(rand.NewSource(5))
	for range 2000 {
		l, f := tokens.Scan(append(cards(randomTexts(r)...), cards("A", ".")...))
		if f != (api.Fault{}) {
			continue
		}
		if r.Intn(2) == 0 {
			l = slices.Concat(l[len(l)-1:], l, l[len(l)-1:])
		}
		var again []api.Token
		for _, list := range tokens.Split(l) {
			again = append(append(again, list...), l[len(l)-1])
		}
		if !tokens.Same(again, l) {
			t.Fatalf("%s, wanted %s", show(again), show(l))
		}
	}
}

// P1

// randomCard returns a card with any bytes and any marks.
func randomCard(r *rand.Rand) columns.Card {
	text := make([]byte, r.Intn(12))
	for i := range text {
		text[i] = "PIC is1.-+,;\"=(*<>~\x00\xff\n"[r.Intn(22)]
	}
	c := columns.Card{Left: r.Intn(2) == 0, Text: string(text)}
	for range r.Intn(4) {
		c.Marks = append(c.Marks, columns.Mark{From: len(c.Marks)*r.Intn(4) - r.Intn(20)/19, At: api.Pos{Line: r.Intn(20), Column: 7 + r.Intn(68)}})
	}
	return c
}

// Any cards have tokens, or a fault and no tokens.
func TestAnyCards(t *testing.T) {
	r := rand.New(rand.NewSource(6))
	for range 200000 {
		l := []columns.Card{randomCard(r), card(1, areaB, "PIC"), randomCard(r)}
		got, f := tokens.Scan(l)
		switch {
		case f == (api.Fault{}):
			for i, found := range got {
				if found.Kind < api.Word || found.Kind > api.Pseudo || found.At.Line < 1 || found.At.Column < areaA {
					t.Fatalf("%+v: token %d is %v", l, i, found)
				}
			}
		case len(got) != 0 || (f.E == api.ErrArg) != (f.At == api.Pos{}):
			t.Fatalf("%+v: %v, %v", l, got, f)
		}
	}
}
