package divisions_test

import (
	"math/rand"
	"reflect"
	"slices"
	"strings"
	"testing"

	"columnseven/api"
	"columnseven/divisions"
)

// P8.3

// placed returns a program with some paragraphs, each of which is a section, a slash and a name.
func placed(list string) divisions.Program {
	var p divisions.Program
	for _, text := range strings.Fields(list) {
		section, name, _ := strings.Cut(text, "/")
		p.Paragraphs = append(p.Paragraphs, divisions.Paragraph{Section: section, Name: name})
	}
	return p
}

func TestRange(t *testing.T) {
	for _, x := range []struct {
		list, name, section string
		first, last         int
		e                   api.Errno
	}{
		// paragraphs
		{"/A", "A", "", 0, 0, api.OK},
		{"/ /A /B", "A", "", 1, 1, api.OK},
		{"/ /A /B", "B", "", 2, 2, api.OK},
		{"/ /A /B", "C", "", 0, 0, api.ErrNone},
		{"/A S/B T/C", "B", "", 1, 1, api.OK},
		{"/A S/B T/C", "C", "", 2, 2, api.OK},
		{"/A S/B T/C", "C", "T", 2, 2, api.OK},
		{"/A S/B T/C", "C", "S", 0, 0, api.ErrNone},
		{"/A S/B T/C", "A", "S", 0, 0, api.ErrNone},
		{"/A S/A T/A", "A", "S", 1, 1, api.OK},
		{"/A S/A T/A", "A", "T", 2, 2, api.OK},
		{"/A S/A T/A", "A", "U", 0, 0, api.ErrNone},
		{"/A S/A", "A", "", 0, 0, api.ErrTwice},
		{"S/A T/A", "A", "", 0, 0, api.ErrTwice},
		{"S/A S/A", "A", "", 0, 0, api.ErrTwice},
		{"S/A S/A", "A", "S", 0, 0, api.ErrTwice},
		{"S/A S/B S/A S/A", "A", "S", 0, 0, api.ErrTwice},
		{"S/A S/A T/A", "A", "T", 2, 2, api.OK},
		{"/A /A", "A", "", 0, 0, api.ErrTwice},
		// sections
		{"S/A", "S", "", 0, 0, api.OK},
		{"S/", "S", "", 0, 0, api.OK},
		{"S/ S/A S/B", "S", "", 0, 2, api.OK},
		{"/A S/A S/B T/C", "S", "", 1, 2, api.OK},
		{"/A S/A S/B T/C", "T", "", 3, 3, api.OK},
		{"/A S/A S/B T/C", "S", "S", 0, 0, api.ErrNone},
		{"/A S/A S/B T/C", "T", "S", 0, 0, api.ErrNone},
		{"S/A T/B S/C", "S", "", 0, 0, api.ErrTwice},
		{"S/A S/B T/B S/C S/D", "S", "", 0, 0, api.ErrTwice},
		{"S/A T/B S/C", "T", "", 1, 1, api.OK},
		{"S/A T/B S/C T/D S/E", "T", "", 0, 0, api.ErrTwice},
		{"S/A T/B S/C", "C", "S", 2, 2, api.OK},
		// both
		{"S/A A/B", "A", "", 0, 0, api.ErrTwice},
		{"A/B S/A", "A", "", 0, 0, api.ErrTwice},
		{"/A A/B", "A", "", 0, 0, api.ErrTwice},
		{"A/A", "A", "", 0, 0, api.ErrTwice},
		{"A/A", "A", "A", 0, 0, api.OK},
		{"A/ A/A A/B", "A", "", 0, 0, api.ErrTwice},
		{"A/ A/A A/B", "A", "A", 1, 1, api.OK},
		{"A/ A/A A/B", "B", "A", 2, 2, api.OK},
		{"S/A A/B", "A", "S", 0, 0, api.OK},
		{"S/A A/B", "A", "A", 0, 0, api.ErrNone},
		// no names, and none
		{"/ S/", "", "", 0, 0, api.ErrNone},
		{"/ S/", "", "S", 0, 0, api.ErrNone},
		{"S/ S/A", "", "S", 0, 0, api.ErrNone},
		{"/ /", "", "", 0, 0, api.ErrNone},
		{"/A", "", "", 0, 0, api.ErrNone},
		{"", "A", "", 0, 0, api.ErrNone},
		{"", "", "", 0, 0, api.ErrNone},
		{"", "A", "S", 0, 0, api.ErrNone},
		{"S/A", "a", "", 0, 0, api.ErrNone},
		{"S/A", "s", "", 0, 0, api.ErrNone},
		{"S/A", "A", "s", 0, 0, api.ErrNone},
		{"/A", "A", "S", 0, 0, api.ErrNone},
	} {
		p := placed(x.list)
		if first, last, e := divisions.Range(p, x.name, x.section); first != x.first || last != x.last || e != x.e {
			t.Errorf("%v: %d, %d, %d", x, first, last, e)
		}
	}
}

// Only the paragraphs behind the declaratives count.
func TestRangeOfDeclaratives(t *testing.T) {
	p := parsed(t, doing("DECLARATIVES.\nU SECTION. USE.\nA.\nEND DECLARATIVES.\nB.\nS SECTION.\nA."))
	for _, x := range []struct {
		name, section string
		first         int
		e             api.Errno
	}{{"U", "", 0, api.ErrNone}, {"A", "U", 0, api.ErrNone}, {"A", "", 1, api.OK}, {"A", "S", 1, api.OK}, {"B", "", 0, api.OK}, {"S", "", 1, api.OK}} {
		if first, last, e := divisions.Range(p, x.name, x.section); first != x.first || last != x.first || e != x.e {
			t.Error(x, first, last, e)
		}
	}
}

// rangeOf is divisions.Range once more: all procedures are collected.
func rangeOf(p divisions.Program, name, section string) (int, int, api.Errno) {
	var found [][2]int
	for i, x := range p.Paragraphs {
		if x.Name == name && (x.Section == section || section == "") {
			found = append(found, [2]int{i, i})
		}
	}
	for from := range p.Paragraphs {
		for to := from; to < len(p.Paragraphs); to++ {
			inside := !slices.ContainsFunc(p.Paragraphs[from:to+1], func(x divisions.Paragraph) bool { return x.Section != name })
			before := from > 0 && p.Paragraphs[from-1].Section == name
			behind := to+1 < len(p.Paragraphs) && p.Paragraphs[to+1].Section == name
			if section == "" && inside && !before && !behind {
				found = append(found, [2]int{from, to})
			}
		}
	}
	switch {
	case name == "" || len(found) == 0:
		return 0, 0, api.ErrNone
	case len(found) > 1:
		return 0, 0, api.ErrTwice
	}
	return found[0][0], found[0][1], api.OK
}

func TestRangeOfRandomPrograms(t *testing.T) {
	r := rand.New(rand.NewSource(3))
	counts := map[api.Errno]int{}
	for range 20000 {
		list := ""
		for range r.Intn(7) {
			list += some(r, "|S|S|T|A|B") + "/" + some(r, "|A|B|C|D|S") + " "
		}
		p := placed(list)
		kept := placed(list)
		name, section := some(r, "|A|B|C|S|S|T"), some(r, "||S|T|A|U")
		first, last, e := divisions.Range(p, name, section)
		wantFirst, wantLast, want := rangeOf(p, name, section)
		if first != wantFirst || last != wantLast || e != want {
			t.Fatalf("%s of %q %q: %d, %d, %d, wanted %d, %d, %d", list, name, section, first, last, e, wantFirst, wantLast, want)
		}
		if !reflect.DeepEqual(p, kept) {
			t.Fatal(list)
		}
		counts[e]++
	}
	if counts[api.OK] < 1000 || counts[api.ErrNone] < 1000 || counts[api.ErrTwice] < 1000 {
		t.Error(counts)
	}
}
