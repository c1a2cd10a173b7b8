package divisions_test

import (
	"strconv"
	"strings"
	"testing"

	"columnseven/api"
)

// P8.1: limits

// manySelects returns a program with the files F1, F2 and so on, each in a line of its own, which are described.
func manySelects(n int) string {
	text := ""
	var names []string
	for i := range n {
		name := "F" + strconv.Itoa(i+1)
		text += "SELECT " + name + " ASSIGN A.\n"
		names = append(names, name)
	}
	return selecting(text, names...)
}

func TestMaxFiles(t *testing.T) {
	for _, n := range []int{1, 15, api.MaxFiles} {
		if p := parsed(t, manySelects(n)); len(p.Files) != n || p.Files[n-1].Name != "F"+strconv.Itoa(n) {
			t.Error(n, len(p.Files))
		}
	}
	for _, n := range []int{api.MaxFiles + 1, api.MaxFiles + 2, 40} {
		checkFaults(t, api.ErrLimit, strings.Replace(manySelects(n), "SELECT F17", "SELECT ~F17", 1))
	}
	// What comes behind the name does not count.
	last := "SELECT F17 ASSIGN A."
	many := manySelects(api.MaxFiles + 1)
	checkFaults(t, api.ErrLimit, strings.Replace(many, last, "SELECT ~F17 MOVE.", 1), strings.Replace(many, last, "SELECT ~F17 ASSIGN A RECORD K.", 1))
	checkFaults(t, api.ErrThere, strings.Replace(many, last, "SELECT ~F1 ASSIGN A.", 1), strings.Replace(many, last, "SELECT ~F16 ASSIGN A.", 1))
	checkFaults(t, api.ErrWord, strings.Replace(many, last, "SELECT ~MOVE ASSIGN A.", 1))
	checkFaults(t, api.ErrForm, strings.Replace(many, last, "SELECT ~5 ASSIGN A.", 1))
	checkFaults(t, api.ErrKind, strings.Replace(many, "SELECT F16 ASSIGN A.", "SELECT F16 ASSIGN A RECORD K~.", 1))
	many, _, _ = strings.Cut(many, "F17")
	checkFaults(t, api.ErrForm, strings.TrimSuffix(many, "SELECT ")+"~SELECT")
}

// repeated returns so many lines of a form, each with its number in place of the mark.
func repeated(form string, n int) string {
	var text strings.Builder
	for i := range n {
		text.WriteString(strings.ReplaceAll(form, "#", strconv.Itoa(i)) + "\n")
	}
	return text.String()
}

// one returns texts that have one paragraph each, behind others that are complete; the tilde is where its header stands.
func one() []string {
	return []string{"~B.", "~B.\n    X.", "~B SECTION.", "B SECTION.\n    ~X.", "B SECTION.\n~P.", "B SECTION.\n~P.\n    X"}
}

func TestMaxParagraphs(t *testing.T) {
	for _, form := range []string{"A#.", "A#.\n    X.", "A# SECTION.\n    X.", "A# SECTION.\nP.", "A# SECTION.\nP.\n    X. Y"} {
		fewer, most := repeated(form, api.MaxParagraphs-1), repeated(form, api.MaxParagraphs)
		if p := parsed(t, doing(most)); len(p.Paragraphs) != api.MaxParagraphs {
			t.Error(form, len(p.Paragraphs))
		}
		for _, last := range one() {
			if p := parsed(t, doing(fewer+strings.Replace(last, "~", "", 1))); len(p.Paragraphs) != api.MaxParagraphs {
				t.Error(form, last, len(p.Paragraphs))
			}
			// The tokens in front of the first header are a paragraph, too; and no fault behind the header counts.
			checkFaults(t, api.ErrLimit, doing(most+last), doing("    X.\n"+fewer+last), doing(most+last+"\n5."), doing(most+last+"\nC SECTION.\nA1 SECTION."))
		}
		parsed(t, doing("    X.\n"+fewer))
		checkFaults(t, api.ErrLimit, doing("    X.\n"+fewer+"~B."))
	}
	// A section has a paragraph also where nothing stands in it.
	sections := repeated("A# SECTION.", api.MaxParagraphs)
	parsed(t, doing(sections))
	parsed(t, doing(sections+"B."))
	parsed(t, doing(sections+"    X."))
	checkFaults(t, api.ErrLimit, doing(sections+"~B SECTION."), doing(sections+"B SECTION.\n~C."), doing(sections+"B SECTION.\n    ~X."), doing(sections+"B.\n~C."), doing(sections+"    X.\n~B."), doing("    X.\n"+strings.Replace(sections, "A511", "~A511", 1)), doing(sections+"~B SECTION.\n5."), doing(sections+"~B SECTION.\nA0 SECTION."))
}

func TestParagraphsOfDeclarativesCount(t *testing.T) {
	for _, form := range []string{"U# SECTION. USE.", "U# SECTION. USE. X.", "U# SECTION. USE.\nP."} {
		for _, n := range []int{1, 300, api.MaxParagraphs - 1} {
			uses := "DECLARATIVES.\n" + repeated(form, n) + "END DECLARATIVES.\n"
			rest := repeated("A#.", api.MaxParagraphs-n)
			if p := parsed(t, doing(uses+rest)); len(p.Uses) != n || len(p.Paragraphs) != api.MaxParagraphs-n {
				t.Error(form, n, len(p.Uses), len(p.Paragraphs))
			}
			for _, last := range one() {
				checkFaults(t, api.ErrLimit, doing(uses+rest+last))
			}
			checkFaults(t, api.ErrLimit, doing(uses+"    X.\n"+repeated("A#.", api.MaxParagraphs-n-1)+"~B."))
		}
		uses := "DECLARATIVES.\n" + repeated(form, api.MaxParagraphs)
		parsed(t, doing(uses+"END DECLARATIVES."))
		for _, last := range one() {
			checkFaults(t, api.ErrLimit, doing(uses+"END DECLARATIVES.\n"+last))
		}
		checkFaults(t, api.ErrLimit, doing(uses+"~V SECTION. USE.\nEND DECLARATIVES."), doing(uses+"~V SECTION. USE."), doing(uses+"~V SECTION. USE.\n5."), doing(uses+"~V SECTION. USE.\nW SECTION. USE."), doing(uses+"V SECTION. USE. ~X."), doing(uses+"V SECTION. USE.\n~P.\nEND DECLARATIVES."))
		checkFaults(t, api.ErrThere, doing(uses+"~U7 SECTION. USE."), doing(uses+"END DECLARATIVES.\n~U0 SECTION."))
		checkFaults(t, api.ErrForm, doing(uses+"V SECTION. ~MOVE."), doing(uses+"V SECTION. USE ~A"), doing(uses+"~V"), doing(uses+"~MOVE"))
	}
}

// The fault of a token in front comes first, or that of the same token which the table names first.
func TestMaxParagraphsAndOthers(t *testing.T) {
	paragraphs, sections := repeated("A#.", api.MaxParagraphs), repeated("A# SECTION.\n    X.", api.MaxParagraphs)
	for _, text := range []string{paragraphs, sections} {
		checkFaults(t, api.ErrForm, doing(text+"~5."), doing(text+"~MOVE."), doing(text+"~B"), doing(text+"~B SECTION"), doing(text+"~\"B\"."))
		checkFaults(t, api.ErrForm, doing(strings.Replace(text, "A500", "~5", 1)+"B."))
	}
	checkFaults(t, api.ErrThere, doing(paragraphs+"~A0."), doing(paragraphs+"~A511."), doing(sections+"~A0 SECTION."), doing(sections+"~A511 SECTION.\nB."), doing(strings.Replace(paragraphs, "A500", "~A499", 1)+"B."))
}
