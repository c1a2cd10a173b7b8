package divisions_test

import (
	"fmt"
	"strings"
	"testing"

	"columnseven/api"
	"columnseven/columns"
	"columnseven/divisions"
	"columnseven/entries"
	"columnseven/tokens"
)

// scan returns the tokens of a text, each line of which begins in column 8: an indented one stands in area B.
func scan(text string) []api.Token {
	var cards []columns.Card
	for i, line := range strings.Split(text, "\n") {
		indented := strings.TrimLeft(line, " ")
		if indented != "" {
			at := api.Pos{Line: i + 1, Column: 8 + len(line) - len(indented)}
			cards = append(cards, columns.Card{Text: indented, Marks: []columns.Mark{{At: at}}})
		}
	}
	l, fault := tokens.Scan(cards)
	if fault != (api.Fault{}) {
		panic(fmt.Sprintf("%q: %v", text, fault))
	}
	return l
}

// cut returns the tokens of a text without the tilde that stands in it, and the position of what is behind it.
func cut(t *testing.T, text string) ([]api.Token, api.Pos) {
	t.Helper()
	before, behind, is := strings.Cut(text, "~")
	if !is {
		t.Fatalf("%q has no tilde", text)
	}
	lines := strings.Split(before, "\n")
	return scan(before + behind), api.Pos{Line: len(lines), Column: 8 + len(lines[len(lines)-1])}
}

// head is the identification division of the programs in the tests.
const head = "IDENTIFICATION DIVISION. PROGRAM-ID. P1.\n"

// control is what is in front of the first SELECT, which stands in the third line.
const control = head + "ENVIRONMENT DIVISION. INPUT-OUTPUT SECTION. FILE-CONTROL.\n"

// selecting returns a program of a SELECT, and what else stands there in front of its data division; all its files are described.
func selecting(text string, files ...string) string {
	return control + text + "\nDATA DIVISION. FILE SECTION.\n" + described(files...) + "PROCEDURE DIVISION."
}

// described returns an FD for each file.
func described(files ...string) string {
	all := ""
	for _, file := range files {
		all += "FD " + file + ".\n"
	}
	return all
}

// describing returns a program with the sequential files F and G, and descriptions of its files.
func describing(text string) string {
	return control + "SELECT F ASSIGN A.\nSELECT G ASSIGN A.\nDATA DIVISION. FILE SECTION.\n" + text + "\nPROCEDURE DIVISION."
}

// doing returns a program with a procedure division.
func doing(text string) string { return head + "PROCEDURE DIVISION.\n" + text }

// spaced returns texts that are separated by spaces, behind a text.
func spaced(before string, texts ...string) string {
	return strings.Join(append([]string{before}, texts...), " ")
}

// place returns a text for a position.
func place(at api.Pos) string { return fmt.Sprintf("%d:%d", at.Line, at.Column) }

// entryTexts returns entries.Text of entries, a line for each, behind a text.
func entryTexts(before string, list []entries.Entry) []string {
	var lines []string
	for _, e := range list {
		lines = append(lines, before+" "+entries.Text(e))
	}
	return lines
}

// fileText returns all of a file, but its records.
func fileText(f divisions.File) string {
	text := fmt.Sprintf("file %s %s %q organization %d access %d", place(f.At), f.Name, f.Assign, f.Organization, f.Access)
	if len(f.Key) > 0 {
		text += spaced(" key", f.Key...)
	}
	for _, a := range f.Alternates {
		text += spaced(" alternate", a.Key...)
		if a.Duplicates {
			text += " twice"
		}
	}
	if len(f.Status) > 0 {
		text += spaced(" status", f.Status...)
	}
	if len(f.Reports) > 0 {
		text += spaced(" reports", f.Reports...)
	}
	if f.Sort {
		text += " sort"
	}
	return text
}

// paragraphTexts returns a line for each paragraph, behind a text.
func paragraphTexts(before string, list []divisions.Paragraph) []string {
	var lines []string
	for _, x := range list {
		lines = append(lines, strings.TrimSuffix(fmt.Sprintf("%s %s %s/%s: %s", before, place(x.At), x.Section, x.Name, tokens.Text(x.Tokens)), " "))
	}
	return lines
}

// show returns a text for a program: a line for each of its parts, which tells all of it but the positions of tokens and entries.
func show(p divisions.Program) string {
	lines := []string{"program " + p.Name}
	for _, f := range p.Files {
		lines = append(lines, fileText(f))
		lines = append(lines, entryTexts("-", f.Records)...)
	}
	lines = append(lines, entryTexts("working", p.Working)...)
	lines = append(lines, entryTexts("linkage", p.Linkage)...)
	if len(p.Reports) > 0 {
		lines = append(lines, "reports "+tokens.Text(p.Reports))
	}
	if len(p.Screens) > 0 {
		lines = append(lines, "screens "+tokens.Text(p.Screens))
	}
	if len(p.Using) > 0 {
		lines = append(lines, spaced("using", p.Using...))
	}
	for _, u := range p.Uses {
		lines = append(lines, strings.TrimSuffix("use "+u.Section+": "+tokens.Text(u.Tokens), " "))
		lines = append(lines, paragraphTexts("-", u.Paragraphs)...)
	}
	return strings.Join(append(lines, paragraphTexts("paragraph", p.Paragraphs)...), "\n")
}

// parsed returns the program of a text.
func parsed(t *testing.T, text string) divisions.Program {
	t.Helper()
	p, fault := divisions.Parse(scan(text))
	if fault != (api.Fault{}) {
		t.Errorf("%.900s: %v", text, fault)
	}
	return p
}

// checkProgram fails unless a text is a program that is shown as wanted.
func checkProgram(t *testing.T, text string, want ...string) {
	t.Helper()
	got := show(parsed(t, text))
	if wanted := strings.Join(append([]string{"program P1"}, want...), "\n"); got != wanted {
		t.Errorf("%.900s:\n%.900s\nwanted\n%.900s", text, got, wanted)
	}
}

// isZero reports whether a program is the zero one.
func isZero(p divisions.Program) bool {
	return show(p) == "program " && p.Files == nil && p.Working == nil && p.Linkage == nil && p.Reports == nil && p.Screens == nil && p.Using == nil && p.Uses == nil && p.Paragraphs == nil
}

// checkFault fails unless tokens have a fault.
func checkFault(t *testing.T, l []api.Token, e api.Errno, at api.Pos) {
	t.Helper()
	p, fault := divisions.Parse(l)
	if fault != (api.Fault{E: e, At: at}) || !isZero(p) {
		t.Errorf("%.900s: %v, wanted %d at %v", tokens.Text(l), fault, e, at)
	}
}

// checkFaults fails unless each text has the fault at the tilde that stands in it.
func checkFaults(t *testing.T, e api.Errno, texts ...string) {
	t.Helper()
	for _, text := range texts {
		l, at := cut(t, text)
		checkFault(t, l, e, at)
	}
}

// forms returns all texts of a form: brackets contain what may be missing, and a bar separates words of which one stands there.
func forms(form string) []string {
	all := []string{""}
	add := func(texts []string) {
		var longer []string
		for _, before := range all {
			for _, text := range texts {
				longer = append(longer, strings.TrimSpace(before+" "+text))
			}
		}
		all = longer
	}
	for form = strings.TrimSpace(form); form != ""; form = strings.TrimSpace(form) {
		if form[0] == '[' {
			end := closing(form)
			add(append(forms(form[1:end]), ""))
			form = form[end+1:]
			continue
		}
		word, rest := form, ""
		if end := strings.IndexAny(form, " ["); end >= 0 {
			word, rest = form[:end], form[end:]
		}
		add(strings.Split(word, "|"))
		form = rest
	}
	return all
}

// closing returns the index of the bracket that closes the first one.
func closing(form string) int {
	open := 0
	for i, c := range form {
		switch c {
		case '[':
			open++
		case ']':
			open--
		}
		if open == 0 {
			return i
		}
	}
	return len(form)
}

// orders returns all orders of texts.
func orders(texts ...string) [][]string {
	if len(texts) == 0 {
		return [][]string{nil}
	}
	var all [][]string
	for i, text := range texts {
		var rest []string
		rest = append(append(rest, texts[:i]...), texts[i+1:]...)
		for _, order := range orders(rest...) {
			all = append(all, append([]string{text}, order...))
		}
	}
	return all
}
