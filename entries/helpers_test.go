package entries_test

import (
	"fmt"
	"reflect"
	"slices"
	"strings"
	"testing"

	"columnseven/api"
	"columnseven/columns"
	"columnseven/entries"
	"columnseven/tokens"
)

// first is where the first token of a text stands.
var first = api.Pos{Line: 1, Column: 12}

// lines returns the tokens of texts, each of which stands in a line of its own from column 12 on.
func lines(texts ...string) []api.Token {
	var cards []columns.Card
	for i, text := range texts {
		if text != "" {
			cards = append(cards, columns.Card{Text: text, Marks: []columns.Mark{{At: api.Pos{Line: i + 1, Column: 12}}}})
		}
	}
	l, fault := tokens.Scan(cards)
	if fault != (api.Fault{}) {
		panic(fmt.Sprintf("%q: %v", texts, fault))
	}
	return l
}

// cut returns the tokens of a text without the tilde that stands in it, and the position of what is behind it.
func cut(t *testing.T, text string) ([]api.Token, api.Pos) {
	t.Helper()
	before, behind, is := strings.Cut(text, "~")
	if !is {
		t.Fatalf("%q has no tilde", text)
	}
	return lines(before + behind), api.Pos{Line: 1, Column: 12 + len(before)}
}

// bare returns tokens without their positions.
func bare(l []api.Token) []api.Token {
	var all []api.Token
	for _, x := range l {
		all = append(all, api.Token{Kind: x.Kind, Text: x.Text})
	}
	return all
}

// value returns the tokens of a text without their positions.
func value(text string) []api.Token { return bare(lines(text)) }

// forms returns all texts of a form: brackets contain what may be missing, and a bar separates words of which one stands there.
func forms(form string) []string {
	all := []string{""}
	add := func(texts []string) {
		var longer []string
		for _, before := range all {
			for _, text := range texts {
				longer = append(longer, strings.TrimSpace(before+" "+text))
			}
		}
		all = longer
	}
	for form = strings.TrimSpace(form); form != ""; form = strings.TrimSpace(form) {
		if form[0] == '[' {
			end := closing(form)
			add(append(forms(form[1:end]), ""))
			form = form[end+1:]
			continue
		}
		word := form[:len(form)-len(strings.TrimLeftFunc(form, func(c rune) bool { return c != ' ' && c != '[' }))]
		add(strings.Split(word, "|"))
		form = form[len(word):]
	}
	return all
}

// closing returns the index of the bracket that closes the first one.
func closing(form string) int {
	open := 0
	return strings.IndexFunc(form, func(c rune) bool {
		open += strings.Count("[", string(c)) - strings.Count("]", string(c))
		return open == 0
	})
}

// orders returns all orders of texts.
func orders(texts ...string) []string {
	if len(texts) == 0 {
		return []string{""}
	}
	var all []string
	for i, text := range texts {
		for _, rest := range orders(slices.Concat(texts[:i], texts[i+1:])...) {
			all = append(all, strings.TrimSpace(text+" "+rest))
		}
	}
	return all
}

// brief returns a text for a value that is not too long.
func brief(x any) string { return fmt.Sprintf("%.900s", fmt.Sprintf("%+v", x)) }

// checkParsed fails unless tokens are entries.
func checkParsed(t *testing.T, l []api.Token, want ...entries.Entry) {
	t.Helper()
	got, fault := entries.Parse(l)
	if fault != (api.Fault{}) || len(got) != len(want) || len(want) > 0 && !reflect.DeepEqual(got, want) {
		t.Errorf("%s: %s, %v, wanted %s", brief(tokens.Text(l)), brief(got), fault, brief(want))
	}
}

// checkEntry fails unless a text is an entry.
func checkEntry(t *testing.T, text string, want entries.Entry) {
	t.Helper()
	want.At = first
	checkParsed(t, lines(text), want)
}

// checkFault fails unless tokens have a fault.
func checkFault(t *testing.T, l []api.Token, e api.Errno, at api.Pos) {
	t.Helper()
	got, fault := entries.Parse(l)
	if len(got) != 0 || fault != (api.Fault{E: e, At: at}) {
		t.Errorf("%s: %s, %v, wanted %d at %v", brief(tokens.Text(l)), brief(got), fault, e, at)
	}
}

// checkFaults fails unless each text has the fault at the tilde that stands in it.
func checkFaults(t *testing.T, e api.Errno, texts ...string) {
	t.Helper()
	for _, text := range texts {
		l, at := cut(t, text)
		checkFault(t, l, e, at)
	}
}

// checkErrors fails unless Check returns an error for each entry.
func checkErrors(t *testing.T, want api.Errno, list ...entries.Entry) {
	t.Helper()
	for _, e := range list {
		if got := entries.Check(e); got != want {
			t.Errorf("%s: %d, wanted %d", brief(e), got, want)
		}
	}
}

// changed returns an entry with a change.
func changed(e entries.Entry, change func(e *entries.Entry)) entries.Entry {
	change(&e)
	return e
}

// parse is entries.Parse without the entries' fields.
func parse(l []api.Token) ([]string, api.Fault) {
	list, fault := entries.Parse(l)
	var names []string
	for _, e := range list {
		names = append(names, e.Name)
	}
	return names, fault
}

// checkParsedTexts fails unless each text is an entry.
func checkParsedTexts(t *testing.T, texts ...string) {
	t.Helper()
	if names, fault := parse(lines(texts...)); len(names) != len(texts) || fault != (api.Fault{}) {
		t.Errorf("%q: %q, %v", texts, names, fault)
	}
}
