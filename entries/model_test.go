package entries_test

import (
	"encoding/hex"
	"regexp"
	"slices"
	"strings"

	"columnseven/api"
	"columnseven/entries"
	"columnseven/pictures"
	"columnseven/words"
)

// P7.1 and P7.2 once more: the forms of the chapter as regular expressions over a text for each token.

// The forms of the clauses, as they stand in the chapter.
var clauseForms = []string{
	"REDEFINES name",
	"PIC|PICTURE [IS] picture",
	"[USAGE [IS]] DISPLAY|COMP-3|COMPUTATIONAL-3|PACKED-DECIMAL|COMP|COMPUTATIONAL|BINARY",
	"[SIGN [IS]] LEADING|TRAILING [SEPARATE [CHARACTER]]",
	"OCCURS integer [TO integer] [TIMES] [DEPENDING [ON] names]",
	"JUST|JUSTIFIED [RIGHT]",
	"BLANK [WHEN] ZERO|ZEROS|ZEROES",
	"VALUE|VALUES [IS|ARE] literal",
	"RENAMES names [THRU|THROUGH names]",
}

const conditionForm = "VALUE|VALUES [IS|ARE] literal [THRU|THROUGH literal] { literal [THRU|THROUGH literal] }"

// What the parts of the forms stand for.
const (
	nameForm    = "<name [^>]*>"
	integerForm = `<Number [0-9]{1,5}>`
	pictureForm = "<Picture>"
	levelForm   = `<Number [0-9]{1,2}>`
)

// patterns returns the patterns of all tokens of a form, and of all beginnings of the form.
func patterns(form string) (all, begun string) {
	items := strings.Fields(strings.NewReplacer("[", " [ ", "]", " ] ").Replace(form))
	var group func() (string, string)
	group = func() (string, string) {
		var alls, beguns []string
		for len(items) > 0 {
			item := items[0]
			items = items[1:]
			all, begun := "", ""
			switch item {
			case "]", "}":
				return joined(alls, beguns)
			case "[":
				all, begun = group()
				all = "(?:" + all + ")?"
			case "{":
				all, begun = group()
				all, begun = "(?:"+all+")*", "(?:"+all+")*(?:"+begun+")"
			case "name":
				all, begun = nameForm, nameForm
			case "names":
				all = nameForm + "(?:<Word (?:OF|IN)>" + nameForm + ")*"
				begun = all + "(?:<Word (?:OF|IN)>)?"
			case "literal":
				figurative := "<Word (?:" + figuratives + ")>"
				all = "(?:<Number [^>]*>|<Quote>|" + figurative + "|<Word ALL><Quote>)"
				begun = "(?:" + all + "|<Word ALL>)"
			case "integer":
				all, begun = integerForm, integerForm
			case "picture":
				all, begun = pictureForm, pictureForm
			default:
				all = "<Word (?:" + item + ")>"
				begun = all
			}
			alls, beguns = append(alls, all), append(beguns, begun)
		}
		return joined(alls, beguns)
	}
	return group()
}

// joined returns the patterns of parts that follow one another.
func joined(alls, beguns []string) (all, begun string) {
	for i, part := range alls {
		begun += "|" + all + "(?:" + beguns[i] + ")"
		all += part
	}
	return all, "(?:" + begun + ")"
}

// reserved are the reserved words, which words.All makes anew each time.
var reserved = words.All()

func isReservedText(s string) bool {
	_, is := slices.BinarySearch(reserved, s)
	return is
}

var digitsPattern = regexp.MustCompile(`\A[0-9]+\z`)

// encoded returns a text for a token.
func encoded(x api.Token) string {
	switch x.Kind {
	case api.Word:
		if isReservedText(x.Text) {
			return "<Word " + x.Text + ">"
		} else if x.Text != "" {
			return "<name " + hex.EncodeToString([]byte(x.Text)) + ">"
		}
	case api.Number:
		if digitsPattern.MatchString(x.Text) {
			return "<Number " + x.Text + ">"
		}
		return "<Number ?>"
	case api.Quote:
		return "<Quote>"
	case api.Picture:
		if x.Text != "" {
			return "<Picture>"
		}
	case api.Period:
		return "<.>"
	}
	return "<?>"
}

// A modelClause is a clause with its patterns, which begin where they are looked for.
type modelClause struct{ all, begun *regexp.Regexp }

// model reads entries.
type model struct {
	clauses   []modelClause
	condition modelClause
}

func newModel() model {
	compiled := func(form string) modelClause {
		all, begun := patterns(form)
		c := modelClause{regexp.MustCompile("^(?:" + all + ")$"), regexp.MustCompile("^" + begun)}
		c.begun.Longest()
		return c
	}
	m := model{condition: compiled(conditionForm)}
	for _, form := range clauseForms {
		m.clauses = append(m.clauses, compiled(form))
	}
	return m
}

// parse is entries.Parse.
func (m model) parse(l []api.Token) ([]entries.Entry, api.Fault) {
	var list []entries.Entry
	for len(l) > 0 {
		e, size, fault := m.entry(l)
		if fault != (api.Fault{}) {
			return nil, fault
		}
		list, l = append(list, e), l[size:]
	}
	return list, api.Fault{}
}

var (
	levelPattern = regexp.MustCompile("^" + levelForm)
	namePattern  = regexp.MustCompile("^(" + nameForm + "|<Word FILLER>)")
)

// entry returns the entry with which tokens begin, and how many tokens it has.
func (m model) entry(l []api.Token) (entries.Entry, int, api.Fault) {
	texts := make([]string, len(l))
	for i, x := range l {
		texts[i] = encoded(x)
	}
	e := entries.Entry{Name: "FILLER", At: l[0].At}
	fail := func(errno api.Errno, i int) (entries.Entry, int, api.Fault) {
		if i >= len(l) {
			return entries.Entry{}, 0, api.Fault{E: api.ErrForm, At: l[0].At}
		}
		return entries.Entry{}, 0, api.Fault{E: errno, At: l[i].At}
	}
	if !levelPattern.MatchString(texts[0]) {
		return fail(api.ErrForm, 0)
	}
	if e.Level = numberOf(l[0]); !slices.Contains(levels(), e.Level) {
		return fail(api.ErrArg, 0)
	}
	at := 1
	if at < len(l) && namePattern.MatchString(texts[at]) {
		e.Name = l[at].Text
		at++
	}
	seen := map[int]bool{}
	for at < len(l) && texts[at] != "<.>" {
		rest := strings.Join(texts[at:], "")
		kind := slices.IndexFunc(m.clauses, func(c modelClause) bool { return c.begun.FindString(rest) != "" })
		switch {
		case kind < 0:
			return fail(api.ErrForm, at)
		case seen[kind]:
			return fail(api.ErrThere, at)
		}
		seen[kind] = true
		c := m.clauses[kind]
		if kind == 7 && e.Level == 88 {
			c = m.condition
		}
		found := c.begun.FindString(rest)
		end := at + strings.Count(found, "<")
		if !c.all.MatchString(found) {
			if end < len(l) && wantsName(c, found) && strings.HasPrefix(texts[end], "<Word ") {
				return fail(api.ErrWord, end)
			}
			return fail(api.ErrForm, end)
		}
		fill(&e, kind, l[at:end])
		at = end
	}
	if errno := modelCheck(e); at < len(l) && errno != api.OK {
		return fail(errno, 0)
	}
	if at >= len(l) {
		return fail(api.ErrForm, at)
	}
	return e, at + 1, api.Fault{}
}

// wantsName reports whether only a name, or a word that may be missing before it, can go on with what was found.
func wantsName(c modelClause, found string) bool {
	return c.begun.FindString(found+"<name 41>") == found+"<name 41>"
}

// numberOf returns the value of digits.
func numberOf(x api.Token) int {
	n := 0
	for _, digit := range []byte(x.Text) {
		n = 10*n + int(digit-'0')
	}
	return n
}

// fill sets the fields of a clause.
func fill(e *entries.Entry, kind int, l []api.Token) {
	has := func(texts ...string) bool {
		return slices.ContainsFunc(l, func(x api.Token) bool { return x.Kind == api.Word && slices.Contains(texts, x.Text) })
	}
	last := l[len(l)-1].Text
	switch kind {
	case 0:
		e.Redefines = last
	case 1:
		e.Picture = last
	case 2:
		e.HasUsage = true
		e.Usage = map[string]api.Usage{"DISPLAY": 0, "COMP-3": 1, "COMPUTATIONAL-3": 1, "PACKED-DECIMAL": 1, "COMP": 2, "COMPUTATIONAL": 2, "BINARY": 2}[last]
	case 3:
		e.HasSign, e.Leading, e.Separate = true, has("LEADING"), has("SEPARATE")
	case 4:
		for _, x := range l {
			if x.Kind == api.Number {
				e.Least, e.Occurs = e.Occurs, numberOf(x)
			}
		}
		e.Depends = modelNames(l)
	case 5:
		e.Just = true
	case 6:
		e.Blank = true
	case 7:
		l = l[1:]
		if l[0].Text == "IS" && l[0].Kind == api.Word || l[0].Text == "ARE" && l[0].Kind == api.Word {
			l = l[1:]
		}
		e.Value = bare(l)
		for i, x := range e.Value {
			if x == (api.Token{Kind: api.Word, Text: "THROUGH"}) {
				e.Value[i].Text = "THRU"
			}
		}
	case 8:
		at := slices.IndexFunc(l, func(x api.Token) bool { return x.Text == "THRU" || x.Text == "THROUGH" })
		if at < 0 {
			at = len(l)
		}
		e.First, e.Last = modelNames(l[:at]), modelNames(l[at:])
	}
}

// modelNames returns the names in a clause.
func modelNames(l []api.Token) []string {
	var names []string
	for _, x := range l {
		if strings.HasPrefix(encoded(x), "<name ") {
			names = append(names, x.Text)
		}
	}
	return names
}

var (
	nameText  = regexp.MustCompile(`\A[A-Z0-9]([A-Z0-9-]{0,28}[A-Z0-9])?\z`)
	thruPairs = regexp.MustCompile(`^(?:L(?:TL)?)*$`)
)

func isNameText(s string) bool {
	return nameText.MatchString(s) && strings.ContainsAny(s, "ABCDEFGHIJKLMNOPQRSTUVWXYZ") && !isReservedText(s)
}

// modelCheck is entries.Check: the rules of the chapter, in order.
func modelCheck(e entries.Entry) api.Errno {
	wrongName := func(s string) bool { return !isNameText(s) }
	clauses := e.Redefines != "" || e.Picture != "" || e.Usage != 0 || e.HasUsage || e.Occurs != 0 || e.Least != 0 || len(e.Depends) > 0 || e.HasSign || e.Leading || e.Separate || e.Just || e.Blank
	renames := len(e.First)+len(e.Last) > 0
	shape, errno := pictures.Parse(e.Picture)
	numeric := shape.Category == api.Numeric
	rules := []struct {
		broken bool
		e      api.Errno
	}{
		{!slices.Contains(levels(), e.Level), api.ErrArg},
		{e.Name != "FILLER" && wrongName(e.Name) || e.Redefines != "" && wrongName(e.Redefines) || slices.ContainsFunc(slices.Concat(e.Depends, e.First, e.Last), wrongName), api.ErrWord},
		{e.Level == 66 && (len(e.First) == 0 || clauses || len(e.Value) > 0), api.ErrKind},
		{e.Level != 66 && renames, api.ErrKind},
		{e.Level == 88 && (e.Name == "FILLER" || len(e.Value) == 0 || clauses), api.ErrKind},
		{(e.Level == 1 || e.Level == 77) && e.Occurs != 0, api.ErrKind},
		{e.Level == 88, modelValues(e.Value)},
		{e.Level == 66, api.OK},
		{e.Occurs < 0 || e.Occurs > api.MaxOccurs || e.Least < 0 || len(e.Depends) > 0 && e.Least >= e.Occurs || len(e.Depends) == 0 && e.Least != 0, api.ErrArg},
		{e.Picture == "" && (e.HasUsage || e.HasSign || e.Leading || e.Separate || e.Just || e.Blank || e.Usage != 0), api.ErrKind},
		{e.Picture != "" && errno != api.OK, errno},
		{e.Picture != "" && (e.Usage > 2 || e.Usage != 0 && !e.HasUsage || e.Usage != 0 && !numeric), api.ErrKind},
		{e.Picture != "" && (e.Leading || e.Separate) && !e.HasSign, api.ErrKind},
		{e.Picture != "" && e.HasSign && (!numeric || !shape.Signed || e.Usage != 0), api.ErrKind},
		{e.Picture != "" && e.Just && shape.Category != api.Alphabetic && shape.Category != api.Alphanumeric, api.ErrKind},
		{e.Picture != "" && e.Blank && shape.Category != api.Edited, api.ErrKind},
		{len(e.Value) == 0, api.OK},
		{e.Redefines != "", api.ErrKind},
		{len(e.Value) > 0, modelValue(e.Value, e.Picture != "" && numeric)},
	}
	for _, rule := range rules {
		if rule.broken {
			return rule.e
		}
	}
	return api.OK
}

// joinedLiterals returns values with each ALL and the Quote behind it as one token, which is a Quote.
func joinedLiterals(l []api.Token) []api.Token {
	var all []api.Token
	for i, x := range l {
		if i > 0 && l[i-1].Kind == api.Word && l[i-1].Text == "ALL" && x.Kind == api.Quote {
			all = all[:len(all)-1]
		}
		all = append(all, x)
	}
	return all
}

// modelLetter returns L for a literal, T for THRU, and ? for all others.
func modelLetter(x api.Token) string {
	figurative := x.Kind == api.Word && slices.Contains(strings.Split(figuratives, "|"), x.Text)
	switch {
	case x.Kind == api.Number || x.Kind == api.Quote || figurative:
		return "L"
	case x.Kind == api.Word && x.Text == "THRU":
		return "T"
	}
	return "?"
}

// modelValues returns the error of the values of a condition.
func modelValues(l []api.Token) api.Errno {
	letters := ""
	for _, x := range joinedLiterals(l) {
		letters += modelLetter(x)
		if !thruPairs.MatchString(letters) && !thruPairs.MatchString(letters+"L") {
			return api.ErrKind
		}
		if letters[len(letters)-1] == 'L' {
			if _, e := words.Literal(x); e != api.OK {
				return e
			}
		}
	}
	if !thruPairs.MatchString(letters) {
		return api.ErrKind
	}
	return api.OK
}

// modelValue returns the error of the value of an item.
func modelValue(l []api.Token, numeric bool) api.Errno {
	l = joinedLiterals(l)
	if len(l) != 1 || modelLetter(l[0]) != "L" {
		return api.ErrKind
	}
	if _, e := words.Literal(l[0]); e != api.OK {
		return e
	}
	number := l[0].Kind == api.Number
	zero := l[0].Kind == api.Word && strings.HasPrefix(l[0].Text, "ZERO")
	if numeric && !number && !zero || !numeric && number {
		return api.ErrKind
	}
	return api.OK
}
