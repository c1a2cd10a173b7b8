package entries

import (
	"slices"
	"strconv"

	"columnseven/api"
)

// A reader reads one entry after the other.
type reader struct {
	rest    []api.Token // what is still to be read
	clauses map[string]clause
	entry   Entry     // the one that is being read
	fault   api.Fault // behind it, nothing is read
}

// passer passes one of some words, if it comes next, and reports whether it did.
type passer func(texts ...string) bool

// read reads an entry.
func (r *reader) read() {
	r.entry = Entry{Name: filler, At: r.rest[0].At}
	r.entry.Level = r.integer(2)
	if !isLevel(r.entry.Level) {
		r.refuse(api.ErrArg, r.entry.At)
	}
	if r.sees(isName) || r.sees(isWord(filler)) {
		r.entry.Name = r.next().Text
	}
	r.readClauses()
	r.take(isPeriod)
	r.refuse(Check(r.entry), r.entry.At)
}

// readClauses reads the clauses of an entry.
func (r *reader) readClauses() {
	pass := func(texts ...string) bool {
		is := r.sees(isWord(texts...))
		if is {
			r.next()
		}
		return is
	}
	begins := func(t api.Token) bool {
		_, is := r.clauses[t.Text]
		return is && t.Kind == api.Word
	}
	seen := map[string]bool{}
	for r.sees(begins) {
		c := r.clauses[r.rest[0].Text]
		if seen[c.name] {
			r.refuse(api.ErrThere, r.rest[0].At)
		}
		seen[c.name] = true
		c.read(r, pass)
	}
}

// refuse notes an error, unless there is a fault already.
func (r *reader) refuse(e api.Errno, at api.Pos) {
	if r.fault == (api.Fault{}) && e != api.OK {
		r.fault = api.Fault{E: e, At: at}
	}
}

// sees reports whether a token that fits comes next.
func (r *reader) sees(fits func(t api.Token) bool) bool {
	return r.fault == (api.Fault{}) && len(r.rest) > 0 && fits(r.rest[0])
}

// next returns the next token, which must be there.
func (r *reader) next() api.Token {
	t := r.rest[0]
	r.rest = r.rest[1:]
	return t
}

// take returns the next token, which must fit.
func (r *reader) take(fits func(t api.Token) bool) api.Token {
	switch {
	case r.sees(fits):
		return r.next()
	case len(r.rest) > 0:
		r.refuse(api.ErrForm, r.rest[0].At)
	default:
		r.refuse(api.ErrForm, r.entry.At)
	}
	return api.Token{}
}

// integer reads a number without a sign and a point that has at most so many digits.
func (r *reader) integer(digits int) int {
	number := r.take(func(t api.Token) bool {
		_, err := strconv.ParseUint(t.Text, 10, 64)
		return t.Kind == api.Number && err == nil && len(t.Text) <= digits
	})
	n, _ := strconv.Atoi(number.Text)
	return n
}

// name reads a name.
func (r *reader) name() string {
	if r.sees(isReserved) {
		r.refuse(api.ErrWord, r.rest[0].At)
	}
	return r.take(isName).Text
}

// names reads a name, and those that qualify it.
func (r *reader) names(pass passer) []string {
	l := []string{r.name()}
	for pass("OF", "IN") {
		l = append(l, r.name())
	}
	return slices.Clip(l)
}
