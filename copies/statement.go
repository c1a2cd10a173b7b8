package copies

import (
	"slices"

	"columnseven/api"
)

// statement is a COPY statement.
type statement struct {
	name         api.Token
	replacements []Replacement
	size         int // how many tokens it has
}

// nextCopy returns the index of the first word COPY, or -1 if there is none.
func nextCopy(l []api.Token) int { return slices.IndexFunc(l, isWord("COPY")) }

// read returns the COPY statement with which tokens begin.
func read(l []api.Token) (statement, api.Fault) {
	r := reader{tokens: l, at: 1}
	s := statement{name: r.take(isName)}
	if r.sees(isWord("REPLACING")) {
		r.at++
		s.replacements = r.pairs()
	}
	r.take(isPeriod)
	if r.fault != (api.Fault{}) {
		return statement{}, r.fault
	}
	s.size = r.at
	return s, api.Fault{}
}

// reader reads the tokens of a COPY statement.
type reader struct {
	tokens []api.Token // from the word COPY on
	at     int         // how many of them have been read
	fault  api.Fault   // behind it, nothing is read
}

// sees reports whether a token that fits comes next.
func (r *reader) sees(fits func(t api.Token) bool) bool {
	return r.fault == (api.Fault{}) && r.at < len(r.tokens) && fits(r.tokens[r.at])
}

// take returns the next token, which must fit.
func (r *reader) take(fits func(t api.Token) bool) api.Token {
	if r.sees(fits) {
		r.at++
		return r.tokens[r.at-1]
	}
	// A fault that is there already stays as it is, because nothing has been read since.
	at := r.tokens[0].At
	if r.at < len(r.tokens) {
		at = r.tokens[r.at].At
	}
	r.fault = api.Fault{E: api.ErrForm, At: at}
	return api.Token{}
}

// pairs reads one pair of operands, and all that follow it.
func (r *reader) pairs() []Replacement {
	l := []Replacement{r.pair()}
	for r.sees(beginsOperand) {
		l = append(l, r.pair())
	}
	return l
}

// pair reads a pair of operands.
func (r *reader) pair() Replacement {
	old := r.operand(false)
	r.take(isWord("BY"))
	return Replacement{Old: old, New: r.operand(true)}
}

// operand reads an operand, which may be an empty pseudo-text, or may not.
func (r *reader) operand(empty bool) []api.Token {
	if first := r.take(beginsOperand); first.Kind != api.Pseudo {
		return []api.Token{first}
	}
	start := r.at
	if !empty {
		r.take(isInside)
	}
	for r.sees(isInside) {
		r.at++
	}
	text := r.tokens[start:r.at]
	r.take(isPseudo)
	return text
}

// isWord returns a function that reports whether a token is a certain word.
func isWord(text string) func(t api.Token) bool {
	return func(t api.Token) bool { return t.Kind == api.Word && t.Text == text }
}

func isName(t api.Token) bool { return t.Kind == api.Word || t.Kind == api.Quote }

func isPeriod(t api.Token) bool { return t.Kind == api.Period }

func isPseudo(t api.Token) bool { return t.Kind == api.Pseudo }

// isInside reports whether a token may stand in a pseudo-text.
func isInside(t api.Token) bool { return !isPseudo(t) }

// beginsOperand reports whether an operand may begin with a token.
func beginsOperand(t api.Token) bool {
	return isName(t) || t.Kind == api.Number || isPseudo(t)
}
