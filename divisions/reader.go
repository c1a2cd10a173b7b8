package divisions

import (
	"slices"

	"columnseven/api"
	"columnseven/words"
)

// A reader reads tokens from left to right, up to the first fault.
type reader struct {
	rest  []api.Token // what is still to be read
	end   api.Pos     // where the last token of all stands
	fault api.Fault   // behind it, nothing is read
}

// refuse notes an error, unless there is a fault already.
func (r *reader) refuse(e api.Errno, at api.Pos) {
	if r.fault == (api.Fault{}) && e != api.OK {
		r.fault = api.Fault{E: e, At: at}
	}
}

// here returns the position of the next token, or of the last one of all if none follows.
func (r *reader) here() api.Pos {
	if len(r.rest) > 0 {
		return r.rest[0].At
	}
	return r.end
}

// sees reports whether the next tokens are such that each one fits.
func (r *reader) sees(fits ...func(t api.Token) bool) bool {
	if r.fault != (api.Fault{}) || len(r.rest) < len(fits) {
		return false
	}
	for i, fit := range fits {
		if !fit(r.rest[i]) {
			return false
		}
	}
	return true
}

// next returns the next token, which must be there.
func (r *reader) next() api.Token {
	t := r.rest[0]
	r.rest = r.rest[1:]
	return t
}

// take returns the next token, which must fit.
func (r *reader) take(fits func(t api.Token) bool) api.Token {
	if r.sees(fits) {
		return r.next()
	}
	r.refuse(api.ErrForm, r.here())
	return api.Token{}
}

// takeWords reads words, each of which must be there.
func (r *reader) takeWords(texts ...string) {
	for _, text := range texts {
		r.take(isWord(text))
	}
}

// takeChoice reads one of some words, and returns its index.
func (r *reader) takeChoice(texts ...string) uint8 {
	return uint8(slices.Index(texts, r.take(isWord(texts...)).Text))
}

// pass passes one of some words, if it comes next, and reports whether it did.
func (r *reader) pass(texts ...string) bool {
	is := r.sees(isWord(texts...))
	if is {
		r.next()
	}
	return is
}

// takeWhile returns the tokens up to the next one that does not fit.
func (r *reader) takeWhile(fits func(t api.Token) bool) []api.Token {
	var l []api.Token
	for r.sees(fits) {
		l = append(l, r.next())
	}
	return slices.Clip(l)
}

// takeName reads a name.
func (r *reader) takeName() api.Token {
	if r.sees(isReserved) {
		r.refuse(api.ErrWord, r.here())
	}
	return r.take(isName)
}

// takeNames reads a name, and those that qualify it.
func (r *reader) takeNames() []string {
	l := []string{r.takeName().Text}
	for r.pass("OF", "IN") {
		l = append(l, r.takeName().Text)
	}
	return slices.Clip(l)
}

// takeList reads a name, and those that stand behind it.
func (r *reader) takeList() []string {
	l := []string{r.takeName().Text}
	for r.sees(isName) {
		l = append(l, r.next().Text)
	}
	return slices.Clip(l)
}

// isWord returns a function that reports whether a token is one of some words.
func isWord(texts ...string) func(t api.Token) bool {
	return func(t api.Token) bool { return t.Kind == api.Word && slices.Contains(texts, t.Text) }
}

func isReserved(t api.Token) bool { return t.Kind == api.Word && words.Of(t.Text) != words.Name }

// isName reports whether a token is a word that is not reserved.
// A word without a text is none, because an empty name stands for no name.
func isName(t api.Token) bool { return t.Kind == api.Word && t.Text != "" && !isReserved(t) }

func isPeriod(t api.Token) bool { return t.Kind == api.Period }

func isNumber(t api.Token) bool { return t.Kind == api.Number }

func isQuote(t api.Token) bool { return t.Kind == api.Quote }

// isInside reports whether a token does not end a sentence.
func isInside(t api.Token) bool { return !isPeriod(t) }

// isIndented reports whether a token does not begin in area A.
func isIndented(t api.Token) bool { return !t.Left }

// isHeading reports whether a header may begin with a token.
func isHeading(t api.Token) bool { return t.Left && isName(t) }
