package entries

import (
	"slices"

	"columnseven/api"
	"columnseven/pictures"
	"columnseven/tokens"
	"columnseven/words"
)

// Check returns the error of an entry by itself.
func Check(e Entry) api.Errno {
	switch {
	case !isLevel(e.Level):
		return api.ErrArg
	case !named(e):
		return api.ErrWord
	case !suits(e):
		return api.ErrKind
	case e.Level == condition:
		return checkValues(e.Value)
	case !counts(e):
		return api.ErrArg
	}
	shape, errno := described(e)
	if errno != api.OK || len(e.Value) == 0 {
		return errno
	}
	return checkValue(e, shape.Category == api.Numeric)
}

// named reports whether all names of an entry are names.
func named(e Entry) bool {
	foreign := func(name string) bool { return !isNameText(name) }
	return (e.Name == filler || isNameText(e.Name)) &&
		(e.Redefines == "" || isNameText(e.Redefines)) &&
		!slices.ContainsFunc(slices.Concat(e.Depends, e.First, e.Last), foreign)
}

// isNameText reports whether a text is a word of a source text, and not reserved.
func isNameText(s string) bool {
	l, fault := tokens.Source("           "+s, false)
	word := []api.Token{{Kind: api.Word, Text: s}}
	return fault == (api.Fault{}) && tokens.Same(l, word) && words.Of(s) == words.Name
}

// suits reports whether an entry has only clauses that its level may have, and those that it must have.
func suits(e Entry) bool {
	switch e.Level {
	case renaming:
		return len(e.First) > 0 && len(e.Value) == 0 && bare(e)
	case condition:
		return len(e.First) == 0 && len(e.Last) == 0 && len(e.Value) > 0 && bare(e) && e.Name != filler
	case 1, single:
		return len(e.First) == 0 && len(e.Last) == 0 && e.Occurs == 0
	}
	return len(e.First) == 0 && len(e.Last) == 0
}

// bare reports whether an entry has nothing but a level, a name, values, and what it renames.
func bare(e Entry) bool {
	return e.Redefines == "" && unshaped(e) && e.Picture == "" && e.Occurs == 0 && e.Least == 0 && len(e.Depends) == 0
}

// unshaped reports whether an entry has nothing that only an entry with a picture may have.
func unshaped(e Entry) bool {
	return e.Usage == api.Display && !e.HasUsage && !e.HasSign && !e.Leading && !e.Separate && !e.Just && !e.Blank
}

// counts reports whether the numbers of occurrences of an entry are right.
func counts(e Entry) bool {
	switch {
	case e.Occurs < 0 || e.Occurs > api.MaxOccurs:
		return false
	case len(e.Depends) == 0:
		return e.Least == 0
	}
	return 0 <= e.Least && e.Least < e.Occurs
}

// described returns the shape of the picture of an entry, the zero one if it has none, and the error of the clauses that describe the item.
func described(e Entry) (api.Shape, api.Errno) {
	if e.Picture == "" {
		if !unshaped(e) {
			return api.Shape{}, api.ErrKind
		}
		return api.Shape{}, api.OK
	}
	shape, errno := pictures.Parse(e.Picture)
	if errno == api.OK && !allows(shape, e) {
		errno = api.ErrKind
	}
	return shape, errno
}

// allows reports whether a picture may stand beside the other clauses of an entry.
func allows(shape api.Shape, e Entry) bool {
	numeric := shape.Category == api.Numeric
	switch {
	case e.Usage > api.Binary:
		return false
	case e.Usage != api.Display && (!e.HasUsage || !numeric):
		return false
	case (e.Leading || e.Separate) && !e.HasSign:
		return false
	case e.HasSign && (!numeric || !shape.Signed || e.Usage != api.Display):
		return false
	case e.Just && shape.Category != api.Alphabetic && shape.Category != api.Alphanumeric:
		return false
	}
	return !e.Blank || shape.Category == api.Edited
}

// checkValue returns the error of the value of an item.
func checkValue(e Entry, numeric bool) api.Errno {
	behind, errno := checkLiteral(e.Value)
	last := e.Value[len(e.Value)-1]
	switch {
	case e.Redefines != "" || len(behind) > 0:
		return api.ErrKind
	case errno != api.OK:
		return errno
	case numeric && last.Kind != api.Number && !isZero(last):
		return api.ErrKind
	case !numeric && last.Kind == api.Number:
		return api.ErrKind
	}
	return api.OK
}

// checkValues returns the error of the values of a condition.
func checkValues(l []api.Token) api.Errno {
	for len(l) > 0 {
		behind, errno := checkLiteral(l)
		if errno == api.OK && len(behind) > 0 && isWord(thru)(behind[0]) {
			behind, errno = checkLiteral(behind[1:])
		}
		if errno != api.OK {
			return errno
		}
		l = behind
	}
	return api.OK
}

// checkLiteral returns the tokens behind the literal with which tokens begin, and the error of the literal.
func checkLiteral(l []api.Token) ([]api.Token, api.Errno) {
	fits := isLiteral
	if len(l) > 0 && isWord(all)(l[0]) {
		l, fits = l[1:], isQuote
	}
	if len(l) == 0 || !fits(l[0]) {
		return nil, api.ErrKind
	}
	_, e := words.Literal(l[0])
	return l[1:], e
}
