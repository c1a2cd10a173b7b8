package entries

import (
	"slices"

	"columnseven/api"
)

// clause is a kind of clause.
type clause struct {
	name string                       // the same, whichever word it begins with
	read func(r *reader, pass passer) // reads it from its first word on
}

// clauses returns the clauses by the words with which they begin.
func clauses() map[string]clause {
	byWord := map[string]clause{}
	add := func(read func(r *reader, pass passer), firsts ...string) {
		for _, first := range firsts {
			byWord[first] = clause{name: firsts[0], read: read}
		}
	}
	add((*reader).redefines, "REDEFINES")
	add((*reader).picture, "PICTURE", "PIC")
	add((*reader).usage, "USAGE", "DISPLAY", "COMP-3", "COMPUTATIONAL-3", "PACKED-DECIMAL", "COMP", "COMPUTATIONAL", "BINARY")
	add((*reader).sign, "SIGN", "LEADING", "TRAILING")
	add((*reader).occurs, "OCCURS")
	add((*reader).justified, "JUSTIFIED", "JUST")
	add((*reader).blank, "BLANK")
	add((*reader).value, "VALUE", "VALUES")
	add((*reader).renames, "RENAMES")
	return byWord
}

func (r *reader) redefines(pass passer) {
	pass("REDEFINES")
	r.entry.Redefines = r.name()
}

func (r *reader) picture(pass passer) {
	pass("PICTURE", "PIC")
	pass("IS")
	r.entry.Picture = r.take(isPicture).Text
}

func (r *reader) usage(pass passer) {
	pass("USAGE")
	pass("IS") // it comes next only behind USAGE, because no clause begins with it
	r.entry.HasUsage = true
	switch {
	case pass("DISPLAY"):
		r.entry.Usage = api.Display
	case pass("COMP-3", "COMPUTATIONAL-3", "PACKED-DECIMAL"):
		r.entry.Usage = api.Packed
	default:
		r.take(isWord("COMP", "COMPUTATIONAL", "BINARY"))
		r.entry.Usage = api.Binary
	}
}

func (r *reader) sign(pass passer) {
	pass("SIGN")
	pass("IS") // only behind SIGN, too
	r.entry.HasSign = true
	r.entry.Leading = pass("LEADING")
	if !r.entry.Leading {
		r.take(isWord("TRAILING"))
	}
	r.entry.Separate = pass("SEPARATE")
	if r.entry.Separate {
		pass("CHARACTER")
	}
}

func (r *reader) occurs(pass passer) {
	const digits = 5
	pass("OCCURS")
	r.entry.Occurs = r.integer(digits)
	if pass("TO") {
		r.entry.Least = r.entry.Occurs
		r.entry.Occurs = r.integer(digits)
	}
	pass("TIMES")
	if pass("DEPENDING") {
		pass("ON")
		r.entry.Depends = r.names(pass)
	}
}

func (r *reader) justified(pass passer) {
	pass("JUSTIFIED", "JUST")
	pass("RIGHT")
	r.entry.Just = true
}

func (r *reader) blank(pass passer) {
	pass("BLANK")
	pass("WHEN")
	r.take(isZero)
	r.entry.Blank = true
}

func (r *reader) value(pass passer) {
	pass("VALUE", "VALUES")
	pass("IS", "ARE")
	l := r.literal(pass)
	if r.entry.Level == condition {
		l = append(l, r.through(pass)...)
		for r.sees(beginsLiteral) {
			l = append(l, r.literal(pass)...)
			l = append(l, r.through(pass)...)
		}
	}
	r.entry.Value = slices.Clip(l)
}

// literal reads a literal, and returns its tokens without their positions.
func (r *reader) literal(pass passer) []api.Token {
	var l []api.Token
	fits := isLiteral
	if pass(all) {
		l, fits = append(l, api.Token{Kind: api.Word, Text: all}), isQuote
	}
	t := r.take(fits)
	return append(l, api.Token{Kind: t.Kind, Text: t.Text})
}

// through reads the literal up to which values reach, and returns it behind the word THRU, or nothing if there is none.
func (r *reader) through(pass passer) []api.Token {
	if !pass(thru, "THROUGH") {
		return nil
	}
	return append([]api.Token{{Kind: api.Word, Text: thru}}, r.literal(pass)...)
}

func (r *reader) renames(pass passer) {
	pass("RENAMES")
	r.entry.First = r.names(pass)
	if pass(thru, "THROUGH") {
		r.entry.Last = r.names(pass)
	}
}
