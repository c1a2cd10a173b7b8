package columns

import (
	"slices"
	"strings"

	"columnseven/api"
	"columnseven/chars"
)

// Read returns the logical lines of a source text; debug tells whether debugging lines count.
func Read(text string, debug bool) ([]Card, api.Fault) {
	if len(text) > api.MaxText {
		return nil, api.Fault{E: api.ErrLimit}
	}
	var r reader
	var fault api.Fault
	number := 0
lines:
	for line := range strings.Lines(text) {
		number++
		l := row{number: number, text: strings.TrimSuffix(line, "\n")}
		fault = l.check()
		switch {
		case fault != (api.Fault{}):
			break lines
		case l.ignored(debug):
			continue lines
		}
		if fault = r.read(l); fault != (api.Fault{}) {
			break lines
		}
	}
	if fault == (api.Fault{}) {
		fault = r.finish()
	}
	if fault != (api.Fault{}) {
		return nil, fault
	}
	return slices.Clip(r.cards), api.Fault{}
}

// row is a line of a source text.
type row struct {
	number int
	text   string // without the byte 10
}

func (l row) fault(e api.Errno, column int) api.Fault {
	return api.Fault{E: e, At: api.Pos{Line: l.number, Column: column}}
}

// check returns the first fault that a line has whatever stands before it.
func (l row) check() api.Fault {
	if len(l.text) > api.MaxLine {
		return l.fault(api.ErrWidth, api.MaxLine+1)
	}
	for i := range len(l.text) {
		if !chars.Printable(l.text[i : i+1]) {
			return l.fault(api.ErrForm, i+1)
		}
	}
	if strings.IndexByte(" -*/Dd", l.indicator()) < 0 {
		return l.fault(api.ErrForm, indicatorColumn)
	}
	return api.Fault{}
}

func (l row) indicator() byte {
	if len(l.text) < indicatorColumn {
		return ' '
	}
	return l.text[indicatorColumn-1]
}

func (l row) ignored(debug bool) bool {
	switch l.indicator() {
	case '*', '/':
		return true
	case 'D', 'd':
		return !debug || l.first() == 0
	}
	return l.first() == 0
}

// end returns the last column of a line that belongs to its text.
func (l row) end() int { return min(len(l.text), lastColumn) }

// first returns the column of the first character of a line that is not a space, or 0 if the line is blank.
func (l row) first() int {
	for column := areaA; column <= l.end(); column++ {
		if l.text[column-1] != ' ' {
			return column
		}
	}
	return 0
}

// reader keeps the cards so far, of which the last one may be continued.
type reader struct {
	cards []Card
	// The text of the last card is kept apart, because its parts may be many.
	text  strings.Builder
	count func(part string) bool // counts the quotes of the last card
	open  bool                   // the text of the last card is open
	last  api.Pos                // where the part begins that was added last
}

// read adds a line that is not ignored.
func (r *reader) read(l row) api.Fault {
	if l.indicator() == '-' {
		return r.extend(l)
	}
	return r.begin(l)
}

// begin begins a card.
func (r *reader) begin(l row) api.Fault {
	if fault := r.finish(); fault != (api.Fault{}) {
		return fault
	}
	first := l.first()
	r.cards = append(r.cards, Card{Left: first < areaB})
	r.count = quotes(false)
	r.add(l, first)
	return api.Fault{}
}

// extend continues the last card.
func (r *reader) extend(l row) api.Fault {
	first := l.first()
	switch {
	case len(r.cards) == 0:
		return l.fault(api.ErrState, indicatorColumn)
	case first < areaB || r.open && l.text[first-1] != '"':
		return l.fault(api.ErrForm, first)
	case r.open:
		// This quote only resumes the literal: it does not count.
		first++
	}
	r.add(l, first)
	return api.Fault{}
}

// add adds to the last card the part of a line that begins in a column.
func (r *reader) add(l row, column int) {
	part := l.text[column-1 : l.end()]
	if r.open = r.count(part); r.open {
		part += strings.Repeat(" ", lastColumn-l.end())
	} else {
		part = strings.TrimRight(part, " ")
	}
	r.last = api.Pos{Line: l.number, Column: column}
	if part != "" {
		card := &r.cards[len(r.cards)-1]
		card.Marks = append(card.Marks, Mark{From: r.text.Len(), At: r.last})
	}
	r.text.WriteString(part)
}

// finish ends the last card, if there is one.
func (r *reader) finish() api.Fault {
	if r.open {
		return api.Fault{E: api.ErrForm, At: r.last}
	}
	if len(r.cards) > 0 {
		card := &r.cards[len(r.cards)-1]
		card.Text = r.text.String()
		card.Marks = slices.Clip(card.Marks)
		r.text.Reset()
	}
	return api.Fault{}
}
