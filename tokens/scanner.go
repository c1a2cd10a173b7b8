package tokens

import (
	"strings"

	"columnseven/api"
	"columnseven/chars"
	"columnseven/columns"
)

// areaB is the first column behind area A.
const areaB = 12

const (
	period = "."
	pseudo = "=="
)

// The characters of which numbers and words consist.
const (
	digits  = "0123456789"
	letters = "ABCDEFGHIJKLMNOPQRSTUVWXYZabcdefghijklmnopqrstuvwxyz"
	inWords = digits + letters + "-"
)

// notLast are the characters that do not belong to a picture if they stand at its end.
const notLast = ".,;"

// scanner reads the tokens of one card after the other.
type scanner struct {
	columns.Card     // the card that is being read
	at           int // how much of its text has been read
	mark         int // the index of the mark that tells where this place is
	// Those of earlier cards stay here, because a picture may be announced by the card before.
	tokens []api.Token
}

// read adds the tokens of a card.
func (s *scanner) read(card columns.Card) api.Fault {
	s.Card, s.at, s.mark = card, 0, 0
	if _, e := columns.At(s.Card, 0); e != api.OK {
		return api.Fault{E: e}
	}
	for s.skip(); s.at < len(s.Text); s.skip() {
		next, size, e := s.next()
		if e == api.OK && len(s.tokens) == api.MaxTokens {
			e = api.ErrLimit
		}
		next.At = s.position()
		if e != api.OK {
			return api.Fault{E: e, At: next.At}
		}
		next.Left = next.At.Column < areaB
		s.tokens = append(s.tokens, next)
		s.at += size
	}
	return api.Fault{}
}

// position returns where the next character stands.
// It goes on from the mark of the token before, because columns.At looks at all marks each time, which may be many.
func (s *scanner) position() api.Pos {
	for s.mark+1 < len(s.Marks) && s.Marks[s.mark+1].From <= s.at {
		s.mark++
	}
	mark := s.Marks[s.mark]
	return api.Pos{Line: mark.At.Line, Column: mark.At.Column + s.at - mark.From}
}

// skip skips what separates tokens.
func (s *scanner) skip() {
separators:
	for ; s.at < len(s.Text); s.at++ {
		switch s.Text[s.at] {
		case ' ':
		case ',', ';':
			if !s.ends(s.at+1) || s.atPicture() {
				break separators
			}
		default:
			break separators
		}
	}
}

// ends reports whether there is a space at an index of the text, or its end.
func (s *scanner) ends(i int) bool { return i == len(s.Text) || s.Text[i] == ' ' }

// separated reports whether a sign may belong to a number here.
func (s *scanner) separated() bool {
	return s.at == 0 || s.Text[s.at-1] == ' ' || s.Text[s.at-1] == '('
}

// atPicture reports whether a picture begins here.
func (s *scanner) atPicture() bool {
	rest := s.Text[s.at:]
	switch {
	case strings.HasPrefix(rest, pseudo):
		return false
	case s.announces(1):
		return chars.Fold(rest[:length(rest, inWords)]) != "IS"
	}
	return s.before(1) == "IS" && s.announces(2)
}

// announces reports whether the nth token before this place is one behind which a picture stands.
func (s *scanner) announces(n int) bool {
	word := s.before(n)
	return word == "PIC" || word == "PICTURE"
}

// before returns the text of the nth token before this place, if that is a word.
func (s *scanner) before(n int) string {
	if n > len(s.tokens) || s.tokens[len(s.tokens)-n].Kind != api.Word {
		return ""
	}
	return s.tokens[len(s.tokens)-n].Text
}

// next returns the token that begins here, without its position, and how long it is in the text.
func (s *scanner) next() (api.Token, int, api.Errno) {
	rest := s.Text[s.at:]
	switch {
	case s.atPicture():
		return picture(rest)
	case rest[0] == '"':
		return quote(rest)
	case strings.HasPrefix(rest, period) && s.ends(s.at+1):
		return token(api.Period, period)
	case strings.HasPrefix(rest, pseudo):
		return token(api.Pseudo, pseudo)
	}
	if n := numberLength(rest, s.separated()); n > 0 {
		return number(rest[:n], rest[n:])
	}
	if n := length(rest, inWords); n > 0 && rest[0] != '-' {
		return word(chars.Fold(rest[:n]))
	}
	return sign(rest)
}

// length returns how many characters at the beginning of a text are in a set.
func length(text, set string) int { return len(text) - len(strings.TrimLeft(text, set)) }

// token returns a token that stands in the text as it is, apart from the case of its letters.
func token(kind api.Kind, text string) (api.Token, int, api.Errno) {
	return api.Token{Kind: kind, Text: text}, len(text), api.OK
}

// refuse returns no token.
func refuse(e api.Errno) (api.Token, int, api.Errno) { return api.Token{}, 0, e }

// picture reads the picture with which a text begins.
func picture(text string) (api.Token, int, api.Errno) {
	found, _, _ := strings.Cut(text, " ")
	if strings.IndexByte(notLast, found[len(found)-1]) >= 0 {
		found = found[:len(found)-1]
	}
	if found == "" || strings.IndexByte(notLast, found[len(found)-1]) >= 0 || strings.Contains(found, `"`) {
		return refuse(api.ErrForm)
	}
	return token(api.Picture, chars.Fold(found))
}

// quote reads the literal with which a text begins.
func quote(text string) (api.Token, int, api.Errno) {
	for end := 1; end < len(text); end++ {
		switch {
		case text[end] != '"':
		case strings.HasPrefix(text[end+1:], `"`):
			end++
		case end == 1:
			return refuse(api.ErrForm)
		default:
			return api.Token{Kind: api.Quote, Text: strings.ReplaceAll(text[1:end], `""`, `"`)}, end + 1, api.OK
		}
	}
	return refuse(api.ErrForm)
}

// numberLength returns how long the number is with which a text begins, or 0 if it begins with none.
func numberLength(text string, separated bool) int {
	first := 0
	if separated && (text[0] == '+' || text[0] == '-') {
		first = 1
	}
	point := first + length(text[first:], digits)
	if first == 0 && length(text[point:], inWords) > 0 {
		return 0 // it is a word
	}
	fraction := 0
	if strings.HasPrefix(text[point:], period) {
		fraction = length(text[point+1:], digits)
	}
	switch {
	case fraction > 0:
		return point + 1 + fraction
	case point > first:
		return point
	}
	return 0
}

// number returns a number, if what is behind it allows that.
func number(text, behind string) (api.Token, int, api.Errno) {
	switch {
	case length(behind, inWords) > 0:
		return refuse(api.ErrForm)
	case len(strings.TrimLeft(text, "+-"))-strings.Count(text, period) > api.MaxDigits:
		return refuse(api.ErrWidth)
	}
	return token(api.Number, text)
}

// word returns a word in capital letters, if it is a name.
// Its form is looked at here, because a word that is malformed and too long is malformed first of all.
func word(text string) (api.Token, int, api.Errno) {
	switch {
	case strings.HasSuffix(text, "-") || !strings.ContainsAny(text, letters):
		return refuse(api.ErrForm)
	case len(text) > api.MaxName:
		return refuse(api.ErrWidth)
	}
	return token(api.Word, text)
}

// sign reads the longest sign with which a text begins.
func sign(text string) (api.Token, int, api.Errno) {
	for _, two := range []string{"**", "<=", ">=", "<>"} {
		if strings.HasPrefix(text, two) {
			return token(api.Sign, two)
		}
	}
	if strings.IndexByte("():+-*/=<>", text[0]) < 0 {
		return refuse(api.ErrForm)
	}
	return token(api.Sign, text[:1])
}
