package words

import (
	"slices"
	"strings"

	"columnseven/api"
	"columnseven/chars"
)

// Literal returns the field of a literal or a figurative constant.
func Literal(t api.Token) (api.Field, api.Errno) {
	switch t.Kind {
	case api.Number:
		return number(t.Text)
	case api.Quote:
		return text(t.Text)
	case api.Word:
		return figurative(t.Text)
	}
	return api.Field{}, api.ErrKind
}

// number returns the field of a number.
func number(s string) (api.Field, api.Errno) {
	sign, unsigned := "", s
	if strings.HasPrefix(s, "+") || strings.HasPrefix(s, "-") {
		sign, unsigned = s[:1], s[1:]
	}
	front, behind, divided := strings.Cut(unsigned, ".")
	digits := front + behind
	if !chars.IsDigits(digits) || divided && behind == "" {
		return api.Field{}, api.ErrForm
	}
	if len(digits) > api.MaxDigits {
		return api.Field{}, api.ErrWidth
	}
	picture := strings.Repeat("9", len(front))
	if divided {
		picture += "V" + strings.Repeat("9", len(behind))
	}
	if sign != "" {
		picture = "S" + picture
	}
	shape := api.Shape{
		Category: api.Numeric,
		Picture:  picture,
		Digits:   len(digits),
		Scale:    len(behind),
		Signed:   sign != "",
		Size:     len(digits),
	}
	return api.Field{Shape: shape, Bytes: zoned(digits, sign)}, api.OK
}

// zoned returns digits as bytes, of which the last one carries the sign, if there is one.
func zoned(digits, sign string) []byte {
	zones := map[string]string{"": "0123456789", "+": "{ABCDEFGHI", "-": "}JKLMNOPQR"}
	b := slices.Clip([]byte(digits))
	last := &b[len(b)-1]
	*last = zones[sign][*last-'0']
	return b
}

// text returns the field of an alphanumeric literal.
func text(s string) (api.Field, api.Errno) {
	if s == "" || len(s) > api.MaxPicture {
		return api.Field{}, api.ErrWidth
	}
	shape := api.Shape{Category: api.Alphanumeric, Picture: strings.Repeat("X", len(s)), Size: len(s)}
	return api.Field{Shape: shape, Bytes: slices.Clip([]byte(s))}, api.OK
}

// figurative returns the field of a figurative constant.
func figurative(s string) (api.Field, api.Errno) {
	b, is := Byte(s)
	switch {
	case !is:
		return api.Field{}, api.ErrWord
	case b == '0':
		return number("0")
	}
	return text(string([]byte{b}))
}
