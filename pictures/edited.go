package pictures

import (
	"slices"
	"strings"

	"columnseven/api"
)

// edited returns the shape of a picture of an edited number.
func edited(s string) (api.Shape, bool) {
	o := outline{rest: bare(s)}
	fits := o.read() && o.signs <= 1 && o.digits > 0
	if !fits || strings.HasPrefix(s, ",") || strings.HasSuffix(s, ",") {
		return api.Shape{}, false
	}
	size := len(s) - strings.Count(s, "V")
	return api.Shape{Category: api.Edited, Digits: o.digits, Scale: o.scale, Signed: o.signs > 0, Size: size}, true
}

// bare returns a picture without its insertion symbols.
func bare(s string) []byte {
	front, debit := strings.CutSuffix(s, "DB")
	insertion := func(b byte) bool { return find(b).insertion }
	b := slices.DeleteFunc([]byte(front), insertion)
	if debit {
		b = append(b, "DB"...)
	}
	return b
}

// An outline is what the parts of an edited picture tell that were read so far.
type outline struct {
	rest   []byte // what is still to be read
	signs  int    // signs, tails and floating strings of + or -
	digits int
	scale  int
}

// read reads all parts, and reports whether the picture has nothing but them.
func (o *outline) read() bool {
	_, o.signs = o.take("+-", 1, 1)
	o.take("$", 1, 1)
	if !o.fraction(o.whole()) {
		return false
	}
	o.tail()
	return len(o.rest) == 0
}

// take reads the equal symbols with which the rest begins, if they are of one of some kinds, and neither too few nor too many.
func (o *outline) take(kinds string, least, most int) (symbol string, n int) {
	if len(o.rest) == 0 || strings.IndexByte(kinds, o.rest[0]) < 0 {
		return "", 0
	}
	symbol, n = string(o.rest[:1]), leading(o.rest, equal(o.rest[0]))
	if n < least || n > most {
		return "", 0
	}
	o.rest = o.rest[n:]
	return symbol, n
}

// whole reads the whole part, and returns the symbols of one of which the fraction may consist.
func (o *outline) whole() string {
	first, n := o.take("Z*", 1, api.MaxPicture)
	o.digits += n
	if n == 0 {
		first = o.floating()
	}
	_, n = o.take("9", 1, api.MaxPicture)
	o.digits += n
	switch {
	case n > 0:
		return "9"
	case first == "":
		return "9Z*"
	}
	return "9" + first
}

// floating reads a floating string, and returns its symbol. The first symbol of the string is not a digit.
func (o *outline) floating() string {
	symbol, n := o.take("$+-", 2, api.MaxPicture)
	if n == 0 {
		return ""
	}
	o.digits += n - 1
	if symbol != "$" {
		o.signs++
	}
	return symbol
}

// fraction reads the point and the fraction, and reports whether the fraction is there if it must be.
func (o *outline) fraction(kinds string) bool {
	point, n := o.take(".V", 1, 1)
	if n == 0 {
		return true
	}
	_, o.scale = o.take(kinds, 1, api.MaxPicture)
	o.digits += o.scale
	return o.scale > 0 || point == "V"
}

// tail reads the sign behind the digits.
func (o *outline) tail() {
	_, n := o.take("+-", 1, 1)
	if tail := string(o.rest); n == 0 && (tail == "CR" || tail == "DB") {
		o.rest, n = nil, 1
	}
	o.signs += n
}
