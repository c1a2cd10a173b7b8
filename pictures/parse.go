package pictures

import (
	"slices"
	"strings"

	"columnseven/api"
)

// Parse returns the shape that a picture describes, for the usage Display.
func Parse(s string) (api.Shape, api.Errno) {
	picture, e := Expand(s)
	if e != api.OK {
		return api.Shape{}, e
	}
	shape, is := text(picture)
	if !is {
		shape, is = numeric(picture)
	}
	if !is {
		shape, is = edited(picture)
	}
	switch {
	case !is:
		return api.Shape{}, api.ErrForm
	case shape.Digits+strings.Count(picture, "P") > api.MaxDigits:
		return api.Shape{}, api.ErrLimit
	}
	shape.Picture = picture
	return shape, api.OK
}

// text returns the shape of a picture of text.
func text(s string) (api.Shape, bool) {
	last := api.Group
	ofText := func(b byte) bool {
		category := find(b).text
		last = max(last, category)
		return category != api.Group
	}
	if leading([]byte(s), ofText) < len(s) || !strings.ContainsAny(s, "AX") {
		return api.Shape{}, false
	}
	return api.Shape{Category: last, Size: len(s)}, true
}

// numeric returns the shape of a picture of a number that is not edited.
func numeric(s string) (api.Shape, bool) {
	unsigned, signed := strings.CutPrefix(s, "S")
	forms := []string{"99#", "99#V9#", "V99#", "VPP#99#", "PP#99#", "99#PP#", "99#PP#V"}
	if !slices.ContainsFunc(forms, func(form string) bool { return has(unsigned, form) }) {
		return api.Shape{}, false
	}
	digits := strings.Count(s, "9")
	return api.Shape{Category: api.Numeric, Digits: digits, Scale: scale(unsigned, digits), Signed: signed, Size: digits}, true
}

// has reports whether a picture has a form, in which # stands for any number of the symbol before it, also none.
func has(s, form string) bool {
	rest := []byte(s)
	for form != "" {
		n := leading(rest, equal(form[0]))
		behind, repeated := strings.CutPrefix(form[1:], "#")
		switch {
		case repeated:
			rest = rest[n:]
		case n == 0:
			return false
		default:
			rest = rest[1:]
		}
		form = behind
	}
	return len(rest) == 0
}

// scale returns the digits behind the point of a number without a sign.
func scale(s string, digits int) int {
	scaled := strings.Count(s, "P")
	switch {
	case scaled == 0:
		_, fraction, _ := strings.Cut(s, "V")
		return len(fraction)
	case strings.HasSuffix(s, "9"):
		return digits + scaled
	}
	return -scaled
}
