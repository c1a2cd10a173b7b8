package pictures

import (
	"strings"

	"columnseven/api"
)

// Size returns the number of bytes of an item with a shape.
func Size(s api.Shape) (int, api.Errno) {
	switch {
	case s.Category > api.Edited || s.Usage > api.Binary:
		return 0, api.ErrKind
	case s.Category == api.Numeric:
		return numberSize(s)
	case s.Category != api.Group:
		return len(s.Picture) - strings.Count(s.Picture, "V"), api.OK
	case s.Size < 0 || s.Size > api.MaxStore:
		return 0, api.ErrArg
	}
	return s.Size, api.OK
}

// numberSize returns the number of bytes of a number that is not edited.
func numberSize(s api.Shape) (int, api.Errno) {
	switch {
	case s.Digits < 1 || s.Digits > api.MaxDigits:
		return 0, api.ErrArg
	case s.Usage == api.Packed:
		return s.Digits/2 + 1, api.OK
	case s.Usage == api.Binary:
		return binarySize(s.Digits), api.OK
	case s.Separate:
		return s.Digits + 1, api.OK
	}
	return s.Digits, api.OK
}

// binarySize returns the number of bytes of a binary number.
func binarySize(digits int) int {
	switch {
	case digits <= 4:
		return 2
	case digits <= 9:
		return 4
	}
	return 8
}

// Check returns the error of a shape.
func Check(s api.Shape) api.Errno {
	size, e := Size(s)
	switch {
	case e != api.OK:
		return e
	case s == api.Shape{Size: s.Size}:
		return api.OK
	case s.Category == api.Group:
		return api.ErrArg
	}
	described, e := Parse(s.Picture)
	switch {
	case e != api.OK:
		return e
	case s.Picture != described.Picture:
		return api.ErrForm
	case !sameNumber(s, described):
		return api.ErrArg
	case !suits(s):
		return api.ErrKind
	case s.Size != size:
		return api.ErrWidth
	}
	return api.OK
}

// sameNumber reports whether two shapes are of the same category and of numbers of the same form.
func sameNumber(a, b api.Shape) bool {
	return a.Category == b.Category && a.Digits == b.Digits && a.Scale == b.Scale && a.Signed == b.Signed
}

// suits reports whether the category of a shape may have its usage, sign and clauses.
func suits(s api.Shape) bool {
	switch {
	case s.Usage != api.Display && s.Category != api.Numeric:
		return false
	case (s.Leading || s.Separate) && (s.Category != api.Numeric || !s.Signed || s.Usage != api.Display):
		return false
	case s.Just && s.Category != api.Alphabetic && s.Category != api.Alphanumeric:
		return false
	}
	return !s.Blank || s.Category == api.Edited
}
