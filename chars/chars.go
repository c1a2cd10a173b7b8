// Package chars classifies, compares and fits characters (layer 1). See shared/doc/01-chars.md.
package chars

import (
	"cmp"

	"columnseven/api"
)

const space = ' '

// last returns the index of the last byte of a text that has a property, or -1 if none has it.
// Its texts are strings and bytes alike, so that neither is copied for a search.
func last[T string | []byte](text T, has func(c byte) bool) int {
	for i := len(text) - 1; i >= 0; i-- {
		if has(text[i]) {
			return i
		}
	}
	return -1
}

func isDigit(c byte) bool { return '0' <= c && c <= '9' }

func isCapital(c byte) bool { return 'A' <= c && c <= 'Z' }

// IsDigits reports whether a text consists of one digit or more.
func IsDigits(s string) bool {
	return s != "" && last(s, func(c byte) bool { return !isDigit(c) }) < 0
}

// IsName reports whether a text is a name.
func IsName(s string) bool {
	if s == "" || len(s) > api.MaxName || s[0] == '-' || s[len(s)-1] == '-' {
		return false
	}
	foreign := func(c byte) bool { return !isDigit(c) && !isCapital(c) && c != '-' }
	return last(s, foreign) < 0 && last(s, isCapital) >= 0
}

// Printable reports whether all bytes of a text are printable.
func Printable(s string) bool {
	return last(s, func(c byte) bool { return c < ' ' || c > '~' }) < 0
}

// Fold returns a text with capital letters. It goes by bytes, because texts need not be valid UTF-8.
func Fold(s string) string {
	b := []byte(s)
	for i, c := range b {
		if 'a' <= c && c <= 'z' {
			b[i] = c - 'a' + 'A'
		}
	}
	return string(b)
}

// Compare compares two texts, the shorter one padded with spaces.
func Compare(a, b []byte) int {
	padded := func(text []byte, i int) byte {
		if i < len(text) {
			return text[i]
		}
		return space
	}
	for i := range max(len(a), len(b)) {
		if order := cmp.Compare(padded(a, i), padded(b, i)); order != 0 {
			return order
		}
	}
	return 0
}

// Fill returns n bytes that repeat a text.
func Fill(b []byte, n int) ([]byte, api.Errno) {
	switch {
	case n < 0:
		return nil, api.ErrArg
	case n > api.MaxStore:
		return nil, api.ErrLimit
	case len(b) == 0 && n != 0:
		return nil, api.ErrWidth
	}
	filled := make([]byte, n)
	for i := range n {
		filled[i] = b[i%len(b)]
	}
	return filled, api.OK
}

// Fit returns a text with n bytes: cut off, or padded with spaces, on the right, or on the left.
func Fit(b []byte, n int, left bool) ([]byte, api.Errno) {
	// A filling of spaces is never too narrow, so that its errors are those of n alone.
	fitted, e := Fill([]byte{space}, n)
	if e != api.OK {
		return nil, e
	}
	if left {
		copy(fitted[max(0, n-len(b)):], b[max(0, len(b)-n):])
	} else {
		copy(fitted, b)
	}
	return fitted, api.OK
}

// Trim returns a text without the spaces at its end.
func Trim(b []byte) []byte {
	end := 1 + last(b, func(c byte) bool { return c != space })
	trimmed := make([]byte, end)
	copy(trimmed, b)
	return trimmed
}
