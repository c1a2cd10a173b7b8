package entries

import (
	"slices"

	"columnseven/api"
	"columnseven/words"
)

// The words that belong to the values of an entry.
const (
	all  = "ALL"
	thru = "THRU"
)

// isWord returns a function that reports whether a token is one of some words.
func isWord(texts ...string) func(t api.Token) bool {
	return func(t api.Token) bool { return t.Kind == api.Word && slices.Contains(texts, t.Text) }
}

func isReserved(t api.Token) bool { return t.Kind == api.Word && words.Of(t.Text) != words.Name }

// isName reports whether a token is a word that is not reserved.
// Of a word that no source text has, Check tells that it is no name.
func isName(t api.Token) bool { return t.Kind == api.Word && t.Text != "" && !isReserved(t) }

func isPicture(t api.Token) bool { return t.Kind == api.Picture && t.Text != "" }

func isPeriod(t api.Token) bool { return t.Kind == api.Period }

func isQuote(t api.Token) bool { return t.Kind == api.Quote }

func isFigurative(t api.Token) bool {
	return t.Kind == api.Word && words.Of(t.Text) == words.Figurative
}

func isZero(t api.Token) bool {
	b, is := words.Byte(t.Text)
	return t.Kind == api.Word && is && b == '0'
}

// isLiteral reports whether a token is a literal by itself.
func isLiteral(t api.Token) bool { return t.Kind == api.Number || isQuote(t) || isFigurative(t) }

func beginsLiteral(t api.Token) bool { return isLiteral(t) || isWord(all)(t) }
