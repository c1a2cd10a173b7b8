package columns

import (
	"iter"
	"strconv"
	"strings"

	"columnseven/api"
	"columnseven/chars"
)

// What stands in an output line from its indicator on, in front of the text.
const (
	frontA      = " "
	frontB      = "     "
	frontMore   = "-    "
	frontQuoted = `-    "`
)

// numbers is the count of line numbers, all of which have the same length.
const numbers = 1000000

// Write lays out lines in columns.
func Write(l []Line) (string, api.Errno) {
	for _, line := range l {
		if !writable(line.Text) {
			return "", api.ErrArg
		}
	}
	var out strings.Builder
	number := 0
	for _, line := range l {
		for front, piece := range divide(line) {
			number++
			out.WriteString(digits(number) + front + piece + "\n")
			// Texts may be much longer than the limit: the others are not laid out in vain.
			if out.Len() > api.MaxText {
				return "", api.ErrLimit
			}
		}
	}
	return out.String(), api.OK
}

// writable reports whether Read could return a text.
func writable(text string) bool {
	if text == "" || text[0] == ' ' || text[len(text)-1] == ' ' {
		return false
	}
	return chars.Printable(text) && !quotes(false)(text)
}

// digits returns the number of a line as it stands in columns 1 to 6.
func digits(number int) string {
	return strconv.Itoa(numbers + number%numbers)[1:]
}

// divide yields the pieces of a text that stand in one output line each, and what stands in front of them.
func divide(l Line) iter.Seq2[string, string] {
	return func(yield func(front, piece string) bool) {
		front, rest, open := frontB, l.Text, false
		if l.Left {
			front = frontA
		}
		room := lastColumn - indicatorColumn + 1 - len(front)
		for len(rest) > room {
			end := division(rest, room, open)
			if !yield(front, rest[:end]) {
				return
			}
			open = quotes(open)(rest[:end])
			front, rest = follow(rest[end:], open)
			room = lastColumn - indicatorColumn + 1 - len(front)
		}
		yield(front, rest)
	}
}

// division returns how much of a rest that is longer than its room stands in the line:
// up to the last space outside of quotes, or as much as there is room for.
func division(rest string, room int, open bool) int {
	count := quotes(open)
	end := 0
	for i := range room + 1 {
		if inside := count(rest[i : i+1]); rest[i] == ' ' && !inside {
			end = i
		}
	}
	if end == 0 {
		return room
	}
	return end
}

// follow returns what stands in front of the rest in the next line, and the rest as it follows there.
func follow(rest string, open bool) (string, string) {
	switch {
	case open:
		return frontQuoted, rest
	case rest[0] == ' ':
		return frontB, strings.TrimLeft(rest, " ")
	}
	return frontMore, rest
}
