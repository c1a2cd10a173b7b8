package entries

import (
	"strconv"
	"strings"

	"columnseven/api"
	"columnseven/tokens"
)

// Text formats an entry.
func Text(e Entry) string {
	parts := []string{twoDigits(e.Level), e.Name}
	add := func(there bool, texts ...string) {
		if there {
			parts = append(parts, texts...)
		}
	}
	depends, renames := len(e.Depends) > 0, len(e.First) > 0
	add(e.Redefines != "", "REDEFINES", e.Redefines)
	add(e.Picture != "", "PIC", e.Picture)
	add(e.HasUsage, "USAGE", usageWord(e.Usage))
	add(e.HasSign && e.Leading, "SIGN", "LEADING")
	add(e.HasSign && !e.Leading, "SIGN", "TRAILING")
	add(e.HasSign && e.Separate, "SEPARATE")
	add(depends || e.Occurs != 0, "OCCURS")
	add(depends, strconv.Itoa(e.Least), "TO")
	add(depends || e.Occurs != 0, strconv.Itoa(e.Occurs))
	add(depends, "DEPENDING", "ON", qualified(e.Depends))
	add(e.Just, "JUSTIFIED")
	add(e.Blank, "BLANK", "ZERO")
	add(len(e.Value) > 0, "VALUE", tokens.Text(e.Value))
	add(renames, "RENAMES", qualified(e.First))
	add(renames && len(e.Last) > 0, "THRU", qualified(e.Last))
	add(true, ".")
	return strings.Join(parts, " ")
}

// twoDigits formats a level.
func twoDigits(level int) string {
	text := strconv.Itoa(level)
	if len(text) < 2 {
		return "0" + text
	}
	return text
}

// usageWord returns the word for a usage.
func usageWord(u api.Usage) string {
	switch u {
	case api.Display:
		return "DISPLAY"
	case api.Packed:
		return "COMP-3"
	}
	return "COMP"
}

// qualified formats a name with those that qualify it.
func qualified(names []string) string { return strings.Join(names, " OF ") }
