package copies_test

import (
	"slices"
	"strconv"
	"strings"
	"testing"

	"columnseven/api"
	"columnseven/copies"
)

// P4.2: limits

// copyOf returns a COPY statement in a column of a line.
func copyOf(name string, line, column int) []api.Token {
	return []api.Token{
		{Kind: api.Word, Text: "COPY", At: api.Pos{Line: line, Column: column}},
		{Kind: api.Word, Text: name, At: api.Pos{Line: line, Column: column + 1}},
		{Kind: api.Period, Text: ".", At: api.Pos{Line: line, Column: column + 2}},
	}
}

// atName returns a fault at the name of the statement that copyOf returns.
func atName(e api.Errno, line, column int) api.Fault {
	return api.Fault{E: e, At: api.Pos{Line: line, Column: column + 1}}
}

// copiesOf returns n COPY statements in lines from 1 on.
func copiesOf(name string, n int) []api.Token {
	var l []api.Token
	for i := range n {
		l = append(l, copyOf(name, i+1, 8)...)
	}
	return l
}

// MaxCopy

// chain returns n members, M1 and so on, of which each copies the next one, and the last one has these tokens.
func chain(n int, last []api.Token) ([]copies.Member, []string) {
	var all []copies.Member
	var names []string
	for i := 1; i <= n; i++ {
		m := copies.Member{Name: "M" + strconv.Itoa(i), Tokens: copyOf("M"+strconv.Itoa(i+1), i+1, 8)}
		if i == n {
			m.Tokens = last
		}
		all = append(all, m)
		names = append(names, m.Name)
	}
	return all, names
}

func TestExpandNestedMembers(t *testing.T) {
	const most = api.MaxCopy
	x := list(50, "X")
	for n := 1; n <= most; n++ {
		all, names := chain(n, x)
		checkNames(t, copyOf("M1", 1, 8), all, x, names)
	}
	for n := most + 1; n <= most+3; n++ {
		all, _ := chain(n, x)
		checkFault(t, copyOf("M1", 1, 8), all, atName(api.ErrLimit, most+1, 8))
	}
	all, names := chain(most+1, x)
	checkNames(t, copyOf("M2", 1, 8), all, x, names[1:])
}

// Only members one inside the other count.
func TestExpandNestedMembersSideBySide(t *testing.T) {
	const most = api.MaxCopy
	last := list(50, "COPY E . COPY F . COPY E .")
	all, names := chain(most-1, last)
	all = append(all, members("E:1", "F:2")...)
	checkNames(t, copiesOf("M1", 3), all, list(1, "1 2 1 1 2 1 1 2 1"), append(names, "E", "F"))
	all, _ = chain(most, last)
	all = append(all, members("E:1", "F:2")...)
	checkFault(t, copyOf("M1", 1, 8), all, api.Fault{E: api.ErrLimit, At: last[1].At})
	checkFault(t, slices.Concat(copyOf("M2", 1, 8), copyOf("M1", 2, 8)), all, api.Fault{E: api.ErrLimit, At: last[1].At})
	// Replacements change nothing.
	all, _ = chain(most, list(50, "COPY E REPLACING 1 BY 2 ."))
	all = append(all, members("E:1")...)
	checkFault(t, copyOf("M1", 1, 8), all, api.Fault{E: api.ErrLimit, At: last[1].At})
}

// The other faults at the name come first.
func TestExpandNestedMembersFirstFault(t *testing.T) {
	for text, e := range map[string]api.Errno{"COPY ~NONE .": api.ErrNone, "COPY ~M1 .": api.ErrLoop, "COPY ~M8 .": api.ErrLoop, "COPY ~M9 .": api.ErrLimit, "COPY ~M9 . COPY NONE .": api.ErrLimit, "COPY M9 ~M9": api.ErrForm, "~COPY M9": api.ErrForm} {
		last, at := cut(50, text)
		all, _ := chain(api.MaxCopy, last)
		all = append(all, members("M9:COPY")...)
		checkFault(t, copyOf("M1", 1, 8), all, api.Fault{E: e, At: at})
	}
}

// MaxCopies

func TestExpandManyStatements(t *testing.T) {
	const most = copies.MaxCopies
	if most != 4096 {
		t.Error(most)
	}
	all := members("E:", "X:1", "N:COPY X . COPY E .")
	checkNames(t, copiesOf("X", most), all, slices.Repeat(list(3, "1"), most), []string{"X"})
	checkFault(t, copiesOf("X", most+1), all, atName(api.ErrLimit, most+1, 8))
	checkFault(t, copiesOf("E", most+2), all, atName(api.ErrLimit, most+1, 8))
	checkFault(t, slices.Concat(copiesOf("E", most), copyOf("N", 5000, 9)), all, atName(api.ErrLimit, 5000, 9))
	// Those in members count as well, those around them first.
	checkNames(t, slices.Concat(copiesOf("E", most-3), copyOf("N", 5000, 9)), all, list(3, "1"), []string{"E", "N", "X"})
	checkFault(t, slices.Concat(copiesOf("E", most-2), copyOf("N", 5000, 9)), all, api.Fault{E: api.ErrLimit, At: all[2].Tokens[4].At})
	checkFault(t, slices.Concat(copiesOf("E", most-1), copyOf("N", 5000, 9)), all, api.Fault{E: api.ErrLimit, At: all[2].Tokens[1].At})
	checkFault(t, slices.Concat(copiesOf("E", most-3), copyOf("N", 5000, 9), copyOf("E", 5001, 9)), all, atName(api.ErrLimit, 5001, 9))
	all = append(all, copies.Member{Name: "Z", Tokens: copiesOf("E", most-1)}, copies.Member{Name: "ZZ", Tokens: copiesOf("E", most)})
	checkNames(t, copyOf("Z", 5000, 9), all, nil, []string{"Z", "E"})
	checkFault(t, copyOf("ZZ", 5000, 9), all, atName(api.ErrLimit, most, 8))
	checkFault(t, slices.Concat(copyOf("E", 5000, 9), copyOf("Z", 5001, 9)), all, atName(api.ErrLimit, most-1, 8))
}

func TestExpandManyStatementsFirstFault(t *testing.T) {
	const most = copies.MaxCopies
	all := members("E:", "B:COPY")
	for text, e := range map[string]api.Errno{"COPY ~NONE .": api.ErrNone, "COPY ~E . COPY": api.ErrLimit, "COPY ~B .": api.ErrLimit, "COPY E ~E": api.ErrForm, "~COPY E": api.ErrForm} {
		l, at := cut(5000, text)
		checkFault(t, append(copiesOf("E", most), l...), all, api.Fault{E: e, At: at})
	}
	l, at := cut(5000, "COPY ~L .")
	checkFault(t, copyOf("L", 1, 8), append(all, copies.Member{Name: "L", Tokens: append(copiesOf("E", most-1), l...)}), api.Fault{E: api.ErrLoop, At: at})
}

// MaxTokens

// checkLimit fails unless a list has this many tokens with a member of words X, or, if that is negative,
// has the fault ErrLimit at the name in its first COPY statement, which stands behind words A and before words B.
func checkLimit(t *testing.T, before int, text string, behind, size, want int) {
	t.Helper()
	statements, at := cut(1, strings.Replace(text, "COPY ", "COPY ~", 1))
	l := slices.Concat(word("A", before), statements, word("B", behind))
	all := []copies.Member{{Name: "M", Tokens: word("X", size)}, {Name: "E"}}
	if want < 0 {
		checkFault(t, l, all, api.Fault{E: api.ErrLimit, At: at})
		return
	}
	got, _, fault := copies.Expand(l, all)
	if fault != (api.Fault{}) || len(got) != want {
		t.Errorf("%d tokens, %s, %d tokens, %d in the member: %d, %v, wanted %d", before, text, behind, size, len(got), fault, want)
	}
}

func TestExpandLongMembers(t *testing.T) {
	const most, refused = api.MaxTokens, -1
	for _, x := range []struct {
		text       string
		size, want int
	}{
		{"COPY M .", most, most}, {"COPY M .", most + 1, refused},
		// Before the replacements, whatever they do.
		{"COPY M REPLACING Z BY Y .", most, most}, {"COPY M REPLACING Z BY Y .", most + 1, refused}, {"COPY M REPLACING X BY ==== .", most, 0}, {"COPY M REPLACING X BY ==== .", most + 1, refused}, {"COPY M REPLACING ==X X== BY Y .", most, most / 2}, {"COPY M REPLACING ==X X== BY Y .", most + 1, refused},
		// Behind the replacements.
		{"COPY M REPLACING X BY ==Y Y== .", most / 2, most}, {"COPY M REPLACING X BY ==Y Y== .", most/2 + 1, refused}, {"COPY M REPLACING ==X X X X== BY ==Y Y Y Y Y Y Y Y== .", most / 2, most}, {"COPY M REPLACING ==X X X X== BY ==Y Y Y Y Y Y Y Y== .", most/2 + 1, refused},
	} {
		checkLimit(t, 0, x.text, 0, x.size, x.want)
	}
}

// The whole list counts, in which the tokens of the member stand instead of the statement.
func TestExpandLongLists(t *testing.T) {
	const most, refused = api.MaxTokens, -1
	for _, x := range []struct {
		before               int
		text                 string
		behind, member, want int
	}{
		{1, "COPY M .", 0, most - 1, most}, {1, "COPY M .", 0, most, refused}, {0, "COPY M .", 1, most - 1, most}, {0, "COPY M .", 1, most, refused}, {2, "COPY M .", 3, most - 5, most}, {2, "COPY M .", 3, most - 4, refused}, {most - 1, "COPY M .", 0, 1, most}, {most, "COPY M .", 0, 1, refused}, {0, "COPY M .", most - 1, 1, most}, {0, "COPY M .", most, 1, refused},
		{most, "COPY M .", 0, 0, most}, {0, "COPY M .", most, 0, most}, {most + 1, "COPY M .", 0, 0, refused}, {0, "COPY M .", most + 1, 0, refused}, {most - 1, "COPY E . COPY M .", 2, 0, refused},
		// With the replacements performed.
		{2, "COPY M REPLACING X BY ==Y Y== .", 0, most/2 - 1, most}, {0, "COPY M REPLACING X BY ==Y Y== .", 3, most/2 - 1, refused}, {most, "COPY M REPLACING X BY ==== .", 0, most, most}, {0, "COPY M REPLACING X BY ==== .", most, most, most}, {most, "COPY M REPLACING X BY ==== .", 1, most, refused}, {most / 2, "COPY M REPLACING ==X X== BY Y .", 0, most, most}, {most / 2, "COPY M REPLACING ==X X== BY Y .", 1, most, refused},
		// A statement behind stands there as it is.
		{0, "COPY M . COPY M .", 0, most / 2, most}, {0, "COPY M . COPY E .", 0, most - 3, most - 3}, {0, "COPY M . COPY E .", 0, most - 2, refused}, {0, "COPY M . COPY E .", 1, most - 3, refused},
	} {
		checkLimit(t, x.before, x.text, x.behind, x.member, x.want)
	}
}

// A list without COPY has no limit.
func TestExpandLongListsWithoutCopy(t *testing.T) {
	l := word("A", 2*api.MaxTokens)
	checkNames(t, l, members("A:COPY"), l, nil)
}

// The fault is at the name of the statement with which the tokens become too many.
func TestExpandLongListsFaults(t *testing.T) {
	const most = api.MaxTokens
	half := []copies.Member{{Name: "H", Tokens: word("X", most/2)}, {Name: "L", Tokens: word("X", most+1)}}
	checkNames(t, copiesOf("H", 2), half, word("X", most), []string{"H"})
	checkFault(t, append(word("A", 1), copiesOf("H", 2)...), half, atName(api.ErrLimit, 2, 8))
	checkFault(t, append(copiesOf("H", 2), word("A", 1)...), half, atName(api.ErrLimit, 2, 8))
	checkFault(t, copiesOf("H", 3), half, atName(api.ErrLimit, 2, 8))
	// In members, first of all in the innermost one.
	for _, text := range []string{"COPY ~L .", "COPY H . X COPY ~H .", "COPY H . COPY ~H . X", "COPY H . COPY ~H . COPY NONE .", "COPY H . COPY E . COPY ~L . COPY"} {
		m, at := cut(2, text)
		all := append(half, copies.Member{Name: "E"}, copies.Member{Name: "M", Tokens: m})
		checkFault(t, list(1, "COPY M REPLACING X BY ==== . COPY"), all, api.Fault{E: api.ErrLimit, At: at})
		checkFault(t, list(1, "COPY E . COPY N . COPY L ."), append(all, members("N:COPY M . COPY L . COPY")...), api.Fault{E: api.ErrLimit, At: at})
	}
	// Too many with the list around them, or too long only behind the replacements.
	all := append(half, members("M:COPY H . COPY H .", "N:1 COPY H . COPY H REPLACING ==X X== BY X .", "NONE:COPY")...)
	checkNames(t, list(1, "COPY M ."), all, word("X", most), []string{"M", "H"})
	for _, text := range []string{"X COPY ~M . COPY NONE .", "COPY ~M . X", "COPY ~M REPLACING ==X X== BY ==X X X== . COPY", "COPY N . COPY ~N .", "COPY ~N REPLACING 1 BY 2 X BY ==X X== ."} {
		l, at := cut(1, text)
		checkFault(t, l, all, api.Fault{E: api.ErrLimit, At: at})
	}
	// The other faults of the member come first, those behind it later.
	for text, e := range map[string]api.Errno{"COPY ~NONE .": api.ErrNone, "COPY ~M .": api.ErrLoop, "COPY ~. X": api.ErrForm} {
		m, at := cut(2, text)
		checkFault(t, list(1, "COPY M ."), append(half, copies.Member{Name: "M", Tokens: slices.Concat(word("X", most+1), m)}), api.Fault{E: e, At: at})
	}
	checkFault(t, append(copyOf("L", 1, 8), list(2, "COPY NONE . COPY L . COPY .")...), half, atName(api.ErrLimit, 1, 8))
}
