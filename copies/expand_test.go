package copies_test

import (
	"slices"
	"strings"
	"testing"

	"columnseven/api"
	"columnseven/copies"
	"columnseven/tokens"
)

// P4.2

// checkNames fails unless a list has this result and uses members with these names.
func checkNames(t *testing.T, l []api.Token, all []copies.Member, want []api.Token, names []string) {
	t.Helper()
	got, used, fault := copies.Expand(l, all)
	if fault != (api.Fault{}) || !tokens.Same(got, want) || !slices.Equal(used, names) {
		t.Errorf("%s: %d tokens, %s, %.200q, %v, wanted %d, %s, %.200q", show(l), len(got), show(got), used, fault, len(want), show(want), names)
	}
	checkNew(t, "tokens", got)
	checkNew(t, "names", used)
}

// expansion is the text of a list, and what it becomes with members, whose texts are separated by bars.
type expansion struct{ text, members, want, names string }

func checkExpansions(t *testing.T, expansions []expansion) {
	t.Helper()
	for _, x := range expansions {
		var all []copies.Member
		if x.members != "" {
			all = members(strings.Split(x.members, "|")...)
		}
		var names []string
		if x.names != "" {
			names = strings.Split(x.names, ",")
		}
		checkNames(t, list(1, x.text), all, list(1, x.want), names)
	}
}

func TestExpand(t *testing.T) {
	const ab = "A:05 X PIC 9(3) .|B:01 R . COPY A REPLACING X BY Y ."
	checkExpansions(t, []expansion{
		{"COPY A .", ab, "05 X PIC 9(3) .", "A"}, {`COPY "B" . MOVE`, ab, "01 R . 05 Y PIC 9(3) . MOVE", "B,A"}, {"COPY A REPLACING ==X PIC== BY ==Z PICTURE IS== 05 BY 10 .", ab, "10 Z PICTURE IS 9(3) .", "A"},
		{"", "", "", ""}, {"", ab, "", ""}, {"X .", "", "X .", ""}, {"X . Y", ab, "X . Y", ""},
		{"COPY A .", "A:X", "X", "A"}, {"COPY A . Y", "A:X", "X Y", "A"}, {"Y COPY A .", "A:X", "Y X", "A"}, {"Y COPY A . Z", "A:X", "Y X Z", "A"}, {"COPY A . .", "A:X .", "X . .", "A"},
		{"COPY A . COPY A .", "A:X", "X X", "A"}, {"Y COPY A . . COPY B . Z COPY A .", "A:1|B:2", "Y 1 . 2 Z 1", "A,B"}, {"COPY B . COPY A . COPY B .", "A:1|B:2", "2 1 2", "B,A"},
		{"COPY A .", "A:", "", "A"}, {"X COPY A . Y", "A:", "X Y", "A"}, {"COPY A REPLACING X BY Y .", "A:", "", "A"},
		// The name.
		{"COPY a-1 .", "A-1:X", "X", "A-1"}, {`COPY "A" .`, "A:X", "X", "A"}, {`COPY "a" . COPY A .`, "A:X|a:Y", "Y X", "a,A"}, {`COPY "A" . COPY A .`, "A:X", "X X", "A"}, {`COPY "a b" . COPY " A" .`, "A:X|a b:Y| A:Z", "Y Z", "a b, A"}, {"COPY 1A .", "1A:X", "X", "1A"},
		{"COPY COPY . COPY REPLACING . COPY BY .", "BY:1|REPLACING:2|COPY:3", "3 2 1", "COPY,REPLACING,BY"}, {"COPY REPLACING REPLACING REPLACING BY BY .", "REPLACING:REPLACING X", "BY X", "REPLACING"},
		// The first one of several members with the name, and no other one.
		{"COPY A .", "B:1|A:2|A:3|C:4", "2", "A"}, {"COPY A .", "A:|A:3", "", "A"}, {"COPY A . COPY A .", "A:1|A:COPY", "1 1", "A"}, {"COPY A .", "A:COPY B .|B:X|B:Y|A:Z", "X", "A,B"}, {"X", "A:COPY|A:COPY A .", "X", ""},
		// Members that copy others.
		{"COPY A .", "A:COPY B .|B:X", "X", "A,B"}, {"COPY A .", "A:1 COPY B . 2|B:3 COPY C . 4|C:5", "1 3 5 4 2", "A,B,C"}, {"COPY A .", "A:COPY C . COPY B .|B:COPY C . 2|C:3", "3 3 2", "A,C,B"}, {"0 COPY A . COPY B . 9", "A:COPY B . COPY B . COPY C .|B:2|C:3", "0 2 2 3 2 9", "A,B,C"},
		{"COPY C . COPY A .", "A:COPY B . COPY D .|B:COPY C .|C:3|D:4", "3 3 4", "C,A,B,D"}, {"COPY A . COPY D .", "A:COPY B .|B:COPY C .|C:3|D:4 COPY B .", "3 4 3", "A,B,C,D"}, {"COPY A . COPY A .", "A:COPY B . 1|B:2", "2 1 2 1", "A,B"},
	})
}

func TestExpandReplacing(t *testing.T) {
	checkExpansions(t, []expansion{
		// Operands of all kinds.
		{"COPY A REPLACING X BY Y .", "A:X A X", "Y A Y", "A"}, {"COPY A REPLACING 1 BY 2 .", "A:1 01 1", "2 01 2", "A"}, {`COPY A REPLACING "X" BY "Y""" .`, `A:"X" X`, `"Y""" X`, "A"}, {`COPY A REPLACING X BY 1 1 BY "Z" "Z" BY X .`, `A:X 1 "Z"`, `1 "Z" X`, "A"}, {"COPY A REPLACING -1.5 BY +.5 .", "A:-1.5 1.5", "+.5 1.5", "A"},
		{"COPY A REPLACING ==X Y== BY ==1 2 3== .", "A:X Y X", "1 2 3 X", "A"}, {"COPY A REPLACING X BY ==== .", "A:X Y X", "Y", "A"}, {"COPY A REPLACING ==X== BY ==== Y BY == == .", "A:X Y X", "", "A"}, {"COPY A REPLACING == X == BY Y .", "A:X Y X", "Y Y Y", "A"}, {"COPY A REPLACING Y BY ==X X== .", "A:X Y X", "X X X X", "A"},
		{"COPY A REPLACING == PIC X(2) == BY == PIC 9 == == . == BY == VALUE 1 . == .", "A:05 F PIC X(2) . 05 G PIC X(3) .", "05 F PIC 9 VALUE 1 . 05 G PIC X(3) VALUE 1 .", "A"}, {"COPY A REPLACING == ( 1 : 2 ) == BY == ( ** ) == .", "A:X ( 1 : 2 ) Y", "X ( ** ) Y", "A"},
		{"COPY A REPLACING ==BY== BY ==REPLACING X== REPLACING BY BY .", "A:BY REPLACING", "REPLACING X BY", "A"}, {"COPY A REPLACING BY BY TO .", "A:1 BY 2", "1 TO 2", "A"},
		// Several that fit, at one place or at several; none of them.
		{"COPY A REPLACING X BY 1 ==X Y== BY 2 .", "A:X Y X", "1 Y 1", "A"}, {"COPY A REPLACING ==X Y== BY 2 X BY 1 .", "A:X Y X", "2 1", "A"}, {"COPY A REPLACING X BY Y Y BY X .", "A:X Y Z", "Y X Z", "A"}, {"COPY A REPLACING ==X X== BY Y .", "A:X X X X X", "Y Y X", "A"}, {"COPY A REPLACING Z BY Y .", "A:X Y", "X Y", "A"}, {"COPY A REPLACING X BY ==X X== .", "A:X X", "X X X X", "A"},
		// A statement replaces in its own member only.
		{"X COPY A REPLACING X BY Y . X COPY B . X COPY A .", "A:X|B:X X", "X Y X X X X X", "A,B"}, {"COPY A . COPY A REPLACING X BY Y . COPY A REPLACING X BY Z .", "A:X", "X Y Z", "A"}, {"COPY A REPLACING ==X Y== BY Z . Y", "A:X", "X Y", "A"}, {"X COPY A REPLACING ==X Y== BY Z .", "A:Y", "X Y", "A"}, {"COPY A REPLACING X BY Y . COPY B REPLACING Y BY Z .", "A:X Y|B:X Y", "Y Y X Z", "A,B"},
		// Members in it are expanded before, with replacements of their own.
		{"COPY A REPLACING X BY Y .", "A:X COPY B . X|B:X Z", "Y Y Z Y", "A,B"}, {"COPY A REPLACING X BY 1 .", "A:X COPY B REPLACING Y BY X .|B:X Y", "1 1 1", "A,B"}, {"COPY A REPLACING X BY 1 .", "A:X COPY B REPLACING X BY Y .|B:X", "1 Y", "A,B"}, {"COPY A REPLACING ==X Y== BY 1 .", "A:X COPY B .|B:Y", "1", "A,B"}, {"COPY A REPLACING ==X Y== BY 1 .", "A:COPY B . COPY C .|B:X|C:Y", "1", "A,B,C"},
		{"COPY A REPLACING X BY Y Y BY X .", "A:COPY B REPLACING X BY Y Y BY X .|B:X Y", "X Y", "A,B"}, {"COPY A REPLACING 1 BY 2 .", "A:COPY B REPLACING 2 BY 3 .|B:1 2 3", "2 3 3", "A,B"}, {"COPY A REPLACING 2 BY 3 .", "A:COPY B REPLACING 1 BY 2 .|B:1 2 3", "3 3 3", "A,B"},
		// What stands in the statements themselves is gone by then.
		{"COPY A REPLACING B BY C .", "A:COPY B .|B:B|C:2", "C", "A,B"}, {"COPY A REPLACING ==COPY B . == BY X .", "A:COPY B .|B:1|X:2", "1", "A,B"}, {"COPY A REPLACING COPY BY X REPLACING BY Y .", "A:COPY B REPLACING 1 BY 2 .|B:1", "2", "A,B"}, {"COPY A REPLACING X BY Y .", "A:COPY B REPLACING X BY 1 .|B:X Y", "1 Y", "A,B"},
	})
}

// What a replacement puts in is not searched for COPY, in whatever list it stands then.
func TestExpandLeavesWordsThatArePutIn(t *testing.T) {
	checkExpansions(t, []expansion{
		{"COPY A REPLACING X BY COPY .", "A:X", "COPY", "A"}, {"COPY A REPLACING X BY COPY .", "A:X B .|B:1", "COPY B .", "A"}, {"COPY A REPLACING X BY ==COPY A . == .", "A:1 X 2", "1 COPY A . 2", "A"}, {"COPY A REPLACING X BY COPY . B .", "A:X|B:1", "COPY B .", "A"}, {"COPY A REPLACING X BY COPY . COPY B .", "A:X|B:1", "COPY 1", "A,B"},
		{"COPY A .", "A:COPY B REPLACING X BY COPY .|B:X C .|C:1", "COPY C .", "A,B"}, {"COPY A . Y", "A:COPY B REPLACING X BY COPY . C .|B:X|C:1", "COPY C . Y", "A,B"}, {"COPY A .", "A:COPY B REPLACING X BY ==COPY B . == . COPY C .|B:X|C:1", "COPY B . 1", "A,B,C"}, {"COPY A REPLACING COPY BY Y .", "A:COPY B REPLACING X BY COPY .|B:X C .", "Y C .", "A,B"},
	})
}

// Tokens that Scan does not return are inserted like all others; a member may have no name.
func TestExpandAnyTokens(t *testing.T) {
	w := func(text string) api.Token { return kindAndText(api.Word, text) }
	end, pseudo, none := kindAndText(api.Period, ""), kindAndText(api.Pseudo, "x"), kindAndText(api.Quote, "")
	odd := []api.Token{{}, kindAndText(255, "COPY"), kindAndText(api.Quote, "COPY"), w("copy"), kindAndText(api.Sign, "\xff")}
	all := []copies.Member{{Tokens: odd}, {Name: "\xff", Tokens: odd[:2]}}
	checkNames(t, []api.Token{w("COPY"), none, end}, all, odd, []string{""})
	checkNames(t, []api.Token{{}, w("COPY"), none, end, w("COPY"), w("\xff"), end, {}}, all, slices.Concat(odd[:1], odd, odd[:2], odd[:1]), []string{"", "\xff"})
	checkNames(t, []api.Token{w("COPY"), none, w("REPLACING"), pseudo, {}, odd[1], pseudo, w("BY"), pseudo, pseudo, odd[2], w("BY"), odd[3], end}, all, []api.Token{odd[3], odd[3], odd[4]}, []string{""})
	checkNames(t, odd, all, odd, nil)
}

// All tokens keep their positions, and whether they begin in area A.
func TestExpandPositions(t *testing.T) {
	l := list(1, "X COPY A REPLACING X BY ==1 Y== Z BY ==== . X COPY B .")
	all := members("A:X COPY B . Z COPY B REPLACING 1 BY Z . X", "B:1 Y")
	a, b, put := all[0].Tokens, all[1].Tokens, l[7:9]
	for _, some := range [][]api.Token{l, a, b} {
		some[0].Left, some[len(some)-1].Left = true, true
	}
	want := slices.Concat(l[:1], put, b, b[1:], put, l[len(l)-4:len(l)-3], b)
	got, _, fault := copies.Expand(l, all)
	if fault != (api.Fault{}) || !slices.Equal(got, want) {
		t.Errorf("%v, %v, wanted %v", got, fault, want)
	}
	got, _, fault = copies.Expand(list(9, "COPY A ."), all)
	want = slices.Concat(a[:1], b, a[4:5], a[10:11], b[1:], a[12:])
	if fault != (api.Fault{}) || !slices.Equal(got, want) {
		t.Errorf("%v, %v, wanted %v", got, fault, want)
	}
}

// R1 and R4

func TestExpandIsNew(t *testing.T) {
	arguments := func() ([]api.Token, []copies.Member) {
		return list(1, "X COPY A REPLACING X BY ==Y Z== . X COPY B . COPY C . Y Y"), members("A:X COPY B . Y 1", "B:1 2 3", "C:X Y X")
	}
	l, all := arguments()
	first, used, _ := copies.Expand(l[:len(l)-1], all)
	second, others, _ := copies.Expand(l[:len(l)-1], all)
	want, names := slices.Clone(second), slices.Clone(others)
	_ = append(first, api.Token{})
	_ = append(used, "X")
	clear(first)
	clear(used)
	keptList, kept := arguments()
	if !slices.Equal(l, keptList) || !slices.EqualFunc(all, kept, func(a, b copies.Member) bool { return a.Name == b.Name && slices.Equal(a.Tokens, b.Tokens) }) {
		t.Errorf("the arguments are %v, %v", l, all)
	}
	clear(l)
	for _, m := range all {
		clear(m.Tokens)
	}
	clear(all)
	if !slices.Equal(second, want) || !slices.Equal(others, names) {
		t.Errorf("the other result is %v, %q", second, others)
	}
}

// Memory is not shared either where nothing changes.
func TestExpandIsNewWithoutChanges(t *testing.T) {
	for _, text := range []string{"A B", "COPY B .", "A COPY C ."} {
		l, all := list(1, text), members("B:1 2 3", "C:")
		got, _, _ := copies.Expand(l, all)
		clear(got)
		if !slices.Equal(l, list(1, text)) || !slices.Equal(all[0].Tokens, list(2, "1 2 3")) {
			t.Errorf("%q: the list is %v, the member %v", text, l, all[0].Tokens)
		}
	}
}
