package copies_test

import (
	"math/rand"
	"regexp"
	"slices"
	"strings"
	"testing"

	"columnseven/api"
	"columnseven/copies"
	"columnseven/tokens"
)

// A second program, which knows no limits: statements are found by regular expressions in texts of one letter for each token.

const operand = `(=[^=]*=|[CRBWNQ])`

var (
	statements = regexp.MustCompile(`^C[CRBWQ](R((=[^=]+=|[CRBWNQ])B` + operand + `)+)?\.`)
	pairs      = regexp.MustCompile(operand + `B` + operand)
)

// letters returns a letter for each token.
func letters(l []api.Token) string {
	words := map[string]string{"COPY": "C", "REPLACING": "R", "BY": "B"}
	var all strings.Builder
	for _, t := range l {
		letter := "?WNQ??.="[min(int(t.Kind), 5):][:1]
		if t.Kind > api.Pseudo {
			letter = "?"
		} else if t.Kind > api.Sign {
			letter = ".="[t.Kind-api.Period:][:1]
		}
		if special := words[t.Text]; t.Kind == api.Word && special != "" {
			letter = special
		}
		all.WriteString(letter)
	}
	return all.String()
}

// canGoOn reports whether letters are the beginning of a COPY statement.
func canGoOn(begun string) bool {
	return slices.ContainsFunc([]string{"", ".", "W.", "BW.", "WBW.", "=.", "W=.", "=BW.", "W=BW."}, func(end string) bool {
		return len(statements.FindString(begun+end)) == len(begun+end)
	})
}

// measured returns how many tokens the statement has with which tokens begin, or its fault.
func measured(l []api.Token) (int, api.Fault) {
	text := letters(l)
	if found := statements.FindString(text); found != "" {
		return len(found), api.Fault{}
	}
	for i := range l {
		if !canGoOn(text[:i+1]) {
			return 0, api.Fault{E: api.ErrForm, At: l[i].At}
		}
	}
	return 0, api.Fault{E: api.ErrForm, At: l[0].At}
}

// replacementsOf returns the replacements of a statement.
func replacementsOf(l []api.Token) []copies.Replacement {
	var all []copies.Replacement
	inside := func(from, to int) []api.Token {
		return slices.DeleteFunc(slices.Clone(l[from:to]), func(t api.Token) bool { return t.Kind == api.Pseudo })
	}
	for _, at := range pairs.FindAllStringSubmatchIndex(letters(l)[min(3, len(l)):], -1) {
		all = append(all, copies.Replacement{Old: inside(at[2]+3, at[3]+3), New: inside(at[4]+3, at[5]+3)})
	}
	return all
}

// replaced returns tokens with replacements performed.
func replaced(l []api.Token, r []copies.Replacement) []api.Token {
	if len(l) == 0 {
		return nil
	}
	for _, x := range r {
		if len(x.Old) <= len(l) && tokens.Same(x.Old, l[:len(x.Old)]) {
			return slices.Concat(x.New, replaced(l[len(x.Old):], r))
		}
	}
	return slices.Concat(l[:1], replaced(l[1:], r))
}

// expanded returns tokens with the first COPY statement performed, and then all others behind it.
func expanded(l []api.Token, all []copies.Member, around, used []string) ([]api.Token, []string, api.Fault) {
	at := strings.Index(letters(l), "C")
	if at < 0 {
		return l, used, api.Fault{}
	}
	size, fault := measured(l[at:])
	if fault != (api.Fault{}) {
		return nil, nil, fault
	}
	name := l[at+1]
	i := slices.IndexFunc(all, func(m copies.Member) bool { return m.Name == name.Text })
	for _, x := range []struct {
		wrong bool
		e     api.Errno
	}{{i < 0, api.ErrNone}, {slices.Contains(around, name.Text), api.ErrLoop}, {len(around) == 8, api.ErrLimit}} {
		if x.wrong {
			return nil, nil, api.Fault{E: x.e, At: name.At}
		}
	}
	if !slices.Contains(used, name.Text) {
		used = append(used, name.Text)
	}
	inside, used, fault := expanded(all[i].Tokens, all, append(slices.Clip(around), name.Text), used)
	if fault != (api.Fault{}) {
		return nil, nil, fault
	}
	behind, used, fault := expanded(l[at+size:], all, around, used)
	if fault != (api.Fault{}) {
		return nil, nil, fault
	}
	return slices.Concat(l[:at], replaced(inside, replacementsOf(l[at:at+size])), behind), used, api.Fault{}
}

// named returns the names in the COPY statements of tokens.
func named(l []api.Token) ([]string, api.Fault) {
	var names []string
	for at := strings.Index(letters(l), "C"); at >= 0; at = strings.Index(letters(l), "C") {
		size, fault := measured(l[at:])
		if fault != (api.Fault{}) {
			return nil, fault
		}
		if name := l[at+1].Text; !slices.Contains(names, name) {
			names = append(names, name)
		}
		l = l[at+size:]
	}
	return names, api.Fault{}
}

// Random lists

// some returns one of the texts, which are separated by spaces.
func some(r *rand.Rand, texts string) string {
	all := strings.Fields(texts)
	return all[r.Intn(len(all))]
}

// randomOperand returns the text of an operand.
func randomOperand(r *rand.Rand, least int) string {
	if r.Intn(2) == 0 {
		return some(r, `X Y Z 1 "X" COPY BY REPLACING A`)
	}
	text := "=="
	for range least + r.Intn(3) {
		text += " " + some(r, `X Y Z 1 "X" COPY BY REPLACING A . (`)
	}
	return text + " =="
}

// randomText returns the text of a list that copies members with names.
func randomText(r *rand.Rand, names string, pieces int) string {
	text := ""
	for range pieces {
		if r.Intn(3) > 0 {
			text += some(r, `X Y Z 1 2 "X" "COPY" . ( BY REPLACING`) + " "
			continue
		}
		text += "COPY " + some(r, names)
		for i := range r.Intn(3) {
			if i == 0 {
				text += " REPLACING"
			}
			text += " " + randomOperand(r, 1) + " BY " + randomOperand(r, 0)
		}
		text += " . "
	}
	return strings.TrimSpace(text)
}

// damaged returns tokens of which one may be missing or another one.
func damaged(r *rand.Rand, l []api.Token) []api.Token {
	if len(l) == 0 || r.Intn(4) > 0 {
		return l
	}
	i := r.Intn(len(l))
	other := api.Token{Kind: api.Kind(r.Intn(9)), Text: some(r, "COPY REPLACING BY X A 1 ."), At: api.Pos{Line: r.Intn(99), Column: r.Intn(99)}}
	switch r.Intn(4) {
	case 0:
		return l[:i]
	case 1:
		return slices.Delete(l, i, i+1)
	case 2:
		return slices.Insert(l, i, other)
	}
	l[i] = other
	return l
}

// randomMembers returns members of which most copy only those behind them, sometimes in a long chain.
func randomMembers(r *rand.Rand) []copies.Member {
	names := strings.Fields(`A "B" C D E "F" G H I "J" X`)
	chain := r.Intn(8) == 0
	if !chain {
		names = names[r.Intn(len(names)):]
	}
	var all []copies.Member
	for i, name := range names {
		copied, pieces := names[i:min(i+3, len(names))], r.Intn(4)
		switch {
		case chain:
			copied, pieces = names[min(i+1, len(names)-1):min(i+2, len(names))], 4
		case r.Intn(8) > 0:
			copied = copied[1:]
		}
		l := list(i+2, "X Y 1")
		if len(copied) > 0 {
			l = list(i+2, randomText(r, strings.Join(copied, " "), pieces))
		}
		if r.Intn(8) == 0 {
			l = damaged(r, l)
		}
		all = append(all, copies.Member{Name: strings.Trim(name, `"`), Tokens: l})
	}
	if r.Intn(2) == 0 {
		r.Shuffle(len(all), func(i, j int) { all[i], all[j] = all[j], all[i] })
	}
	return all
}

func TestRandomLists(t *testing.T) {
	r := rand.New(rand.NewSource(1))
	seen := map[api.Errno]int{}
	for range 30000 {
		all := randomMembers(r)
		l := damaged(r, list(1, randomText(r, `A "A" B C X K`, r.Intn(6))))
		want, names, fault := expanded(l, all, nil, nil)
		got, used, f := copies.Expand(l, all)
		seen[f.E]++
		if f != fault || !slices.Equal(got, want) || !slices.Equal(used, names) {
			t.Fatalf("%s, %v: %s, %q, %v, wanted %s, %q, %v", show(l), all, show(got), used, f, show(want), names, fault)
		}
		checkNew(t, "tokens", got)
		checkNew(t, "names", used)
		names, fault = named(l)
		if used, f = copies.Uses(l); f != fault || !slices.Equal(used, names) {
			t.Fatalf("%s: %q, %v, wanted %q, %v", show(l), used, f, names, fault)
		}
		checkNew(t, "names", used)
	}
	for _, e := range []api.Errno{api.OK, api.ErrForm, api.ErrNone, api.ErrLoop, api.ErrLimit} {
		if seen[e] < 100 {
			t.Errorf("only %d results with error %d", seen[e], e)
		}
	}
}

func TestRandomReplacements(t *testing.T) {
	r := rand.New(rand.NewSource(2))
	for range 30000 {
		l := damaged(r, list(1, randomText(r, "A", r.Intn(9))))
		var all []copies.Replacement
		for range r.Intn(4) {
			old := list(2, some(r, "X Y Z 1 .")+strings.Repeat(" "+some(r, "X Y 1 ."), r.Intn(3)))
			all = append(all, copies.Replacement{Old: old, New: list(3, strings.Trim(randomOperand(r, 0), "= "))})
		}
		got, e := copies.Replace(l, all)
		if want := replaced(l, all); e != api.OK || !slices.Equal(got, want) {
			t.Fatalf("%s, %v: %s, %d, wanted %s", show(l), all, show(got), e, show(want))
		}
		checkNew(t, "tokens", got)
	}
}

// P4.4

func isCopy(t api.Token) bool { return t.Kind == api.Word && t.Text == "COPY" }

// A list without COPY remains as it is, whatever the members are.
func TestListsWithoutCopyRemain(t *testing.T) {
	r := rand.New(rand.NewSource(3))
	for range 5000 {
		l := slices.DeleteFunc(damaged(r, list(1, randomText(r, "A", r.Intn(9)))), isCopy)
		got, names, fault := copies.Expand(l, randomMembers(r))
		if !slices.Equal(got, l) || len(names) != 0 || fault != (api.Fault{}) {
			t.Fatalf("%s: %s, %q, %v", show(l), show(got), names, fault)
		}
	}
}

// withoutReplacing returns tokens without what stands behind the names of their COPY statements.
func withoutReplacing(l []api.Token) []api.Token {
	var kept []api.Token
	for at := strings.Index(letters(l), "C"); at >= 0; at = strings.Index(letters(l), "C") {
		size, fault := measured(l[at:])
		if fault != (api.Fault{}) {
			return nil
		}
		kept = slices.Concat(kept, l[:at+2], l[at+size-1:at+size])
		l = l[at+size:]
	}
	return append(kept, l...)
}

// Without REPLACING, no word COPY is left, and expanding again changes nothing.
func TestNoCopyIsLeft(t *testing.T) {
	r := rand.New(rand.NewSource(4))
	long := 0
	for range 20000 {
		all := randomMembers(r)
		for i := range all {
			all[i].Tokens = withoutReplacing(all[i].Tokens)
		}
		got, names, fault := copies.Expand(withoutReplacing(list(1, randomText(r, "A B C X", r.Intn(6)))), all)
		if len(names) > 1 {
			long++
		}
		again, _, _ := copies.Expand(got, all)
		if fault == (api.Fault{}) && (slices.ContainsFunc(got, isCopy) || !slices.Equal(again, got)) {
			t.Fatalf("%s, then %s", show(got), show(again))
		}
	}
	if long < 1000 {
		t.Errorf("only %d results with several members", long)
	}
}

// The names are those of Uses of the list, and of the members that are used.
func TestNamesAreThoseOfUses(t *testing.T) {
	r := rand.New(rand.NewSource(5))
	for range 20000 {
		all := randomMembers(r)
		l := list(1, randomText(r, "A B C X", r.Intn(6)))
		_, names, fault := copies.Expand(l, all)
		if fault != (api.Fault{}) {
			continue
		}
		wanted, _ := copies.Uses(l)
		for _, name := range names {
			i := slices.IndexFunc(all, func(m copies.Member) bool { return m.Name == name })
			used, f := copies.Uses(all[i].Tokens)
			if f != (api.Fault{}) {
				t.Fatalf("%s: %v", show(all[i].Tokens), f)
			}
			wanted = append(wanted, used...)
		}
		slices.Sort(wanted)
		sorted := slices.Sorted(slices.Values(names))
		if !slices.Equal(sorted, slices.Compact(wanted)) {
			t.Fatalf("%s, %v: %q, wanted %q", show(l), all, names, wanted)
		}
	}
}

// A replacement whose New is alike to its Old changes nothing but positions.
func TestReplacementsByTheSame(t *testing.T) {
	r := rand.New(rand.NewSource(6))
	for range 20000 {
		l := list(1, randomText(r, "A", 1+r.Intn(9)))
		from := r.Intn(len(l))
		old := l[from : from+1+r.Intn(len(l)-from)]
		same := slices.Clone(old)
		for i := range same {
			same[i].At = api.Pos{Line: 9, Column: i}
		}
		got, e := copies.Replace(l, []copies.Replacement{{Old: old, New: same}})
		if e != api.OK || !tokens.Same(got, l) {
			t.Fatalf("%s, %s: %s, %d", show(l), show(old), show(got), e)
		}
	}
	checkExpansions(t, []expansion{{"COPY A REPLACING X BY X ==Y . == BY ==Y . == .", "A:X X Y . X COPY B .|B:Y .", "X X Y . X Y .", "A,B"}})
}

// P1

// Any tokens have a result, or a fault and nothing else.
func TestAnyTokens(t *testing.T) {
	r := rand.New(rand.NewSource(7))
	any := func() []api.Token {
		var l []api.Token
		for range r.Intn(9) {
			l = append(l, api.Token{Kind: api.Kind(r.Intn(9)), Text: []string{"COPY", "A", "REPLACING", "BY", "X", "", "\xff"}[r.Intn(7)], At: api.Pos{Line: r.Intn(9) - 4, Column: r.Intn(9) - 4}})
		}
		return l
	}
	for range 100000 {
		l, all := any(), []copies.Member{{Name: "A", Tokens: any()}, {}, {Name: "COPY"}, {Name: "\xff", Tokens: any()}}
		got, names, f := copies.Expand(l, all)
		if f != (api.Fault{}) && (len(got) != 0 || len(names) != 0) || len(got) > 0 && len(l) == 0 {
			t.Fatalf("%v, %v: %v, %q, %v", l, all, got, names, f)
		}
		if names, f = copies.Uses(l); f != (api.Fault{}) && (len(names) != 0 || f.E != api.ErrForm) {
			t.Fatalf("%v: %q, %v", l, names, f)
		}
		replaced, e := copies.Replace(l, []copies.Replacement{{Old: any(), New: any()}, {Old: any()}})
		if e != api.OK && (e != api.ErrArg || len(replaced) != 0) {
			t.Fatalf("%v: %v, %d", l, replaced, e)
		}
	}
}
