package copies_test

import (
	"strings"
	"testing"

	"columnseven/api"
	"columnseven/copies"
)

// P4.2: faults

func checkFault(t *testing.T, l []api.Token, all []copies.Member, want api.Fault) {
	t.Helper()
	got, names, fault := copies.Expand(l, all)
	if len(got) != 0 || len(names) != 0 || fault != want {
		t.Errorf("%s: %d tokens, %.200q, %v, wanted %v", show(l), len(got), names, fault, want)
	}
}

// checkRefusal fails unless a list has a fault at the tilde that stands in it or in one of the members.
func checkRefusal(t *testing.T, e api.Errno, text string, texts ...string) {
	t.Helper()
	l, at := cut(1, text)
	var all []copies.Member
	for i, member := range texts {
		name, rest, _ := strings.Cut(member, ":")
		tokens, here := cut(i+2, rest)
		if strings.Contains(rest, "~") {
			at = here
		}
		all = append(all, copies.Member{Name: name, Tokens: tokens})
	}
	checkFault(t, l, all, api.Fault{E: e, At: at})
}

func TestExpandRefusesForms(t *testing.T) {
	for _, text := range malformed() {
		checkRefusal(t, api.ErrForm, text, "A:X", "COPY:", "REPLACING:", "PIC:")
		// A member ends where its tokens do, whatever stands behind its own statement.
		checkRefusal(t, api.ErrForm, "X COPY M . . COPY", "A:X", "COPY:", "M:"+text)
		checkRefusal(t, api.ErrForm, "COPY N . . == . X BY Y .", "M:"+text, "A:X", "COPY:X", "N:COPY A . COPY M REPLACING X BY Y . COPY NONE .")
		// What stands behind a token that does not fit is not looked at.
		if !strings.Contains(text, "~COPY") {
			checkRefusal(t, api.ErrForm, text+" COPY NONE . COPY", "A:X")
			checkRefusal(t, api.ErrForm, "COPY M .", "A:X", "M:"+text+" COPY NONE . COPY M . COPY")
		}
	}
}

func TestExpandRefusesMissingMembers(t *testing.T) {
	e := api.ErrNone
	checkRefusal(t, e, "COPY ~C .")
	checkRefusal(t, e, `COPY ~"C" .`)
	checkRefusal(t, e, "COPY ~C .", "A:X", "CC:X", "C-C:X", ":X", "COPY:C")
	checkRefusal(t, e, "COPY ~A .", "a:X", " A:X", "A :X")
	checkRefusal(t, e, `COPY ~"a" .`, "A:X")
	checkRefusal(t, e, "X COPY A . COPY ~C . COPY D .", "A:X", "B:COPY D .")
	checkRefusal(t, e, "COPY ~C REPLACING X BY Y . COPY D .", "A:X")
	checkRefusal(t, e, "COPY A . COPY ~COPY .", "A:X")
	checkRefusal(t, e, "COPY A .", "A:X COPY ~C . COPY D .")
	checkRefusal(t, e, "COPY B . COPY D .", "A:X", "B:COPY E . COPY F .", "E:", "F:COPY E . COPY ~C .")
	checkRefusal(t, e, "COPY A REPLACING C BY E .", "A:COPY ~C .", "E:X")
}

func TestExpandRefusesLoops(t *testing.T) {
	e := api.ErrLoop
	checkRefusal(t, e, "COPY A .", "A:COPY ~A .")
	checkRefusal(t, e, "COPY A .", `A:X COPY ~"A" REPLACING X BY Y . Y`)
	checkRefusal(t, e, "X COPY A . COPY NONE .", "B:1", "A:COPY B . COPY B . COPY ~A . COPY NONE .")
	checkRefusal(t, e, "COPY A .", "A:COPY B .", "B:COPY ~A .")
	checkRefusal(t, e, "COPY B .", "A:COPY ~B .", "B:COPY A .")
	checkRefusal(t, e, "COPY A . X", "A:COPY B .", "B:COPY C . COPY NONE .", "C:1 COPY D . 2", "D:COPY ~B .")
	checkRefusal(t, e, "COPY D . COPY A .", "A:COPY B .", "B:COPY D . COPY C .", "C:COPY D . COPY ~C .", "D:1")
	checkRefusal(t, e, "COPY A .", "A:COPY ~A .", "A:X")
	// What is expanded already, or not met, or put in, is no loop.
	checkExpansions(t, []expansion{
		{"COPY A . COPY A .", "A:COPY B . COPY B .|B:X", "X X X X", "A,B"}, {"COPY B .", "A:COPY A .|B:X", "X", "B"}, {"COPY A .", "A:X|A:COPY A .", "X", "A"}, {"COPY A REPLACING X BY ==COPY A . == .", "A:X", "COPY A .", "A"},
	})
}

// The first fault is that of the statement that is met first; of one statement, it is that of its form.
func TestExpandFirstFaults(t *testing.T) {
	checkRefusal(t, api.ErrForm, "COPY NONE ~X .", "A:")
	checkRefusal(t, api.ErrForm, "COPY NONE REPLACING X ~. COPY NONE .")
	checkRefusal(t, api.ErrForm, "~COPY NONE")
	checkRefusal(t, api.ErrForm, "COPY A ~X . COPY NONE .", "A:COPY NONE .")
	checkRefusal(t, api.ErrForm, "COPY ~. COPY NONE .")
	checkRefusal(t, api.ErrForm, "COPY A .", "A:COPY A ~A . COPY NONE .")
	checkRefusal(t, api.ErrNone, "COPY ~NONE . COPY")
	checkRefusal(t, api.ErrNone, "COPY ~NONE . COPY A . COPY .", "A:COPY A .")
	checkRefusal(t, api.ErrNone, "COPY A . COPY .", "A:COPY ~NONE . COPY A . COPY")
	checkRefusal(t, api.ErrNone, "COPY A . COPY ~NONE . COPY", "A:X", "B:COPY")
	checkRefusal(t, api.ErrForm, "COPY A . COPY NONE .", "A:COPY ~. COPY A . COPY NONE .")
	checkRefusal(t, api.ErrForm, "COPY A . COPY NONE .", "A:~COPY A")
	checkRefusal(t, api.ErrLoop, "COPY A . COPY NONE .", "A:COPY ~A . COPY NONE . COPY")
	checkRefusal(t, api.ErrLoop, "COPY A . COPY", "A:COPY B . COPY A . COPY", "B:X COPY ~A .")
	checkRefusal(t, api.ErrForm, "COPY A . COPY NONE .", "A:COPY B . COPY NONE .", "B:COPY C . COPY A .", "C:X COPY ~( .")
}
