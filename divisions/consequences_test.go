package divisions_test

import (
	"math/rand"
	"reflect"
	"slices"
	"strings"
	"testing"

	"columnseven/api"
	"columnseven/columns"
	"columnseven/divisions"
	"columnseven/tokens"
)

// some returns one of the texts, which are separated by bars.
func some(r *rand.Rand, texts string) string {
	all := strings.Split(texts, "|")
	return all[r.Intn(len(all))]
}

// shuffled returns texts in another order, separated by spaces.
func shuffled(r *rand.Rand, texts ...string) string {
	r.Shuffle(len(texts), func(i, j int) { texts[i], texts[j] = texts[j], texts[i] })
	return strings.Join(texts, " ")
}

// randomNames returns names, of which the first one may be qualified.
func randomNames(r *rand.Rand) string { return some(r, "A|B|K|N OF R|K IN R|A OF B IN C") }

// randomSelect returns a SELECT, which has an impossible clause sometimes.
func randomSelect(r *rand.Rand, name string) string {
	clauses := []string{some(r, "|FILE STATUS IS|STATUS IS|FILE STATUS|STATUS")}
	if clauses[0] != "" {
		clauses[0] += " " + randomNames(r)
	}
	key := some(r, " KEY IS | KEY | IS | ") + randomNames(r)
	direct := some(r, "|ACCESS MODE IS DYNAMIC|ACCESS RANDOM|ACCESS MODE SEQUENTIAL|ACCESS IS DYNAMIC")
	switch r.Intn(4) {
	case 0:
		clauses = append(clauses, "ORGANIZATION IS INDEXED", "RECORD"+key, direct)
		for range r.Intn(4) {
			clauses = append(clauses, "ALTERNATE "+some(r, "|RECORD|KEY|RECORD KEY IS")+" "+randomNames(r)+some(r, "| DUPLICATES| WITH DUPLICATES"))
		}
	case 1:
		clauses = append(clauses, "ORGANIZATION RELATIVE", "RELATIVE"+key, direct)
	case 2:
		clauses = append(clauses, some(r, "ORGANIZATION RELATIVE|ORGANIZATION SEQUENTIAL|"), some(r, "|ACCESS SEQUENTIAL"))
	}
	if r.Intn(12) == 0 {
		clauses = append(clauses, some(r, "ORGANIZATION INDEXED|ACCESS RANDOM|RECORD K|RELATIVE K|ALTERNATE A|STATUS S|FILE STATUS S"))
	}
	return "SELECT " + name + " ASSIGN " + some(r, "|TO") + " " + some(r, `A|"X"|1A`) + " " + shuffled(r, clauses...) + " ."
}

// randomEntries returns the entries of records, of which few are wrong.
func randomEntries(r *rand.Rand) string {
	text := ""
	for range r.Intn(4) {
		text += " " + some(r, `01 R .|05 K PIC X .|05 A PIC 9(3) COMP-3 VALUE 7 .|77 N PIC 9 .|88 YES VALUE "Y" THRU "Z" 1 .|66 B RENAMES A OF R THRU K .|05 T OCCURS 1 TO 9 DEPENDING ON N OF R PIC X .`)
		if r.Intn(16) == 0 {
			text += some(r, " 50 A .| 05 MOVE .| 05 A PIC Q .| 05 A PIC X PIC X .| 05 A REDEFINES TO .")
		}
	}
	return text
}

// randomData returns an environment division and a data division.
func randomData(r *rand.Rand) string {
	files := []string{"F", "G", "H", "F"}[:min(r.Intn(5), r.Intn(5))]
	text := some(r, "|ENVIRONMENT DIVISION .|ENVIRONMENT DIVISION . INPUT-OUTPUT SECTION . FILE-CONTROL .")
	if len(files) > 0 {
		text = "ENVIRONMENT DIVISION . INPUT-OUTPUT SECTION . FILE-CONTROL ."
		for _, name := range files {
			text += "\n    " + randomSelect(r, name)
		}
	} else if r.Intn(4) == 0 {
		return text
	}
	text += "\nDATA DIVISION ."
	if len(files) > 0 || r.Intn(2) == 0 {
		text += "\nFILE SECTION ."
	}
	r.Shuffle(len(files), func(i, j int) { files[i], files[j] = files[j], files[i] })
	if r.Intn(20) == 0 {
		files = append(files, some(r, "F|I"))
	} else if r.Intn(20) == 0 && len(files) > 0 {
		files = files[1:]
	}
	for _, name := range files {
		if r.Intn(6) == 0 {
			text += "\nSD " + name + " ." + randomEntries(r)
			continue
		}
		text += "\nFD " + name + some(r, "| LABEL RECORD STANDARD| LABEL RECORDS ARE OMITTED") + some(r, "| REPORT R| REPORTS ARE R1 R2| REPORT IS R| REPORTS R1 R2 R3") + " ." + randomEntries(r)
	}
	for _, section := range []string{"WORKING-STORAGE", "LINKAGE"} {
		if r.Intn(2) == 0 {
			text += "\n" + section + " SECTION ." + randomEntries(r)
		}
	}
	for _, section := range []string{"REPORT", "SCREEN"} {
		if r.Intn(3) == 0 {
			text += "\n" + section + " SECTION ." + some(r, "| RD R . 01 X TYPE DE .| 01 S . 05 \"X\" LINE 5 .| FILE SECTION| SECTION . PROCEDURE")
		}
	}
	return text
}

// randomParagraphs returns lines of area B, with a header of a paragraph in front of most.
func randomParagraphs(r *rand.Rand) string {
	text := ""
	for range r.Intn(4) {
		text += "\n" + some(r, "A .|B .|C .|D .|P-1 .|MAIN .|1A .|X1 .|X2 .|X3 .|X4 .|X5 .|")
		for range r.Intn(3) {
			text += "\n    " + some(r, "MOVE 1 TO N .|A . B SECTION .|USE X .|END DECLARATIVES .|STOP RUN|. .|DISPLAY \"X.\" (5) .")
		}
	}
	return text
}

// randomSections returns sections, each of which has what is given behind its header.
func randomSections(r *rand.Rand, names, behind string) string {
	text := ""
	for _, name := range strings.Fields(names) {
		if r.Intn(2) == 0 {
			text += "\n" + name + " SECTION ." + some(r, behind) + randomParagraphs(r)
		}
	}
	return text
}

// randomText returns the text of a program, in which few things are wrong.
func randomText(r *rand.Rand) string {
	text := head + randomData(r) + "\nPROCEDURE DIVISION" + some(r, "| USING A| USING A B| USING A B C| USING A B C D E") + " ."
	if r.Intn(2) == 0 {
		names := some(r, "U V|U V W|U U V|U")
		text += "\nDECLARATIVES ." + randomSections(r, names, "\n    USE AFTER ERROR PROCEDURE ON F .|\n    USE .|\n    USE A\n    B .") + "\nEND DECLARATIVES ."
	}
	return text + randomParagraphs(r) + randomSections(r, some(r, "S T U1 V1|S T S|A B|S U V"), "|| \n    MOVE .|\n    X")
}

// soup returns tokens of all kinds that programs have.
func soup() []api.Token {
	return scan(`IDENTIFICATION DIVISION . PROGRAM-ID ENVIRONMENT INPUT-OUTPUT SECTION FILE-CONTROL SELECT ASSIGN TO ORGANIZATION IS SEQUENTIAL RELATIVE INDEXED ACCESS MODE RANDOM DYNAMIC
RECORD KEY ALTERNATE WITH DUPLICATES FILE STATUS FD LABEL RECORDS ARE STANDARD OMITTED REPORT REPORTS SD DATA WORKING-STORAGE LINKAGE SCREEN PROCEDURE USING
DECLARATIVES USE END OF IN A B F G U S 01 05 77 50 MOVE "A" ( == . . . PIC X`)
}

// damaged returns tokens of which one may be missing, or another one.
func damaged(r *rand.Rand, l []api.Token) []api.Token {
	if len(l) == 0 {
		return l
	}
	l = slices.Clone(l)
	i := r.Intn(len(l))
	other := l[r.Intn(len(l))]
	if r.Intn(2) == 0 {
		all := soup()
		other = all[r.Intn(len(all))]
		other.Left = r.Intn(2) == 0
	}
	switch r.Intn(8) {
	case 0:
		return l[:i]
	case 1:
		return slices.Delete(l, i, i+1)
	case 2, 3:
		return slices.Insert(l, i, other)
	case 4:
		l[i].Kind = api.Kind(r.Intn(9))
	case 5:
		l[i].Text = append(strings.Fields("A B 05 . MOVE SECTION USE"), "")[r.Intn(8)]
	case 6:
		l[i].Left = !l[i].Left
	case 7:
		l[i] = other
	}
	return l
}

// numbered gives each token a position of its own.
func numbered(l []api.Token) []api.Token {
	for i := range l {
		l[i].At = api.Pos{Line: i + 1, Column: 8 + i%5}
	}
	return l
}

// checkModel fails unless the model returns the same for tokens.
func checkModel(t *testing.T, m model, l []api.Token) (divisions.Program, api.Fault) {
	t.Helper()
	want, wantFault := m.parse(l)
	got, fault := divisions.Parse(l)
	if fault != wantFault || !reflect.DeepEqual(got, want) {
		t.Fatalf("%s:\n%s\n%v, wanted\n%s\n%v", tokens.Text(l), show(got), fault, show(want), wantFault)
	}
	return got, fault
}

// P8.1: random programs, compared with the model

func TestParseIsTheModel(t *testing.T) {
	r := rand.New(rand.NewSource(8))
	m := newModel()
	faults := map[api.Errno]int{}
	for range 6000 {
		l := scan(randomText(r))
		for range r.Intn(3) {
			l = damaged(r, l)
		}
		_, fault := checkModel(t, m, numbered(l))
		faults[fault.E]++
	}
	for _, e := range []api.Errno{api.OK, api.ErrForm, api.ErrNone, api.ErrThere, api.ErrWord, api.ErrKind, api.ErrArg} {
		if faults[e] < 50 {
			t.Error(faults)
		}
	}
}

// Tokens without an order, most of which fit somewhere.
func TestParseOfSoup(t *testing.T) {
	r := rand.New(rand.NewSource(9))
	m := newModel()
	all := soup()
	fronts := []string{
		"", head, head + "PROCEDURE DIVISION.", head + "DATA DIVISION.", control, control + "SELECT F ASSIGN A", control + "SELECT F ASSIGN A. DATA DIVISION. FILE SECTION. FD F",
		doing("DECLARATIVES."), doing("DECLARATIVES.\nU SECTION. USE."),
	}
	for n := range 8000 {
		l := scan(fronts[n%len(fronts)])
		for range r.Intn(7) {
			x := all[r.Intn(len(all))]
			if r.Intn(4) == 0 {
				x = scan(some(r, ".|A|B|SECTION"))[0]
			}
			x.Left = r.Intn(3) == 0
			l = append(l, x)
		}
		checkModel(t, m, numbered(l))
	}
}

// P8.4

// accepted returns the tokens of a random program and the program, which has no fault.
func accepted(r *rand.Rand) ([]api.Token, divisions.Program) {
	for {
		l := scan(randomText(r))
		if p, fault := divisions.Parse(l); fault == (api.Fault{}) {
			return l, p
		}
	}
}

// procedureTokens returns the tokens behind PROCEDURE DIVISION and its period.
func procedureTokens(l []api.Token) []api.Token {
	for i := len(l) - 2; i >= 0; i-- {
		if l[i].Text == "PROCEDURE" && l[i+1].Text == "DIVISION" {
			return l[i+slices.IndexFunc(l[i:], func(x api.Token) bool { return x.Kind == api.Period })+1:]
		}
	}
	return nil
}

// headedTokens returns the tokens of paragraphs and of the headers that divide them.
func headedTokens(list []divisions.Paragraph, section string) []api.Token {
	var l []api.Token
	for _, x := range list {
		if x.Section != section {
			section = x.Section
			l = slices.Concat(l, scan(section+" SECTION ."))
		}
		if x.Name != "" {
			l = slices.Concat(l, scan(x.Name+" ."))
		}
		l = slices.Concat(l, x.Tokens)
	}
	return l
}

// checkNothingLost fails unless the tokens of a program are all those behind its procedure division's header.
func checkNothingLost(t *testing.T, l []api.Token, p divisions.Program) {
	t.Helper()
	var want []api.Token
	if strings.HasPrefix(tokens.Text(procedureTokens(l)), "DECLARATIVES ") {
		want = scan("DECLARATIVES .")
		for _, u := range p.Uses {
			want = slices.Concat(want, scan(u.Section+" SECTION . USE"), u.Tokens, scan("."), headedTokens(u.Paragraphs, u.Section))
		}
		want = slices.Concat(want, scan("END DECLARATIVES ."))
	}
	want = slices.Concat(want, headedTokens(p.Paragraphs, ""))
	if got := procedureTokens(l); !tokens.Same(got, want) {
		t.Fatalf("%s\n%s", tokens.Text(got), tokens.Text(want))
	}
}

func TestNothingIsLost(t *testing.T) {
	r := rand.New(rand.NewSource(10))
	for range 1500 {
		l, p := accepted(r)
		checkNothingLost(t, l, p)
		// The tokens have their positions; those of a paragraph follow one another.
		behind := procedureTokens(l)
		for _, u := range p.Uses {
			p.Paragraphs = append(p.Paragraphs, u.Paragraphs...)
		}
		for _, x := range p.Paragraphs {
			for i, token := range x.Tokens {
				at := slices.IndexFunc(behind, func(other api.Token) bool { return other.At == token.At })
				if behind[at] != token || i > 0 && behind[at-1] != x.Tokens[i-1] || token.Left {
					t.Fatal(tokens.Text(x.Tokens))
				}
			}
			if x.Name == "" && len(x.Tokens) > 0 && x.At != x.Tokens[0].At {
				t.Fatal(x.At, x.Tokens[0].At)
			}
			if at := slices.IndexFunc(behind, func(other api.Token) bool { return other.At == x.At }); at < 0 || x.Name != "" && behind[at].Text != x.Name || x.Name == "" && len(x.Tokens) == 0 && behind[at].Text != x.Section {
				t.Fatal(x)
			}
		}
	}
}

func TestEachParagraphIsTheRangeOfItsName(t *testing.T) {
	r := rand.New(rand.NewSource(11))
	for range 1500 {
		_, p := accepted(r)
		for i, x := range p.Paragraphs {
			isAlso := func(y divisions.Paragraph) bool { return y.Section == x.Name || y.Name == x.Name }
			others := slices.Concat(p.Paragraphs[:i], p.Paragraphs[i+1:])
			// Without a section, the name of another procedure is ambiguous.
			if x.Name == "" || x.Section == "" && slices.ContainsFunc(others, isAlso) {
				continue
			}
			if first, last, e := divisions.Range(p, x.Name, x.Section); first != i || last != i || e != api.OK {
				t.Fatal(show(p), i, first, last, e)
			}
		}
	}
}

// distributed returns tokens that are laid out in other lines; the same ones begin in area A, if nothing stands behind these in their lines.
func distributed(t *testing.T, r *rand.Rand, l []api.Token) []api.Token {
	t.Helper()
	var lines []columns.Line
	for start := 0; start < len(l); {
		end := start + 1
		for !l[start].Left && end < len(l) && !l[end].Left && r.Intn(5) > 0 {
			end++
		}
		lines = append(lines, columns.Line{Left: l[start].Left, Text: tokens.Text(l[start:end])})
		start = end
	}
	source, e := columns.Write(lines)
	again, fault := tokens.Source(source, false)
	if e != api.OK || fault != (api.Fault{}) || !tokens.Same(l, again) {
		t.Fatalf("%d, %v: %s", e, fault, source)
	}
	for i := range l {
		if l[i].Left != again[i].Left {
			t.Fatal(tokens.Text(l), i)
		}
	}
	return again
}

// unplaced returns a program without any positions.
func unplaced(p divisions.Program) divisions.Program {
	unplace := func(v reflect.Value) bool {
		if v.Type() == reflect.TypeFor[api.Pos]() {
			v.SetZero()
			return true
		}
		return false
	}
	walk(reflect.ValueOf(&p).Elem(), unplace)
	return p
}

func TestLinesOnlyChangePositions(t *testing.T) {
	r := rand.New(rand.NewSource(12))
	faults := map[bool]int{}
	for n := range 1500 {
		l := scan(randomText(r))
		if n%3 == 0 {
			l, _ = accepted(r)
		}
		for i := 1; i < len(l); i++ {
			if l[i-1].Left {
				l[i].Left = l[i].Kind == api.Word && l[i].Left // nothing stands behind the first word of a line
			}
		}
		first, second := distributed(t, r, l), distributed(t, r, l)
		p, fault := divisions.Parse(first)
		q, other := divisions.Parse(second)
		at := func(l []api.Token, f api.Fault) int {
			return slices.IndexFunc(l, func(x api.Token) bool { return x.At == f.At })
		}
		if fault.E != other.E || at(first, fault) != at(second, other) || !reflect.DeepEqual(unplaced(p), unplaced(q)) {
			t.Fatalf("%v, %v\n%s\n%s", fault, other, show(p), show(q))
		}
		faults[fault == (api.Fault{})]++
	}
	if faults[true] < 500 || faults[false] < 100 {
		t.Error(faults)
	}
}

// R1, R4

// walk visits a value and all in it, as long as a function does not report that it has done all there.
func walk(v reflect.Value, visit func(v reflect.Value) bool) {
	if visit(v) {
		return
	}
	switch v.Kind() {
	case reflect.Slice:
		for i := range v.Len() {
			walk(v.Index(i), visit)
		}
	case reflect.Struct:
		for i := range v.NumField() {
			walk(v.Field(i), visit)
		}
	}
}

// checkMemory fails unless each slice in a value has its length as its capacity, and memory of its own.
func checkMemory(t *testing.T, v reflect.Value) {
	t.Helper()
	seen := map[uintptr]bool{}
	walk(v, func(v reflect.Value) bool {
		if v.Kind() == reflect.Slice {
			if v.Cap() != v.Len() || v.Len() > 0 && seen[v.Pointer()] {
				t.Fatal(v.Len(), v.Cap(), v.Interface())
			}
			seen[v.Pointer()] = true
		}
		return false
	})
}

// spoil sets all elements of all slices in a value to zero.
func spoil(v reflect.Value) {
	walk(v, func(v reflect.Value) bool {
		if v.Kind() == reflect.Slice {
			for i := range v.Len() {
				spoil(v.Index(i))
				v.Index(i).SetZero()
			}
		}
		return v.Kind() == reflect.Slice
	})
}

func TestArgumentsStay(t *testing.T) {
	r := rand.New(rand.NewSource(13))
	for range 1500 {
		l := scan(randomText(r))
		if r.Intn(2) == 0 {
			l = damaged(r, l)
		}
		room := append(slices.Clone(l), api.Token{Kind: api.Word, Text: "ROOM"})
		kept := slices.Clone(room)
		p, _ := divisions.Parse(room[:len(l)])
		spoil(reflect.ValueOf(&p).Elem())
		if !slices.Equal(room, kept) {
			t.Fatal(tokens.Text(l))
		}
	}
}

func TestResultsAreNewMemory(t *testing.T) {
	r := rand.New(rand.NewSource(14))
	for range 1500 {
		l, p := accepted(r)
		checkMemory(t, reflect.ValueOf(p))
		want, _ := divisions.Parse(slices.Clone(l))
		spoil(reflect.ValueOf(&p).Elem())
		if again, _ := divisions.Parse(l); !reflect.DeepEqual(again, want) {
			t.Fatal(show(again))
		}
		// What was in the arguments is not needed any more.
		clear(l)
		before := show(want)
		divisions.Records(want)
		divisions.Range(want, "A", "")
		if show(want) != before {
			t.Fatal(before)
		}
	}
}

func TestResultsDoNotNeedTheArguments(t *testing.T) {
	r := rand.New(rand.NewSource(15))
	for range 300 {
		l, p := accepted(r)
		before := show(p)
		for i := range l {
			l[i] = api.Token{Kind: api.Word, Text: "SPOILED"}
		}
		if show(p) != before {
			t.Fatal(before, show(p))
		}
	}
}

// P1

func TestAnyArguments(t *testing.T) {
	r := rand.New(rand.NewSource(16))
	texts := append(strings.Fields("IDENTIFICATION DIVISION PROGRAM-ID PROCEDURE DECLARATIVES SECTION USE END SELECT FD A B 05 . MOVE \xff"), "", " ", strings.Repeat("A", 100))
	for n := range 20000 {
		var l []api.Token
		if n%2 == 0 {
			l = scan(head + "PROCEDURE DIVISION." + some(r, "|\nDECLARATIVES.|\nDECLARATIVES.\nU SECTION. USE."))
		}
		for range r.Intn(10) {
			l = append(l, api.Token{Kind: api.Kind(r.Intn(9)), Text: texts[r.Intn(len(texts))], At: api.Pos{Line: r.Int() - r.Int(), Column: r.Int()}, Left: r.Intn(2) == 0})
		}
		p, fault := divisions.Parse(l)
		if fault != (api.Fault{}) && !isZero(p) || fault == (api.Fault{}) && p.Name == "" || fault.E == api.OK && fault.At != (api.Pos{}) {
			t.Error(show(p), fault)
		}
		list := make([]divisions.Paragraph, r.Intn(4))
		for i := range list {
			list[i] = divisions.Paragraph{Section: texts[r.Intn(len(texts))], Name: texts[r.Intn(len(texts))], Tokens: l}
		}
		first, last, e := divisions.Range(divisions.Program{Paragraphs: list}, texts[r.Intn(len(texts))], texts[r.Intn(len(texts))])
		if first < 0 || last < first || last > len(list) || e != api.OK && last != 0 {
			t.Error(first, last, e)
		}
	}
}
