package columns

import (
	"math/rand"
	"strings"
	"testing"

	"columnseven/api"
)

// P2.4

// squeezed returns a text in which each row of spaces outside of quotes is one space.
func squeezed(text string) string {
	var b strings.Builder
	inside := false
	for i := range len(text) {
		if text[i] == '"' {
			inside = !inside
		}
		if text[i] == ' ' && !inside && i > 0 && text[i-1] == ' ' {
			continue
		}
		b.WriteByte(text[i])
	}
	return b.String()
}

// randomText returns a text that Write accepts: words, rows of spaces, and literals that may be much longer than a line.
func randomText(r *rand.Rand) string {
	var b strings.Builder
	for b.Len() == 0 || r.Intn(12) > 0 {
		switch r.Intn(5) {
		case 0:
			b.WriteString(spaces(1 + r.Intn(3)*r.Intn(40)))
		case 1:
			b.WriteString(`"` + strings.ReplaceAll(randomBytes(r, r.Intn(1+r.Intn(150))), `"`, `""`) + `"`)
		case 2:
			b.WriteString(some(1 + r.Intn(1+r.Intn(200))))
		default:
			b.WriteString(some(1+r.Intn(12)) + " ")
		}
	}
	if text := strings.Trim(b.String(), " "); text != "" {
		return text
	}
	return randomText(r)
}

func randomBytes(r *rand.Rand, n int) string {
	var b strings.Builder
	for range n {
		b.WriteByte(`AB-*/D  "`[r.Intn(9)])
	}
	return b.String()
}

func TestReadOfWrite(t *testing.T) {
	r := rand.New(rand.NewSource(2))
	for range 20000 {
		text, left := randomText(r), r.Intn(2) == 0
		laid, e := Write([]Line{{left, text}})
		if e != api.OK {
			t.Fatalf("%q: %d", text, e)
		}
		checkLayout(t, laid)
		cards, f := Read(laid, r.Intn(2) == 0)
		if f != (api.Fault{}) {
			t.Fatalf("%q: %v in\n%s", text, f, laid)
		}
		var texts []string
		for i, c := range cards {
			if c.Left != (left && i == 0) {
				t.Fatalf("%q: card %d has Left %t", text, i, c.Left)
			}
			texts = append(texts, c.Text)
		}
		if got := strings.Join(texts, " "); squeezed(got) != squeezed(text) {
			t.Fatalf("%q is read as %q from\n%s", text, got, laid)
		}
		checkPositions(t, laid, cards)
	}
}

// Several texts are read one after the other.
func TestReadOfWriteOfSeveral(t *testing.T) {
	r := rand.New(rand.NewSource(3))
	for range 2000 {
		var lines []Line
		var want []Card
		for range r.Intn(6) {
			line := Line{r.Intn(2) == 0, randomText(r)}
			lines = append(lines, line)
			alone, _ := Write([]Line{line})
			cards, _ := Read(alone, false)
			want = append(want, cards...)
		}
		laid, e := Write(lines)
		cards, f := Read(laid, false)
		if e != api.OK || f != (api.Fault{}) || !sameTexts(cards, want) {
			t.Fatalf("%+v: %d, %v, %+v", lines, e, f, cards)
		}
	}
}

func sameTexts(a, b []Card) bool {
	if len(a) != len(b) {
		return false
	}
	for i := range a {
		if a[i].Left != b[i].Left || a[i].Text != b[i].Text {
			return false
		}
	}
	return true
}

// checkLayout fails unless each line has its number, an indicator, and no column behind 72.
func checkLayout(t *testing.T, laid string) {
	t.Helper()
	lines := strings.Split(laid, "\n")
	if lines[len(lines)-1] != "" {
		t.Fatalf("no byte 10 at the end of\n%s", laid)
	}
	for i, line := range lines[:len(lines)-1] {
		if len(line) < 8 || len(line) > 72 || !strings.HasPrefix(numbered(make([]string, i+1)...)[7*i:], line[:6]) || line[6] != ' ' && line[6] != '-' {
			t.Fatalf("line %d of\n%s", i+1, laid)
		}
	}
}

// checkPositions fails unless each byte of the cards stands where At tells, or is a space behind its line.
func checkPositions(t *testing.T, text string, cards []Card) {
	t.Helper()
	lines := strings.Split(text, "\n")
	for _, c := range cards {
		for i := range len(c.Text) {
			p, e := At(c, i)
			if e != api.OK || p.Line > len(lines) || p.Column > 72 {
				t.Fatalf("At(%d) of %q: %v, %d", i, c.Text, p, e)
			}
			want := byte(' ')
			if line := lines[p.Line-1]; p.Column <= len(line) {
				want = line[p.Column-1]
			}
			if c.Text[i] != want {
				t.Fatalf("byte %d of %q is not that at %v", i, c.Text, p)
			}
		}
	}
}

// randomSource returns a source text without faults, with literals that are continued from all columns.
func randomSource(r *rand.Rand) string {
	var lines []string
	open, begun := false, false
	for len(lines) < 12 || open {
		indicator, column, text := " ", 8+r.Intn(65), strings.TrimLeft(randomBytes(r, 1+r.Intn(72)), " ")
		switch {
		case text == "":
			continue
		case open:
			indicator, column, text = "-", 12+r.Intn(61), `"`+randomBytes(r, r.Intn(72))
		case begun && r.Intn(2) == 0:
			indicator, column = "-", 12+r.Intn(61)
		default:
			open = false
		}
		line := at(indicator, column, text)
		line = line[:min(len(line), 80)]
		part := line[column-1 : min(len(line), 72)]
		if open {
			part = part[1:]
		}
		if strings.Count(part, `"`)%2 != 0 {
			open = !open
		}
		begun = true
		lines = append(lines, line)
	}
	return source(lines...)
}

func TestPositionsOfRandomSources(t *testing.T) {
	r := rand.New(rand.NewSource(4))
	for range 5000 {
		text := randomSource(r)
		cards, f := Read(text, false)
		if f != (api.Fault{}) || len(cards) == 0 {
			t.Fatalf("%v in\n%s", f, text)
		}
		checkPositions(t, text, cards)
	}
}

// moved returns a text with ignored lines between its lines and other columns without a meaning,
// and for each of its lines the number of the line that it is now.
func moved(r *rand.Rand, text string) (string, []int) {
	ignored := []string{"", spaces(80), at("*", 8, `"`), at("/", 12, "X"), spaces(6) + "-", at("D", 8, `"`), at("d", 12, "X"), spaces(6) + "*" + spaces(72) + `"`}
	var lines []string
	var numbers []int
	for _, line := range strings.Split(text, "\n") {
		for range r.Intn(3) {
			lines = append(lines, ignored[r.Intn(len(ignored))])
		}
		line = line[:min(len(line), 72)]
		line = randomBytes(r, 6) + line[6:] + spaces(72-len(line)) + randomBytes(r, r.Intn(9))
		lines = append(lines, line)
		numbers = append(numbers, len(lines))
	}
	return source(append(lines, ignored[r.Intn(len(ignored))])...), numbers
}

func TestWhatHasNoMeaning(t *testing.T) {
	r := rand.New(rand.NewSource(5))
	for range 5000 {
		text := randomSource(r)
		cards, _ := Read(text, false)
		other, numbers := moved(r, text)
		got, f := Read(other, false)
		if f != (api.Fault{}) || !sameTexts(got, cards) {
			t.Fatalf("%v, %+v in\n%s\n%+v in\n%s", f, got, other, cards, text)
		}
		for i, c := range cards {
			for j, mark := range c.Marks {
				mark.At.Line = numbers[mark.At.Line-1]
				if len(got[i].Marks) != len(c.Marks) || got[i].Marks[j] != mark {
					t.Fatalf("mark %d of %+v in\n%s\nof %+v in\n%s", j, got[i], other, c, text)
				}
			}
		}
	}
}
