package divisions

import (
	"slices"

	"columnseven/api"
)

func (p *parser) readProcedure() {
	if p.sees(isWord("PROCEDURE")) {
		p.requireDescriptions()
	}
	p.takeWords("PROCEDURE", "DIVISION")
	if p.pass("USING") {
		p.program.Using = p.takeList()
	}
	p.take(isPeriod)
	if p.pass("DECLARATIVES") {
		p.readDeclaratives()
	}
	p.program.Paragraphs = p.readParagraphs(api.Token{})
	for p.seesSection() {
		l := p.readParagraphs(p.takeSection())
		p.program.Paragraphs = append(p.program.Paragraphs, l...)
	}
	p.program.Paragraphs = slices.Clip(p.program.Paragraphs)
	if len(p.rest) > 0 {
		p.refuse(api.ErrForm, p.here())
	}
}

// requireDescriptions refuses the first file that has neither an FD nor an SD.
func (p *parser) requireDescriptions() {
	isMissing := func(f File) bool { return !slices.Contains(p.described, f.Name) }
	if i := slices.IndexFunc(p.program.Files, isMissing); i >= 0 {
		p.refuse(api.ErrNone, p.program.Files[i].At)
	}
}

// readDeclaratives reads what stands behind the word DECLARATIVES.
func (p *parser) readDeclaratives() {
	p.take(isPeriod)
	for p.seesSection() {
		header := p.takeSection()
		p.takeWords("USE")
		use := Use{Section: header.Text, Tokens: p.takeWhile(isInside)}
		p.take(isPeriod)
		use.Paragraphs = p.readParagraphs(header)
		p.program.Uses = append(p.program.Uses, use)
	}
	p.program.Uses = slices.Clip(p.program.Uses)
	isEnd := func(t api.Token) bool { return t.Left && isWord("END")(t) }
	if !p.sees(isEnd, isWord("DECLARATIVES")) {
		p.refuse(api.ErrForm, p.here())
	}
	p.takeWords("END", "DECLARATIVES")
	p.take(isPeriod)
}

// seesSection reports whether a section header comes next.
func (p *parser) seesSection() bool { return p.sees(isHeading, isWord("SECTION"), isPeriod) }

// takeSection reads a section header, and returns its name.
func (p *parser) takeSection() api.Token {
	header := p.next()
	p.takeWords("SECTION")
	p.take(isPeriod)
	isUse := func(u Use) bool { return u.Section == header.Text }
	isParagraph := func(x Paragraph) bool { return x.Section == header.Text }
	if slices.ContainsFunc(p.program.Uses, isUse) || slices.ContainsFunc(p.program.Paragraphs, isParagraph) {
		p.refuse(api.ErrThere, header.At)
	}
	return header
}

// readParagraphs reads the paragraphs of a section, up to the next token in area A that begins none of them.
// The zero token stands for the header where there is no section.
func (p *parser) readParagraphs(section api.Token) []Paragraph {
	var l []Paragraph
	add := func(x Paragraph) {
		isSame := func(other Paragraph) bool { return other.Name == x.Name }
		if slices.ContainsFunc(l, isSame) {
			p.refuse(api.ErrThere, x.At)
		}
		if p.paragraphs == api.MaxParagraphs {
			p.refuse(api.ErrLimit, x.At)
		}
		p.paragraphs++
		x.Section = section.Text
		l = append(l, x)
	}
	if unnamed := p.takeWhile(isIndented); len(unnamed) > 0 {
		add(Paragraph{Tokens: unnamed, At: unnamed[0].At})
	}
	for p.sees(isHeading, isPeriod) {
		header := p.next()
		p.next()
		add(Paragraph{Name: header.Text, Tokens: p.takeWhile(isIndented), At: header.At})
	}
	if len(l) == 0 && section.Text != "" {
		add(Paragraph{At: section.At})
	}
	return slices.Clip(l)
}
