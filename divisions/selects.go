package divisions

import (
	"slices"

	"columnseven/api"
)

func (p *parser) readEnvironment() {
	if !p.pass("ENVIRONMENT") {
		return
	}
	p.takeWords("DIVISION")
	p.take(isPeriod)
	if !p.pass("INPUT-OUTPUT") {
		return
	}
	p.takeWords("SECTION")
	p.take(isPeriod)
	p.takeWords("FILE-CONTROL")
	p.take(isPeriod)
	for p.pass("SELECT") {
		p.readSelect()
	}
	p.program.Files = slices.Clip(p.program.Files)
}

// A selection is a file as its SELECT tells it.
type selection struct {
	File
	isRelative bool     // the key is a RELATIVE KEY
	clauses    []string // those that it has
}

// readSelect reads what stands behind the word SELECT.
func (p *parser) readSelect() {
	name := p.takeName()
	if p.fileIndex(name.Text) >= 0 {
		p.refuse(api.ErrThere, name.At)
	}
	if len(p.program.Files) == api.MaxFiles {
		p.refuse(api.ErrLimit, name.At)
	}
	s := selection{File: File{Name: name.Text, At: name.At}}
	p.takeWords("ASSIGN")
	p.pass("TO")
	if p.sees(isQuote) {
		s.Assign = p.next().Text
	} else {
		s.Assign = p.takeName().Text
	}
	for p.sees(isWord("ORGANIZATION", "ACCESS", "RECORD", "RELATIVE", "ALTERNATE", "FILE", "STATUS")) {
		p.readClause(&s)
	}
	end := p.take(isPeriod)
	if !s.isPossible() {
		p.refuse(api.ErrKind, end.At)
	}
	s.Alternates = slices.Clip(s.Alternates)
	p.program.Files = append(p.program.Files, s.File)
}

// fileIndex returns the index of the file of a name, or -1 if there is none.
func (p *parser) fileIndex(name string) int {
	return slices.IndexFunc(p.program.Files, func(f File) bool { return f.Name == name })
}

// readClause reads a clause of a SELECT.
func (p *parser) readClause(s *selection) {
	first := p.next()
	switch first.Text {
	case "ORGANIZATION":
		p.begin(s, "ORGANIZATION", first.At)
		p.pass("IS")
		s.Organization = p.takeChoice("SEQUENTIAL", "RELATIVE", "INDEXED")
	case "ACCESS":
		p.begin(s, "ACCESS", first.At)
		p.pass("MODE")
		p.pass("IS")
		s.Access = p.takeChoice("SEQUENTIAL", "RANDOM", "DYNAMIC")
	case "RECORD", "RELATIVE":
		p.begin(s, "KEY", first.At)
		p.pass("KEY")
		p.pass("IS")
		s.Key = p.takeNames()
		s.isRelative = first.Text == "RELATIVE"
	case "ALTERNATE":
		p.pass("RECORD")
		p.pass("KEY")
		p.pass("IS")
		s.Alternates = append(s.Alternates, p.readAlternate())
	default:
		p.begin(s, "STATUS", first.At)
		if first.Text == "FILE" {
			p.takeWords("STATUS")
		}
		p.pass("IS")
		s.Status = p.takeNames()
	}
}

// begin notes a clause that a SELECT may have once.
func (p *parser) begin(s *selection, clause string, at api.Pos) {
	if slices.Contains(s.clauses, clause) {
		p.refuse(api.ErrThere, at)
	}
	s.clauses = append(s.clauses, clause)
}

// readAlternate reads the names of an alternate key, and what may follow them.
func (p *parser) readAlternate() Alternate {
	a := Alternate{Key: p.takeNames()}
	if p.pass("WITH") {
		p.takeWords("DUPLICATES")
		a.Duplicates = true
	} else {
		a.Duplicates = p.pass("DUPLICATES")
	}
	return a
}

// isPossible reports whether the clauses of a file may stand together.
func (s selection) isPossible() bool {
	hasKey, hasAlternates := len(s.Key) > 0, len(s.Alternates) > 0
	switch s.Organization {
	case Indexed:
		return hasKey && !s.isRelative
	case Relative:
		return hasKey == s.isRelative && (hasKey || s.Access == Serial) && !hasAlternates
	}
	return !hasKey && !hasAlternates && s.Access == Serial
}
