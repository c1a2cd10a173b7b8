package divisions

import (
	"slices"

	"columnseven/api"
	"columnseven/entries"
)

// The sections of the data division, in their order.
const (
	fileSection = iota
	workingSection
	linkageSection
	reportSection
	screenSection
	sections // how many there are
)

// sectionWords returns the words with which the sections of the data division begin.
func sectionWords() [sections]string {
	return [sections]string{
		fileSection:    "FILE",
		workingSection: "WORKING-STORAGE",
		linkageSection: "LINKAGE",
		reportSection:  "REPORT",
		screenSection:  "SCREEN",
	}
}

func (p *parser) readData() {
	if !p.pass("DATA") {
		return
	}
	p.takeWords("DIVISION")
	p.take(isPeriod)
	for section, word := range sectionWords() {
		if p.pass(word) {
			p.takeWords("SECTION")
			p.take(isPeriod)
			p.readSection(section)
		}
	}
}

// readSection reads what stands behind the header of a section of the data division.
func (p *parser) readSection(section int) {
	switch section {
	case fileSection:
		for p.sees(isWord("FD", "SD")) {
			p.readDescription()
		}
	case workingSection:
		p.program.Working = p.readEntries()
	case linkageSection:
		p.program.Linkage = p.readEntries()
	case reportSection:
		p.program.Reports = p.readOthers()
	case screenSection:
		p.program.Screens = p.readOthers()
	}
}

// readDescription reads an FD or SD, with its entries.
func (p *parser) readDescription() {
	isSort := p.next().Text == "SD"
	name := p.takeName()
	i := p.fileIndex(name.Text)
	if slices.Contains(p.described, name.Text) {
		p.refuse(api.ErrThere, name.At)
	}
	if i < 0 {
		p.refuse(api.ErrNone, name.At)
		return
	}
	p.described = append(p.described, name.Text)
	f := &p.program.Files[i]
	f.Sort = isSort
	if isSort && f.Organization != Sequential {
		p.refuse(api.ErrKind, name.At)
	}
	if !isSort {
		p.readLabel()
		f.Reports = p.readReports()
	}
	p.take(isPeriod)
	f.Records = p.readEntries()
}

// readLabel reads the clause LABEL of an FD, which has no meaning.
func (p *parser) readLabel() {
	if p.pass("LABEL") {
		p.take(isWord("RECORD", "RECORDS"))
		p.pass("IS", "ARE")
		p.take(isWord("STANDARD", "OMITTED"))
	}
}

// readReports reads the clause REPORT of an FD.
func (p *parser) readReports() []string {
	if !p.pass("REPORT", "REPORTS") {
		return nil
	}
	p.pass("IS", "ARE")
	return p.takeList()
}

// readEntries reads data description entries, as long as they begin with a number.
func (p *parser) readEntries() []entries.Entry {
	all := p.rest
	for p.sees(isNumber) {
		p.takeWhile(isInside)
		// An entry that has no period is left to entries.Parse, which finds its first fault.
		if p.sees(isPeriod) {
			p.next()
		}
	}
	l, fault := entries.Parse(all[:len(all)-len(p.rest)])
	p.refuse(fault.E, fault.At)
	return l
}

// readOthers reads the tokens of a section that another layer reads.
func (p *parser) readOthers() []api.Token {
	headers := sectionWords()
	isSection, isEnd := isWord(headers[:]...), isWord("SECTION")
	isProcedure, isDivision := isWord("PROCEDURE"), isWord("DIVISION")
	isOther := func(api.Token) bool {
		return !p.sees(isSection, isEnd, isPeriod) && !p.sees(isProcedure, isDivision)
	}
	return p.takeWhile(isOther)
}
