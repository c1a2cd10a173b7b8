package divisions

// A parser reads a program, division by division.
type parser struct {
	reader
	program    Program
	described  []string // the names of the files that have an FD or SD
	paragraphs int      // how many there are, with those of the declaratives
}

func (p *parser) readIdentification() {
	p.takeWords("IDENTIFICATION", "DIVISION")
	p.take(isPeriod)
	p.takeWords("PROGRAM-ID")
	p.take(isPeriod)
	p.program.Name = p.takeName().Text
	p.take(isPeriod)
}
