package divisions_test

import (
	"regexp"
	"slices"
	"strings"

	"columnseven/api"
	"columnseven/divisions"
	"columnseven/entries"
	"columnseven/words"
)

// P8.1 once more: the forms of the chapter as regular expressions over a text for each token,
// and all faults of a list of tokens, of which the first one counts.

// formLines are the forms in front of the procedures: each line is another form of what its first word names.
// Braces contain what may be missing or follow several times.
const formLines = `
names name { OF|IN name }
clause ORGANIZATION [ IS ] SEQUENTIAL|RELATIVE|INDEXED
clause ACCESS [ MODE ] [ IS ] SEQUENTIAL|RANDOM|DYNAMIC
clause RECORD [ KEY ] [ IS ] names
clause RELATIVE [ KEY ] [ IS ] names
clause ALTERNATE [ RECORD ] [ KEY ] [ IS ] names [ [ WITH ] DUPLICATES ]
clause [ FILE ] STATUS [ IS ] names
select SELECT name ASSIGN [ TO ] name|quote { clause } .
entry number { inside } .
description FD name [ LABEL RECORD|RECORDS [ IS|ARE ] STANDARD|OMITTED ] [ REPORT|REPORTS [ IS|ARE ] name { name } ] . { entry }
description SD name . { entry }
identification IDENTIFICATION DIVISION . PROGRAM-ID . name .
environment [ ENVIRONMENT DIVISION . [ INPUT-OUTPUT SECTION . FILE-CONTROL . { select } ] ]
records [ FILE SECTION . { description } ] [ WORKING-STORAGE SECTION . { entry } ] [ LINKAGE SECTION . { entry } ]
upToReport identification environment DATA DIVISION . records REPORT SECTION .
upToScreen identification environment DATA DIVISION . records [ REPORT SECTION . { other } ] SCREEN SECTION .
front identification environment [ DATA DIVISION . records [ REPORT SECTION . { other } ] [ SCREEN SECTION . { other } ] ] PROCEDURE DIVISION [ USING name { name } ] .`

// A form is a pattern of all its texts, and one of all beginnings of these.
type form struct{ all, begun string }

// formsOf returns the forms of formLines.
func formsOf() map[string]form {
	found := map[string]form{"inside": {"(?:[^ .][^ ]* )", "(?:[^ .][^ ]* )?"}}
	for line := range strings.Lines(strings.TrimSpace(formLines)) {
		name, text, _ := strings.Cut(strings.TrimSpace(line), " ")
		items := strings.Fields(text)
		next := sequence(&items, found)
		if other, is := found[name]; is {
			next = form{"(?:" + other.all + "|" + next.all + ")", "(?:" + other.begun + "|" + next.begun + ")"}
		}
		found[name] = next
	}
	return found
}

// sequence returns the form of items up to a closing bracket or brace.
func sequence(items *[]string, known map[string]form) form {
	var parts []form
	for len(*items) > 0 {
		item := (*items)[0]
		*items = (*items)[1:]
		switch item {
		case "]", "}":
			return chained(parts)
		case "[":
			part := sequence(items, known)
			parts = append(parts, form{"(?:" + part.all + ")?", part.begun})
		case "{":
			part := sequence(items, known)
			repeated := "(?:" + part.all + ")*"
			parts = append(parts, form{repeated, repeated + part.begun})
		default:
			part, is := known[item]
			if !is {
				all := "(?:" + strings.ReplaceAll(item, ".", `\.`) + ") "
				part = form{all, "(?:" + all + ")?"}
			}
			parts = append(parts, part)
		}
	}
	return chained(parts)
}

// chained returns the form of parts that follow one another.
func chained(parts []form) form {
	var f form
	for _, part := range slices.Backward(parts) {
		f.begun = "(?:" + part.begun + "|" + part.all + "(?:" + f.begun + "))"
		f.all = part.all + f.all
	}
	return f
}

// model parses programs.
type model struct {
	all   map[string]*regexp.Regexp // by the names of the forms
	begun *regexp.Regexp            // the beginnings of what is in front of the procedures
}

func newModel() model {
	m := model{all: map[string]*regexp.Regexp{}}
	for name, f := range formsOf() {
		m.all[name] = regexp.MustCompile("^(?:" + f.all + ")")
		m.all[name].Longest()
		if name == "front" {
			m.begun = regexp.MustCompile("^" + f.begun)
			m.begun.Longest()
		}
	}
	return m
}

// reservedWords are the reserved words, which words.All makes anew each time.
var reservedWords = words.All()

// encoded returns a text for a token.
func encoded(x api.Token) string {
	_, reserved := slices.BinarySearch(reservedWords, x.Text)
	switch {
	case x.Kind == api.Word && reserved:
		return x.Text
	case x.Kind == api.Word && x.Text != "":
		return "name"
	case x.Kind == api.Number:
		return "number"
	case x.Kind == api.Quote:
		return "quote"
	case x.Kind == api.Period:
		return "."
	}
	return "?"
}

// joined returns texts in one, in which each is ended by a space.
func joined(texts []string) string { return strings.Join(append(slices.Clone(texts), ""), " ") }

// size returns how many texts have been joined.
func size(text string) int { return strings.Count(text, " ") }

// A flaw is a fault at a token, and where it stands in the table of P8.1.
type flaw struct {
	index, rank int
	fault       api.Fault
}

// The places in the table.
const (
	formRank = iota
	wordRank
	thereRank
	foreignRank
	limitRank
	entriesRank
	kindRank
	missingRank
)

// reading is a list of tokens that a model reads.
type reading struct {
	model
	l          []api.Token
	texts      []string // in which others stand for the tokens of some sections
	viable     int      // how many tokens fit, in front of the procedures
	p          divisions.Program
	flaws      []flaw
	paragraphs int
}

// parse is divisions.Parse, for tokens that have different positions.
func (m model) parse(l []api.Token) (divisions.Program, api.Fault) {
	if len(l) == 0 {
		return divisions.Program{}, api.Fault{E: api.ErrForm}
	}
	r := reading{model: m, l: l}
	for _, x := range l {
		r.texts = append(r.texts, encoded(x))
	}
	r.hideOthers("upToReport")
	r.hideOthers("upToScreen")
	r.viable = size(m.begun.FindString(joined(r.texts)))
	front := m.all["front"].FindString(joined(r.texts))
	r.readFront()
	if front == "" {
		r.misfit(r.viable)
	} else {
		r.readProcedures(size(front))
	}
	if len(r.flaws) > 0 {
		return divisions.Program{}, slices.MinFunc(r.flaws, func(a, b flaw) int {
			return 100*(a.index-b.index) + a.rank - b.rank
		}).fault
	}
	return r.p, api.Fault{}
}

// nextPattern is what ends the tokens of a section that another layer reads.
var nextPattern = regexp.MustCompile(`^(?:(?:FILE|WORKING-STORAGE|LINKAGE|REPORT|SCREEN) SECTION \.|PROCEDURE DIVISION) `)

// hideOthers replaces the texts of these tokens, which stand behind what a form matches.
func (r *reading) hideOthers(name string) {
	found := r.all[name].FindString(joined(r.texts))
	if found == "" {
		return
	}
	for i := size(found); i < len(r.texts) && !nextPattern.MatchString(joined(r.texts[i:min(i+3, len(r.texts))])); i++ {
		r.texts[i] = "other"
	}
}

// add notes a fault at a token.
func (r *reading) add(e api.Errno, rank, i int) {
	r.flaws = append(r.flaws, flaw{i, rank, api.Fault{E: e, At: r.l[i].At}})
}

// misfit notes a fault at a token that does not fit, or behind all of them.
func (r *reading) misfit(i int) {
	if i == len(r.l) {
		r.flaws = append(r.flaws, flaw{i, formRank, api.Fault{E: api.ErrForm, At: r.l[i-1].At}})
		return
	}
	goesOn := func(text string) bool {
		longer := joined(append(slices.Clone(r.texts[:i]), text))
		return r.begun.FindString(longer) == longer
	}
	_, reserved := slices.BinarySearch(reservedWords, r.texts[i])
	if reserved && i <= r.viable && goesOn("name") && !goesOn(".") {
		r.add(api.ErrWord, wordRank, i)
		return
	}
	r.add(api.ErrForm, formRank, i)
}

// readFront reads what is in front of the procedures, as far as the tokens fit.
func (r *reading) readFront() {
	texts := slices.Clone(r.texts[:r.viable])
	runs := r.readRuns(texts)
	for i, text := range texts {
		switch {
		case text == "PROGRAM-ID" && i+2 < len(texts):
			r.p.Name = r.l[i+2].Text
		case text == "SELECT" && i+1 < len(texts):
			r.readSelect(texts, i)
		case (text == "FD" || text == "SD") && i+1 < len(texts):
			r.readDescription(texts, i, runs)
		case text == "WORKING-STORAGE" && i+3 <= len(texts):
			r.p.Working = runs[i+3]
		case text == "LINKAGE" && i+3 <= len(texts):
			r.p.Linkage = runs[i+3]
		case text == "REPORT" && i+1 < len(texts) && texts[i+1] == "SECTION":
			r.p.Reports = r.others(texts, i+3)
		case text == "SCREEN":
			r.p.Screens = r.others(texts, i+3)
		case text == "PROCEDURE":
			r.findMissing(texts, i)
		case text == "USING":
			r.p.Using = r.namesFrom(texts, i+1)
		}
	}
}

// readRuns returns the entries by the index of the first token, and hides the texts of their tokens.
func (r *reading) readRuns(texts []string) map[int][]entries.Entry {
	runs := map[int][]entries.Entry{}
	for i := 0; i < len(texts); i++ {
		if texts[i] != "number" {
			continue
		}
		end := i
		for end < len(texts) && texts[end] == "number" {
			for end < len(texts) && texts[end] != "." {
				texts[end] = "other"
				end++
			}
			end = min(end+1, len(texts))
		}
		list, fault := entries.Parse(r.l[i:end])
		if fault != (api.Fault{}) {
			at := slices.IndexFunc(r.l, func(x api.Token) bool { return x.At == fault.At })
			r.flaws = append(r.flaws, flaw{at, entriesRank, fault})
		}
		runs[i] = list
		i = end - 1
	}
	return runs
}

// others returns the tokens of a section that another layer reads.
func (r *reading) others(texts []string, i int) []api.Token {
	var list []api.Token
	for ; i < len(texts) && texts[i] == "other"; i++ {
		list = append(list, r.l[i])
	}
	return list
}

// namesFrom returns the names that follow one another.
func (r *reading) namesFrom(texts []string, i int) []string {
	var list []string
	for ; i < len(texts) && texts[i] == "name"; i++ {
		list = append(list, r.l[i].Text)
	}
	return list
}

// namesIn returns the names among some tokens.
func (r *reading) namesIn(texts []string, from, to int) []string {
	var list []string
	for i := from; i < to; i++ {
		if texts[i] == "name" {
			list = append(list, r.l[i].Text)
		}
	}
	return list
}

// readSelect reads the SELECT at an index.
func (r *reading) readSelect(texts []string, i int) {
	f := divisions.File{Name: r.l[i+1].Text, At: r.l[i+1].At}
	if slices.ContainsFunc(r.p.Files, func(other divisions.File) bool { return other.Name == f.Name }) {
		r.add(api.ErrThere, thereRank, i+1)
	}
	if len(r.p.Files) >= 16 {
		r.add(api.ErrLimit, limitRank, i+1)
	}
	end := i
	for end < len(texts) && texts[end] != "." {
		end++
	}
	at := min(i+3, end)
	if at < end && texts[at] == "TO" {
		at++
	}
	if at < end {
		f.Assign = r.l[at].Text
		at++
	}
	seen := map[string]bool{}
	relative := false
	for at < end {
		part := joined(texts[at:end])
		found := r.all["clause"].FindString(part)
		first := strings.Fields(part)[0]
		kind := map[string]string{"RELATIVE": "RECORD", "FILE": "STATUS"}[first]
		if kind == "" {
			kind = first
		}
		if seen[kind] && kind != "ALTERNATE" {
			r.add(api.ErrThere, thereRank, at)
		}
		seen[kind] = true
		relative = relative || first == "RELATIVE"
		if found == "" {
			break
		}
		list := strings.Fields(found)
		last := list[len(list)-1]
		names := r.namesIn(texts, at, at+len(list))
		switch kind {
		case "ORGANIZATION":
			f.Organization = map[string]uint8{"SEQUENTIAL": 0, "RELATIVE": 1, "INDEXED": 2}[last]
		case "ACCESS":
			f.Access = map[string]uint8{"SEQUENTIAL": 0, "RANDOM": 1, "DYNAMIC": 2}[last]
		case "RECORD":
			f.Key = names
		case "STATUS":
			f.Status = names
		case "ALTERNATE":
			f.Alternates = append(f.Alternates, divisions.Alternate{Key: names, Duplicates: last == "DUPLICATES"})
		}
		at += len(list)
	}
	indexed, sequential, direct, record := f.Organization == 2, f.Organization == 0, f.Access != 0, f.Key != nil && !relative
	wrong := indexed && f.Key == nil || f.Organization == 1 && direct && f.Key == nil || record && !indexed || relative && f.Organization != 1 || f.Alternates != nil && !indexed || direct && sequential
	if end < len(texts) && wrong {
		r.add(api.ErrKind, kindRank, end)
	}
	r.p.Files = append(r.p.Files, f)
}

// readDescription reads the FD or SD at an index.
func (r *reading) readDescription(texts []string, i int, runs map[int][]entries.Entry) {
	sort := texts[i] == "SD"
	name := r.l[i+1].Text
	before := 0
	for j := range i {
		if (texts[j] == "FD" || texts[j] == "SD") && r.l[j+1].Text == name {
			before++
		}
	}
	at := slices.IndexFunc(r.p.Files, func(f divisions.File) bool { return f.Name == name })
	switch {
	case before > 0:
		r.add(api.ErrThere, thereRank, i+1)
		return
	case at < 0:
		r.add(api.ErrNone, foreignRank, i+1)
		return
	case sort && r.p.Files[at].Organization != 0:
		r.add(api.ErrKind, kindRank, i+1)
	}
	f := &r.p.Files[at]
	f.Sort = sort
	for j := i; j < len(texts); j++ {
		switch texts[j] {
		case "REPORT", "REPORTS":
			for j++; j < len(texts) && (texts[j] == "IS" || texts[j] == "ARE"); {
				j++
			}
			f.Reports = r.namesFrom(texts, j)
			j--
		case ".":
			f.Records = runs[j+1]
			return
		}
	}
}

// findMissing finds the first file without an FD or SD.
func (r *reading) findMissing(texts []string, end int) {
	for _, f := range r.p.Files {
		described := false
		for j := range end {
			described = described || (texts[j] == "FD" || texts[j] == "SD") && r.l[j+1].Text == f.Name
		}
		if !described {
			r.flaws = append(r.flaws, flaw{end, missingRank, api.Fault{E: api.ErrNone, At: f.At}})
			return
		}
	}
}

// The patterns of the procedures: a token is a letter, and an exclamation mark if it begins in area A, or a hyphen.
const (
	bodyForm    = `((?:.-)*)((?:n!\.[-!](?:.-)*)*)`
	sectionForm = `n!s[-!]\.[-!]`
)

var (
	bodyPattern      = regexp.MustCompile("^" + bodyForm)
	sectionPattern   = regexp.MustCompile("^" + sectionForm)
	usePattern       = regexp.MustCompile("^" + sectionForm + `u[-!]((?:[^.][-!])*)\.[-!]`)
	paragraphPattern = regexp.MustCompile(`n!\.[-!](?:.-)*`)
)

// letters returns the text of tokens for these patterns.
func letters(l []api.Token) string {
	var all strings.Builder
	for _, x := range l {
		letter := map[string]string{"name": "n", "SECTION": "s", "USE": "u", "DECLARATIVES": "d", "END": "e", ".": "."}[encoded(x)]
		if letter == "" {
			letter = "o"
		}
		all.WriteString(letter)
		if x.Left {
			all.WriteString("!")
		} else {
			all.WriteString("-")
		}
	}
	return all.String()
}

// readProcedures reads the tokens from an index on.
func (r *reading) readProcedures(i int) {
	text := letters(r.l)
	sections := map[string]bool{}
	section := func(i int) {
		if sections[r.l[i].Text] {
			r.add(api.ErrThere, thereRank, i)
		}
		sections[r.l[i].Text] = true
	}
	if strings.HasPrefix(text[2*i:], "d") {
		for _, part := range []string{"d", "."} {
			if !strings.HasPrefix(text[2*i:], part) {
				r.misfit(i)
				return
			}
			i++
		}
		for sectionPattern.MatchString(text[2*i:]) {
			section(i)
			found := usePattern.FindStringSubmatch(text[2*i:])
			if found == nil {
				if i += 3; i < len(r.l) && r.texts[i] == "USE" {
					i = len(r.l)
				}
				r.misfit(i)
				return
			}
			use := divisions.Use{Section: r.l[i].Text, Tokens: slices.Concat(r.l[i+4 : i+4+len(found[1])/2])}
			header := i
			i += len(found[0]) / 2
			use.Paragraphs, i = r.readBody(text, header, i)
			r.p.Uses = append(r.p.Uses, use)
		}
		for _, part := range []string{"^e!d", "^d", `^\.`} {
			if !regexp.MustCompile(part).MatchString(text[2*i:]) {
				r.misfit(i)
				return
			}
			i++
		}
	}
	r.p.Paragraphs, i = r.readBody(text, -1, i)
	for sectionPattern.MatchString(text[2*i:]) {
		section(i)
		var list []divisions.Paragraph
		list, i = r.readBody(text, i, i+3)
		r.p.Paragraphs = append(r.p.Paragraphs, list...)
	}
	if i < len(r.l) {
		r.add(api.ErrForm, formRank, i)
	}
}

// readBody reads the paragraphs of a section, whose name is at an index, or of none.
func (r *reading) readBody(text string, header, i int) ([]divisions.Paragraph, int) {
	found := bodyPattern.FindStringSubmatch(text[2*i:])
	section := ""
	if header >= 0 {
		section = r.l[header].Text
	}
	var list []divisions.Paragraph
	add := func(at int, name string, tokens []api.Token) {
		if name != "" && slices.ContainsFunc(list, func(x divisions.Paragraph) bool { return x.Name == name }) {
			r.add(api.ErrThere, thereRank, at)
		}
		if r.paragraphs++; r.paragraphs > 512 {
			r.add(api.ErrLimit, limitRank, at)
		}
		list = append(list, divisions.Paragraph{Section: section, Name: name, Tokens: slices.Concat(tokens), At: r.l[at].At})
	}
	if end := i + len(found[1])/2; end > i {
		add(i, "", r.l[i:end])
		i = end
	}
	for _, paragraph := range paragraphPattern.FindAllString(found[2], -1) {
		end := i + len(paragraph)/2
		add(i, r.l[i].Text, r.l[i+2:end])
		i = end
	}
	if len(list) == 0 && header >= 0 {
		add(header, "", nil)
	}
	return list, i
}
