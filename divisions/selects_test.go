package divisions_test

import (
	"fmt"
	"slices"
	"strings"
	"testing"

	"columnseven/api"
	"columnseven/divisions"
)

// P8.1: the files

// fileOf returns the file of a program whose SELECT has some clauses.
func fileOf(t *testing.T, clauses string) divisions.File {
	t.Helper()
	p := parsed(t, selecting("SELECT F ASSIGN A\n"+clauses+" .", "F"))
	if len(p.Files) != 1 {
		t.Fatal(clauses, len(p.Files))
	}
	return p.Files[0]
}

// checkFile fails unless a SELECT with some clauses is shown as wanted, behind what all of them have in common.
func checkFile(t *testing.T, clauses, want string) {
	t.Helper()
	got := strings.TrimPrefix(fileText(fileOf(t, clauses)), `file 3:15 F "A" `)
	if got != want {
		t.Errorf("%s: %s, wanted %s", clauses, got, want)
	}
}

func TestAssign(t *testing.T) {
	for text, want := range map[string]string{
		"ASSIGN A": "A", "ASSIGN TO A": "A", "ASSIGN F": "F", "ASSIGN TO 1A": "1A", `ASSIGN "a/b.c"`: "a/b.c", `ASSIGN TO "MOVE"`: "MOVE", `ASSIGN TO "A""B"`: `A"B`, `ASSIGN TO " "`: " ",
	} {
		p := parsed(t, selecting("SELECT F "+text+" .", "F"))
		if len(p.Files) != 1 || p.Files[0].Assign != want || p.Files[0].Name != "F" {
			t.Errorf("%s: %s", text, show(p))
		}
	}
	// A Quote that no source text has is one, too.
	l := scan(selecting(`SELECT F ASSIGN "X".`, "F"))
	i := slices.IndexFunc(l, func(x api.Token) bool { return x.Kind == api.Quote })
	l[i].Text = ""
	if p, fault := divisions.Parse(l); fault != (api.Fault{}) || p.Files[0].Assign != "" {
		t.Error(show(p), fault)
	}
}

func TestOrganization(t *testing.T) {
	checkFile(t, "", "organization 0 access 0")
	for _, is := range []string{"", "IS "} {
		checkFile(t, "ORGANIZATION "+is+"SEQUENTIAL", "organization 0 access 0")
		checkFile(t, "ORGANIZATION "+is+"RELATIVE", "organization 1 access 0")
		checkFile(t, "ORGANIZATION "+is+"INDEXED RECORD K", "organization 2 access 0 key K")
	}
	if divisions.Sequential != 0 || divisions.Relative != 1 || divisions.Indexed != 2 {
		t.Error(divisions.Sequential, divisions.Relative, divisions.Indexed)
	}
}

func TestAccess(t *testing.T) {
	for _, text := range forms("ACCESS [MODE] [IS]") {
		checkFile(t, text+" SEQUENTIAL", "organization 0 access 0")
		for i, mode := range []string{"SEQUENTIAL", "RANDOM", "DYNAMIC"} {
			checkFile(t, text+" "+mode+" ORGANIZATION RELATIVE RELATIVE K", fmt.Sprintf("organization 1 access %d key K", i))
			checkFile(t, text+" "+mode+" ORGANIZATION INDEXED RECORD K", fmt.Sprintf("organization 2 access %d key K", i))
		}
	}
	if divisions.Serial != 0 || divisions.Random != 1 || divisions.Dynamic != 2 {
		t.Error(divisions.Serial, divisions.Random, divisions.Dynamic)
	}
}

func TestKeys(t *testing.T) {
	names := map[string]string{"K": "K", "K OF R": "K R", "K IN R": "K R", "A OF B IN C OF D": "A B C D"}
	for name, want := range names {
		for _, text := range forms("[KEY] [IS]") {
			checkFile(t, "ORGANIZATION INDEXED RECORD "+text+" "+name, "organization 2 access 0 key "+want)
			checkFile(t, "ORGANIZATION RELATIVE RELATIVE "+text+" "+name, "organization 1 access 0 key "+want)
		}
		for _, text := range forms("[FILE] STATUS [IS]") {
			checkFile(t, text+" "+name, "organization 0 access 0 status "+want)
		}
		for _, text := range forms("ALTERNATE [RECORD] [KEY] [IS]") {
			checkFile(t, "ORGANIZATION INDEXED RECORD K "+text+" "+name, "organization 2 access 0 key K alternate "+want)
			for _, end := range []string{"DUPLICATES", "WITH DUPLICATES"} {
				checkFile(t, "ORGANIZATION INDEXED RECORD K "+text+" "+name+" "+end, "organization 2 access 0 key K alternate "+want+" twice")
			}
		}
	}
}

func TestAlternates(t *testing.T) {
	checkFile(t, "ALTERNATE A ORGANIZATION INDEXED ALTERNATE B OF R WITH DUPLICATES RECORD K ALTERNATE KEY A DUPLICATES ALTERNATE RECORD IS D",
		"organization 2 access 0 key K alternate A alternate B R twice alternate A twice alternate D")
	checkFile(t, "ORGANIZATION INDEXED RECORD K "+strings.Repeat("ALTERNATE A ", 100), "organization 2 access 0 key K"+strings.Repeat(" alternate A", 100))
}

// Clauses may stand in any order, and the last word of one does not belong to the next one.
func TestClausesInAnyOrder(t *testing.T) {
	for _, order := range orders("ORGANIZATION IS INDEXED", "ACCESS MODE IS DYNAMIC", "RECORD KEY IS K OF R", "ALTERNATE RECORD KEY IS A IN R WITH DUPLICATES", "FILE STATUS IS S OF T") {
		checkFile(t, strings.Join(order, " "), "organization 2 access 2 key K R alternate A R twice status S T")
	}
	for _, order := range orders("ORGANIZATION RELATIVE", "ACCESS RANDOM", "RELATIVE N", "STATUS S") {
		checkFile(t, strings.Join(order, " "), "organization 1 access 1 key N status S")
	}
	for _, order := range orders("ORGANIZATION INDEXED", "ACCESS SEQUENTIAL", "RECORD K", "ALTERNATE A", "ALTERNATE A", "STATUS S") {
		checkFile(t, strings.Join(order, " "), "organization 2 access 0 key K alternate A alternate A status S")
	}
	// Each of the others may be missing.
	for _, text := range forms("[ACCESS SEQUENTIAL] [STATUS S]") {
		want := "organization 0 access 0"
		if strings.HasSuffix(text, "S") {
			want += " status S"
		}
		checkFile(t, text, want)
		checkFile(t, "ORGANIZATION SEQUENTIAL "+text, want)
		checkFile(t, text+" ORGANIZATION RELATIVE", strings.Replace(want, "organization 0", "organization 1", 1))
	}
}

// possible reports whether a file may have some clauses, as the chapter tells it fault by fault.
func possible(organization, access, key, alternate string) bool {
	indexed, relative := organization == "INDEXED", organization == "RELATIVE"
	direct := access == "RANDOM" || access == "DYNAMIC"
	switch {
	case indexed && key == "":
		return false
	case relative && direct && key == "":
		return false
	case key == "RECORD K" && !indexed:
		return false
	case key == "RELATIVE K" && !relative:
		return false
	case alternate != "" && !indexed:
		return false
	case direct && !indexed && !relative:
		return false
	}
	return true
}

func TestClausesTogether(t *testing.T) {
	impossible := 0
	for _, organization := range []string{"", "SEQUENTIAL", "RELATIVE", "INDEXED"} {
		for _, access := range []string{"", "SEQUENTIAL", "RANDOM", "DYNAMIC"} {
			for _, key := range []string{"", "RECORD K", "RELATIVE K"} {
				for _, alternate := range []string{"", "ALTERNATE A"} {
					text := "SELECT F ASSIGN A " + key + " " + alternate
					if organization != "" {
						text += " ORGANIZATION " + organization
					}
					if access != "" {
						text += " ACCESS " + access
					}
					if possible(organization, access, key, alternate) {
						parsed(t, selecting(text+" .", "F"))
						continue
					}
					impossible++
					checkFaults(t, api.ErrKind, selecting(text+" ~.", "F"))
				}
			}
		}
	}
	if impossible != 78 {
		t.Error(impossible)
	}
}

func TestSeveralFiles(t *testing.T) {
	text := selecting("SELECT F ASSIGN A.\nSELECT G ASSIGN TO \"B\" ORGANIZATION INDEXED RECORD K STATUS S.\nSELECT H ASSIGN A ORGANIZATION RELATIVE.", "H", "F", "G")
	checkProgram(t, text, `file 3:15 F "A" organization 0 access 0`, `file 4:15 G "B" organization 2 access 0 key K status S`, `file 5:15 H "A" organization 1 access 0`)
}

// FD and SD

func TestDescriptions(t *testing.T) {
	records := "01 R. 05 A PIC X. 01 Q PIC 9."
	want := []string{"- 01 R .", "- 05 A PIC X .", "- 01 Q PIC 9 ."}
	for _, label := range forms("[LABEL RECORD|RECORDS [IS|ARE] STANDARD|OMITTED]") {
		for _, report := range append(forms("REPORT|REPORTS [IS|ARE] R1 [R2 R3 [F]]"), "") {
			first := `file 3:15 F "A" organization 0 access 0`
			if names := slices.DeleteFunc(strings.Fields(report), func(s string) bool { return !strings.ContainsAny(s, "123F") }); len(names) > 0 {
				first += spaced(" reports", names...)
			}
			second := `file 4:15 G "A" organization 0 access 0 sort`
			checkProgram(t, describing("FD F "+label+" "+report+" . "+records+" SD G. 05 S PIC X."), slices.Concat([]string{first}, want, []string{second, "- 05 S PIC X ."})...)
		}
	}
}

// Descriptions may stand in any order, and need no entries.
func TestOrderOfDescriptions(t *testing.T) {
	f, g := `file 3:15 F "A" organization 0 access 0`, `file 4:15 G "A" organization 0 access 0`
	checkProgram(t, describing("FD G. 01 A PIC X. FD F. 01 B PIC X."), f, "- 01 B PIC X .", g, "- 01 A PIC X .")
	checkProgram(t, describing("FD G. FD F."), f, g)
	checkProgram(t, describing("SD G. FD F. 01 B PIC X."), f, "- 01 B PIC X .", g+" sort")
	checkProgram(t, describing("SD F. 01 B PIC X. SD G. 01 B PIC X."), f+" sort", "- 01 B PIC X .", g+" sort", "- 01 B PIC X .")
	checkProgram(t, describing("FD G. FD F REPORT IS G. WORKING-STORAGE SECTION. 77 N PIC 9."), f+" reports G", g, "working 77 N PIC 9 .")
}
