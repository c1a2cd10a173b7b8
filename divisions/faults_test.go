package divisions_test

import (
	"math/rand"
	"slices"
	"strings"
	"testing"

	"columnseven/api"
	"columnseven/divisions"
)

// P8.1: faults

func TestNoTokens(t *testing.T) {
	checkFault(t, nil, api.ErrForm, api.Pos{})
	checkFault(t, []api.Token{}, api.ErrForm, api.Pos{})
}

// Without an order of the divisions, or with another word than that of the form.
func TestMisfitsBetweenDivisions(t *testing.T) {
	checkFaults(t, api.ErrForm,
		"~MOVE DIVISION. PROGRAM-ID. P1. PROCEDURE DIVISION.",
		"~PROCEDURE DIVISION.",
		"~PROGRAM-ID. P1. PROCEDURE DIVISION.",
		"IDENTIFICATION ~SECTION. PROGRAM-ID. P1. PROCEDURE DIVISION.",
		"IDENTIFICATION DIVISION ~PROGRAM-ID. P1. PROCEDURE DIVISION.",
		"IDENTIFICATION DIVISION. ~P1. PROCEDURE DIVISION.",
		"IDENTIFICATION DIVISION. PROGRAM-ID ~P1. PROCEDURE DIVISION.",
		"IDENTIFICATION DIVISION. PROGRAM-ID. ~. PROCEDURE DIVISION.",
		"IDENTIFICATION DIVISION. PROGRAM-ID. ~\"P1\". PROCEDURE DIVISION.",
		"IDENTIFICATION DIVISION. PROGRAM-ID. ~5. PROCEDURE DIVISION.",
		"IDENTIFICATION DIVISION. PROGRAM-ID. P1 ~PROCEDURE DIVISION.",
		"IDENTIFICATION DIVISION. PROGRAM-ID. P1 ~P2. PROCEDURE DIVISION.",
		head+"~. PROCEDURE DIVISION.",
		head+"~P2. PROCEDURE DIVISION.",
		head+"~IDENTIFICATION DIVISION. PROCEDURE DIVISION.",
		head+"~INPUT-OUTPUT SECTION. PROCEDURE DIVISION.",
		head+"~WORKING-STORAGE SECTION. PROCEDURE DIVISION.",
		head+"ENVIRONMENT ~. PROCEDURE DIVISION.",
		head+"ENVIRONMENT DIVISION ~PROCEDURE DIVISION.",
		head+"ENVIRONMENT DIVISION. ~ENVIRONMENT DIVISION. PROCEDURE DIVISION.",
		head+"ENVIRONMENT DIVISION. ~CONFIGURATION SECTION. PROCEDURE DIVISION.",
		head+"ENVIRONMENT DIVISION. ~FILE-CONTROL. PROCEDURE DIVISION.",
		head+"ENVIRONMENT DIVISION. INPUT-OUTPUT ~. FILE-CONTROL. PROCEDURE DIVISION.",
		head+"ENVIRONMENT DIVISION. INPUT-OUTPUT SECTION ~FILE-CONTROL. PROCEDURE DIVISION.",
		head+"ENVIRONMENT DIVISION. INPUT-OUTPUT SECTION. ~PROCEDURE DIVISION.",
		head+"ENVIRONMENT DIVISION. INPUT-OUTPUT SECTION. ~SELECT F ASSIGN A. PROCEDURE DIVISION.",
		head+"ENVIRONMENT DIVISION. INPUT-OUTPUT SECTION. FILE-CONTROL ~PROCEDURE DIVISION.",
		head+"ENVIRONMENT DIVISION. INPUT-OUTPUT SECTION. FILE-CONTROL. ~I-O-CONTROL. PROCEDURE DIVISION.",
		head+"DATA ~SECTION. PROCEDURE DIVISION.",
		head+"DATA DIVISION ~PROCEDURE DIVISION.",
		head+"DATA DIVISION. ~DATA DIVISION. PROCEDURE DIVISION.",
		head+"DATA DIVISION. ~ENVIRONMENT DIVISION. PROCEDURE DIVISION.",
		head+"DATA DIVISION. ~01 A PIC X. PROCEDURE DIVISION.",
		head+"DATA DIVISION. ~FD F. PROCEDURE DIVISION.",
		head+"DATA DIVISION. FILE ~. PROCEDURE DIVISION.",
		head+"DATA DIVISION. FILE SECTION ~PROCEDURE DIVISION.",
		head+"DATA DIVISION. FILE SECTION. ~01 A PIC X. PROCEDURE DIVISION.",
		head+"DATA DIVISION. FILE SECTION. ~FILE SECTION. PROCEDURE DIVISION.",
		head+"DATA DIVISION. WORKING-STORAGE ~DIVISION. PROCEDURE DIVISION.",
		head+"DATA DIVISION. WORKING-STORAGE SECTION ~01 A PIC X. PROCEDURE DIVISION.",
		head+"DATA DIVISION. WORKING-STORAGE SECTION. ~FILE SECTION. PROCEDURE DIVISION.",
		head+"DATA DIVISION. WORKING-STORAGE SECTION. ~WORKING-STORAGE SECTION. PROCEDURE DIVISION.",
		head+"DATA DIVISION. LINKAGE ~LINKAGE SECTION. PROCEDURE DIVISION.",
		head+"DATA DIVISION. LINKAGE SECTION ~PROCEDURE DIVISION.",
		head+"DATA DIVISION. LINKAGE SECTION. ~FILE SECTION. PROCEDURE DIVISION.",
		head+"DATA DIVISION. LINKAGE SECTION. ~LINKAGE SECTION. PROCEDURE DIVISION.",
		head+"DATA DIVISION. REPORT ~IS. PROCEDURE DIVISION.",
		head+"DATA DIVISION. REPORT SECTION ~PROCEDURE DIVISION.",
		head+"DATA DIVISION. SCREEN ~DIVISION. PROCEDURE DIVISION.",
		head+"DATA DIVISION. SCREEN SECTION ~PROCEDURE DIVISION.",
		head+"PROCEDURE ~SECTION.",
		head+"PROCEDURE DIVISION ~A.",
		head+"PROCEDURE DIVISION ~PROCEDURE DIVISION.",
		head+"PROCEDURE DIVISION USING ~.",
		head+"PROCEDURE DIVISION USING ~5.",
		head+"PROCEDURE DIVISION USING ~\"A\".",
		head+"PROCEDURE DIVISION USING ~\"MOVE\".",
		head+"PROCEDURE DIVISION USING A ~5.",
		head+"PROCEDURE DIVISION USING A ~MOVE.",
		head+"PROCEDURE DIVISION USING A ~OF B.",
		head+"PROCEDURE DIVISION USING A ~USING B.")
}

func TestMisfitsInSelects(t *testing.T) {
	for _, text := range []string{
		"SELECT ~. SELECT", "SELECT ~\"F\" ASSIGN A.", "SELECT ~\"MOVE\" ASSIGN A.", "SELECT ~5 ASSIGN A.", "SELECT F ~.", "SELECT F ~TO A.", "SELECT F ~G ASSIGN A.", "SELECT F ASSIGN ~.", "SELECT F ASSIGN TO ~.", "SELECT F ASSIGN ~5.", "SELECT F ASSIGN TO ~5.",
		"SELECT F ASSIGN A ~A.", "SELECT F ASSIGN A ~\"A\".", "SELECT F ASSIGN A ~OF B.", "SELECT F ASSIGN A ~SELECT G ASSIGN A.", "SELECT F ASSIGN A ~TO A.", "SELECT F ASSIGN A ~KEY K.", "SELECT F ASSIGN A ~MODE SEQUENTIAL.", "SELECT F ASSIGN A ~SEQUENTIAL.", "SELECT F ASSIGN A ~INDEXED.",
		"SELECT F ASSIGN A ORGANIZATION ~.", "SELECT F ASSIGN A ORGANIZATION IS ~.", "SELECT F ASSIGN A ORGANIZATION ~RANDOM.", "SELECT F ASSIGN A ORGANIZATION IS ~IS INDEXED.", "SELECT F ASSIGN A ORGANIZATION ~A.", "SELECT F ASSIGN A ORGANIZATION ~MODE INDEXED.", "SELECT F ASSIGN A ORGANIZATION SEQUENTIAL ~SEQUENTIAL.",
		"SELECT F ASSIGN A ACCESS ~.", "SELECT F ASSIGN A ACCESS MODE ~.", "SELECT F ASSIGN A ACCESS MODE IS ~.", "SELECT F ASSIGN A ACCESS IS ~MODE RANDOM.", "SELECT F ASSIGN A ACCESS ~RELATIVE.", "SELECT F ASSIGN A ACCESS ~INDEXED.", "SELECT F ASSIGN A ACCESS ~\"RANDOM\".",
		"SELECT F ASSIGN A RECORD ~.", "SELECT F ASSIGN A RECORD KEY ~.", "SELECT F ASSIGN A RECORD KEY IS ~.", "SELECT F ASSIGN A RECORD KEY IS ~5.", "SELECT F ASSIGN A RECORD KEY IS K ~5.", "SELECT F ASSIGN A RECORD K OF ~.", "SELECT F ASSIGN A RECORD K ~L.", "SELECT F ASSIGN A RECORD K OF R ~R.",
		"SELECT F ASSIGN A RELATIVE ~.", "SELECT F ASSIGN A RELATIVE KEY ~.", "SELECT F ASSIGN A RELATIVE IS ~.", "SELECT F ASSIGN A RELATIVE K IN ~\"A\".", "SELECT F ASSIGN A RELATIVE K ~DUPLICATES.",
		"SELECT F ASSIGN A ALTERNATE ~.", "SELECT F ASSIGN A ALTERNATE RECORD ~.", "SELECT F ASSIGN A ALTERNATE RECORD KEY ~.", "SELECT F ASSIGN A ALTERNATE RECORD KEY IS ~.", "SELECT F ASSIGN A ALTERNATE K WITH ~.", "SELECT F ASSIGN A ALTERNATE K WITH ~K.", "SELECT F ASSIGN A ALTERNATE K WITH ~WITH DUPLICATES.", "SELECT F ASSIGN A ALTERNATE K DUPLICATES ~DUPLICATES.",
		"SELECT F ASSIGN A STATUS ~.", "SELECT F ASSIGN A STATUS IS ~.", "SELECT F ASSIGN A FILE ~.", "SELECT F ASSIGN A FILE ~IS S.", "SELECT F ASSIGN A FILE ~S.", "SELECT F ASSIGN A FILE STATUS ~.", "SELECT F ASSIGN A STATUS S OF ~5.", "SELECT F ASSIGN A STATUS S ~DUPLICATES.",
	} {
		checkFaults(t, api.ErrForm, selecting(text, "F"))
	}
}

func TestMisfitsInDescriptions(t *testing.T) {
	for _, text := range []string{
		"FD ~.", "FD ~\"F\".", "FD ~\"MOVE\".", "FD F REPORT ~\"MOVE\".", "FD ~5.", "FD F ~G.", "FD F ~5.", "FD F ~MOVE.", "FD F ~01 R.", "FD F ~FD G.", "FD F ~RECORD R.", "FD F ~IS.", "FD F ~STANDARD.",
		"FD F LABEL ~.", "FD F LABEL ~STANDARD.", "FD F LABEL ~IS STANDARD.", "FD F LABEL ~LABEL.", "FD F LABEL RECORD ~.", "FD F LABEL RECORD IS ~.", "FD F LABEL RECORD IS ~ARE STANDARD.", "FD F LABEL RECORDS ARE ~F.", "FD F LABEL RECORDS ~RECORD OMITTED.", "FD F LABEL RECORD STANDARD ~OMITTED.", "FD F LABEL RECORD STANDARD ~LABEL RECORD STANDARD.",
		"FD F REPORT ~.", "FD F REPORT IS ~.", "FD F REPORTS ARE ~5.", "FD F REPORT R ~MOVE.", "FD F REPORT R ~IS.", "FD F REPORT R ~OF Q.", "FD F REPORT R ~5.", "FD F REPORT R ~REPORT R.", "FD F REPORT R ~LABEL RECORD STANDARD.", "FD F LABEL RECORD STANDARD REPORT IS ~\"R\".",
		"SD ~.", "SD F ~LABEL RECORD STANDARD.", "SD F ~REPORT R.", "SD F ~5.", "SD F ~G.",
		"FD F. ~R.", "FD F. ~.", "FD F. 01 R. ~SELECT G.", "FD F. 01 R. ~R.",
	} {
		checkFaults(t, api.ErrForm, describing(text))
	}
}

func TestMisfitsInProcedures(t *testing.T) {
	for _, text := range []string{
		"~MOVE 1 TO N.", "~MOVE.", "~\"A\".", "~5.", "~.", "~A", "~A B.", "~A SECTION", "~A SECTION B.", "~A SECTION SECTION.", "~A \"SECTION\".", "~A, B.", "~A OF B.", "~SECTION.", "~SECTION SECTION.", "~MOVE SECTION.", "~\"A\" SECTION.",
		"~END DECLARATIVES.", "A.\n~END DECLARATIVES.", "A SECTION.\n~END DECLARATIVES.",
		"    X\n~Y Z", "    X.\n~MOVE 1.", "A.\n~5.", "A.\n~STOP RUN.", "A.\n    B.\n~C", "A. ~MOVE 1 TO N.", "A SECTION.\n~MOVE.", "A SECTION.\n    X\n~SECTION.", "A SECTION.\nB.\n~C D.", "A SECTION.\nB.\n    STOP.\n~.", "A SECTION.\nB.\nC SECTION.\n~(",
		"   ~MOVE.", "  ~DISPLAY.", " ~GO.", "A.\n   ~MOVE.", "A.\n    MOVE\n   ~1 TO N.",
	} {
		checkFaults(t, api.ErrForm, doing(text))
	}
	// DECLARATIVES only stands at the beginning, but in no header.
	checkFaults(t, api.ErrForm, doing("A.\n~DECLARATIVES."), doing("    X.\n~DECLARATIVES.\nEND DECLARATIVES."), doing("DECLARATIVES.\nEND DECLARATIVES.\n~DECLARATIVES.\nEND DECLARATIVES."))
}

func TestMisfitsInDeclaratives(t *testing.T) {
	for _, text := range []string{
		"DECLARATIVES ~X.", "DECLARATIVES ~DECLARATIVES.", "DECLARATIVES\n~END DECLARATIVES.", "DECLARATIVES. ~X.\nEND DECLARATIVES.", "DECLARATIVES.\n    ~USE.", "DECLARATIVES.\n    ~END DECLARATIVES.", "DECLARATIVES.\n    ~U SECTION. USE.",
		"DECLARATIVES.\n~A.\nEND DECLARATIVES.", "DECLARATIVES.\n~USE SECTION.", "DECLARATIVES.\n~MOVE SECTION. USE.", "DECLARATIVES.\n~U USE.", "DECLARATIVES.\n~U SECTION USE.", "DECLARATIVES.\n~END.", "DECLARATIVES.\n~END X.", "DECLARATIVES.\n~DECLARATIVES.", "DECLARATIVES.\n~.",
		"DECLARATIVES.\nU SECTION. ~X.", "DECLARATIVES.\nU SECTION. ~.", "DECLARATIVES.\nU SECTION. ~\"USE\".", "DECLARATIVES.\nU SECTION.\n~END DECLARATIVES.", "DECLARATIVES.\nU SECTION.\n~A.", "DECLARATIVES.\nU SECTION.\n~V SECTION. USE.",
		"DECLARATIVES.\nU SECTION. USE.\n~MOVE.", "DECLARATIVES.\nU SECTION. USE.\n    X\n~5.", "DECLARATIVES.\nU SECTION. USE.\nA.\n~B C.", "DECLARATIVES.\nU SECTION. USE.\n~END.", "DECLARATIVES.\nU SECTION. USE.\n~END SECTION.", "DECLARATIVES.\nU SECTION. USE.\nA.\n~DECLARATIVES.", "DECLARATIVES.\nU SECTION. USE.\n~V SECTION USE.",
		"DECLARATIVES.\nU SECTION. USE.\nEND DECLARATIVES ~A.", "DECLARATIVES.\nEND DECLARATIVES\n~A.", "DECLARATIVES.\nEND DECLARATIVES ~DECLARATIVES.", "DECLARATIVES.\nEND DECLARATIVES.\n~END DECLARATIVES.",
	} {
		checkFaults(t, api.ErrForm, doing(text))
	}
}

// Where the tokens end too early, the last one is at fault.
func TestEnds(t *testing.T) {
	for _, text := range []string{
		"~IDENTIFICATION", "IDENTIFICATION ~DIVISION", "IDENTIFICATION DIVISION~.", "IDENTIFICATION DIVISION. ~PROGRAM-ID", "IDENTIFICATION DIVISION. PROGRAM-ID~.", "IDENTIFICATION DIVISION. PROGRAM-ID. ~P1", "IDENTIFICATION DIVISION. PROGRAM-ID. P1~.",
		head + "~ENVIRONMENT", head + "ENVIRONMENT ~DIVISION", head + "ENVIRONMENT DIVISION~.", head + "ENVIRONMENT DIVISION. ~INPUT-OUTPUT", head + "ENVIRONMENT DIVISION. INPUT-OUTPUT SECTION. ~FILE-CONTROL", head + "ENVIRONMENT DIVISION. INPUT-OUTPUT SECTION. FILE-CONTROL~.",
		head + "~DATA", head + "DATA DIVISION~.", head + "DATA DIVISION. ~FILE", head + "DATA DIVISION. FILE SECTION~.", head + "DATA DIVISION. WORKING-STORAGE ~SECTION", head + "DATA DIVISION. WORKING-STORAGE SECTION~.", head + "DATA DIVISION. WORKING-STORAGE SECTION. 01 A PIC X~.", head + "DATA DIVISION. LINKAGE SECTION. 01 A PIC X~.",
		head + "DATA DIVISION. REPORT SECTION~.", head + "DATA DIVISION. REPORT SECTION. RD ~R", head + "DATA DIVISION. REPORT SECTION. RD R. ~PROCEDURE", head + "DATA DIVISION. REPORT SECTION. FILE ~SECTION", head + "DATA DIVISION. SCREEN SECTION. A~.", head + "DATA DIVISION. SCREEN SECTION. A ~PROCEDURE",
		head + "~PROCEDURE", head + "PROCEDURE ~DIVISION", head + "PROCEDURE DIVISION ~USING", head + "PROCEDURE DIVISION USING ~A", head + "PROCEDURE DIVISION USING A ~B",
		doing("~DECLARATIVES"), doing("DECLARATIVES~."), doing("DECLARATIVES.\n~U"), doing("DECLARATIVES.\nU SECTION~."), doing("DECLARATIVES.\nU SECTION. ~USE"), doing("DECLARATIVES.\nU SECTION. USE A ~B"), doing("DECLARATIVES.\nU SECTION. USE A~."), doing("DECLARATIVES.\nU SECTION. USE A.\nB~."), doing("DECLARATIVES.\nU SECTION. USE A. B ~C"), doing("DECLARATIVES.\n~END"), doing("DECLARATIVES.\nEND ~DECLARATIVES"),
	} {
		checkFaults(t, api.ErrForm, text)
	}
	for _, text := range []string{"~SELECT", "SELECT ~F", "SELECT F ~ASSIGN", "SELECT F ASSIGN ~TO", "SELECT F ASSIGN ~A", "SELECT F ASSIGN TO ~\"A\"", "SELECT F ASSIGN A ~ORGANIZATION", "SELECT F ASSIGN A ORGANIZATION ~IS", "SELECT F ASSIGN A ORGANIZATION ~INDEXED", "SELECT F ASSIGN A ACCESS MODE ~IS", "SELECT F ASSIGN A RECORD ~KEY", "SELECT F ASSIGN A RELATIVE ~K", "SELECT F ASSIGN A ALTERNATE K ~OF", "SELECT F ASSIGN A ALTERNATE K ~WITH", "SELECT F ASSIGN A ALTERNATE K ~DUPLICATES", "SELECT F ASSIGN A ~FILE", "SELECT F ASSIGN A FILE ~STATUS", "SELECT F ASSIGN A~."} {
		checkFaults(t, api.ErrForm, control+text)
	}
	for _, text := range []string{"~FD", "FD ~F", "FD F ~LABEL", "FD F LABEL ~RECORD", "FD F LABEL RECORDS ~ARE", "FD F LABEL RECORDS ~OMITTED", "FD F ~REPORT", "FD F REPORT ~IS", "FD F REPORT ~R", "FD F~.", "~SD", "SD ~F", "SD F~.", "SD F. 01 A PIC X~."} {
		before, _, _ := strings.Cut(describing(""), "\n\nPROCEDURE")
		checkFaults(t, api.ErrForm, before+"\n"+text)
	}
	// A token in area A that begins no header is at fault itself, also where the tokens end behind it.
	checkFaults(t, api.ErrForm, doing("~A"), doing("~A SECTION"), doing("A.\n~B SECTION"), doing("DECLARATIVES.\n~U SECTION"), doing("DECLARATIVES.\nU SECTION. USE.\n~A"))
	// In an entry, the fault is that of entries.Parse.
	for _, end := range []string{"", " A", " A PIC", " A PIC X", " A PIC X VALUE", " FILLER"} {
		checkFaults(t, api.ErrForm, head+"DATA DIVISION. WORKING-STORAGE SECTION. 01 R. ~05"+end, head+"DATA DIVISION. LINKAGE SECTION. ~01"+end)
	}
}

// Each beginning of a program, and each program with another token anywhere, has the fault of the model.
func TestDamagedExamples(t *testing.T) {
	r := rand.New(rand.NewSource(1))
	m := newModel()
	others := append(soup(), api.Token{}, api.Token{Kind: api.Word}, api.Token{Kind: 9, Text: "A"})
	for _, text := range []string{example, everything} {
		l := numbered(scan(text))
		for end := range l {
			checkModel(t, m, l[:end])
		}
		for i := range l {
			for range 8 {
				other := others[r.Intn(len(others))]
				other.Left = r.Intn(2) == 0
				checkModel(t, m, numbered(slices.Concat(l[:i], []api.Token{other}, l[i+1:])))
				checkModel(t, m, numbered(slices.Concat(l[:i], []api.Token{other}, l[i:])))
			}
			checkModel(t, m, numbered(slices.Concat(l[:i], l[i+1:])))
			for kind := range api.Kind(10) {
				changed := slices.Clone(l)
				changed[i].Kind = kind
				checkModel(t, m, changed)
			}
			changed := slices.Clone(l)
			changed[i].Left = !changed[i].Left
			checkModel(t, m, changed)
		}
	}
}

// everything is a program with all parts, and with all words that may be missing.
const everything = `IDENTIFICATION DIVISION. PROGRAM-ID. P1.
ENVIRONMENT DIVISION. INPUT-OUTPUT SECTION. FILE-CONTROL.
    SELECT F ASSIGN TO "X" ORGANIZATION IS INDEXED ACCESS MODE IS DYNAMIC RECORD KEY IS K OF R
        ALTERNATE RECORD KEY IS A IN R WITH DUPLICATES ALTERNATE B FILE STATUS IS S IN T.
    SELECT G ASSIGN TO A ORGANIZATION IS RELATIVE ACCESS MODE IS RANDOM RELATIVE KEY IS N FILE STATUS IS S.
    SELECT H ASSIGN A.
DATA DIVISION. FILE SECTION. FD F LABEL RECORDS ARE STANDARD REPORTS ARE R1 R2.
01 R. 05 K PIC X. 05 A PIC X.
FD G LABEL RECORD IS OMITTED REPORT IS R3. SD H. 01 Q PIC X.
WORKING-STORAGE SECTION. 77 N PIC 9.
LINKAGE SECTION. 01 B PIC X.
REPORT SECTION. RD R1.
SCREEN SECTION. 01 S.
PROCEDURE DIVISION USING B C.
DECLARATIVES.
U SECTION.
    USE AFTER ERROR.
    X.
P.
V SECTION.
    USE A.
END DECLARATIVES.
    STOP.
P.
    RUN.
S SECTION.
    X.
T SECTION.
P.
`

func TestEverything(t *testing.T) {
	checkProgram(t, everything,
		`file 3:19 F "X" organization 2 access 2 key K R alternate A R twice alternate B status S T reports R1 R2`,
		"- 01 R .", "- 05 K PIC X .", "- 05 A PIC X .",
		`file 5:19 G "A" organization 1 access 1 key N status S reports R3`,
		`file 6:19 H "A" organization 0 access 0 sort`,
		"- 01 Q PIC X .",
		"working 77 N PIC 9 .", "linkage 01 B PIC X .", "reports RD R1 .", "screens 01 S .", "using B C",
		"use U: AFTER ERROR", "- 18:12 U/: X .", "- 19:8 U/P:", "use V: A", "- 20:8 V/:",
		"paragraph 23:12 /: STOP .", "paragraph 24:8 /P: RUN .", "paragraph 27:12 S/: X .", "paragraph 29:8 T/P:")
}

// ErrWord

func TestReservedWords(t *testing.T) {
	checkFaults(t, api.ErrWord,
		"IDENTIFICATION DIVISION. PROGRAM-ID. ~MOVE. PROCEDURE DIVISION.",
		"IDENTIFICATION DIVISION. PROGRAM-ID. ~PROGRAM-ID. PROCEDURE DIVISION.",
		head+"PROCEDURE DIVISION USING ~USING.", head+"PROCEDURE DIVISION USING ~FILLER A.", head+"PROCEDURE DIVISION USING ~ZERO.", head+"PROCEDURE DIVISION USING ~DIVISION.")
	for _, text := range []string{
		"SELECT ~ASSIGN A.", "SELECT ~OPTIONAL F ASSIGN A.", "SELECT ~SELECT ASSIGN A.", "SELECT F ASSIGN ~MOVE.", "SELECT F ASSIGN TO ~TO.", "SELECT F ASSIGN TO ~SPACES.", "SELECT F ASSIGN ~ORGANIZATION INDEXED.", "SELECT F ASSIGN ~DISPLAY.",
		"SELECT F ASSIGN A RECORD ~RECORD K.", "SELECT F ASSIGN A RECORD KEY ~KEY K.", "SELECT F ASSIGN A RECORD IS ~KEY K.", "SELECT F ASSIGN A RECORD K OF ~MOVE.", "SELECT F ASSIGN A RECORD K OF R IN ~IN.", "SELECT F ASSIGN A RELATIVE ~STATUS S.", "SELECT F ASSIGN A RELATIVE KEY IS ~OF K.", "SELECT F ASSIGN A RELATIVE ~MODE.",
		"SELECT F ASSIGN A ALTERNATE ~WITH DUPLICATES.", "SELECT F ASSIGN A ALTERNATE KEY ~RECORD K.", "SELECT F ASSIGN A ALTERNATE ~DUPLICATES.", "SELECT F ASSIGN A ALTERNATE RECORD KEY IS ~IS.", "SELECT F ASSIGN A ALTERNATE K OF ~FILLER.", "SELECT F ASSIGN A STATUS ~STATUS S.", "SELECT F ASSIGN A FILE STATUS IS ~FILE.", "SELECT F ASSIGN A STATUS S IN ~QUOTE.",
	} {
		checkFaults(t, api.ErrWord, selecting(text, "F"))
	}
	for _, text := range []string{"FD ~FD F.", "FD ~LABEL RECORD STANDARD.", "FD ~FILE.", "SD ~SD F.", "SD ~MOVE.", "FD F REPORT ~REPORT.", "FD F REPORT IS ~ARE R.", "FD F REPORTS ARE ~RD.", "FD F LABEL RECORD STANDARD REPORT ~RECORD."} {
		checkFaults(t, api.ErrWord, describing(text))
	}
}

// ErrThere

func TestRepeatedClauses(t *testing.T) {
	clauses := map[string][]string{
		"ORGANIZATION": {"ORGANIZATION SEQUENTIAL", "ORGANIZATION IS INDEXED", "ORGANIZATION RELATIVE"},
		"ACCESS":       {"ACCESS SEQUENTIAL", "ACCESS MODE IS RANDOM", "ACCESS DYNAMIC"},
		"KEY":          {"RECORD K", "RECORD KEY IS K OF R", "RELATIVE K", "RELATIVE KEY IS K IN R"},
		"STATUS":       {"STATUS S", "FILE STATUS IS S OF T"},
	}
	for kind, list := range clauses {
		for _, first := range list {
			for _, second := range list {
				checkFaults(t, api.ErrThere, selecting("SELECT F ASSIGN A "+first+" ~"+second+".", "F"))
				for other, others := range clauses {
					if other != kind {
						checkFaults(t, api.ErrThere, selecting("SELECT F ASSIGN A "+first+" "+others[0]+" ALTERNATE A ~"+second+" "+others[1]+".", "F"))
					}
				}
			}
			// The first word of the clause is enough.
			word, _, _ := strings.Cut(first, " ")
			checkFaults(t, api.ErrThere, selecting("SELECT F ASSIGN A "+first+" ~"+word+" MOVE.", "F"), control+"SELECT F ASSIGN A "+first+" ~"+word)
		}
	}
	// Another file may have the same clauses.
	parsed(t, selecting("SELECT F ASSIGN A ORGANIZATION INDEXED ACCESS RANDOM RECORD K STATUS S. SELECT G ASSIGN A ORGANIZATION INDEXED ACCESS RANDOM RECORD K STATUS S.", "F", "G"))
}

func TestRepeatedNames(t *testing.T) {
	checkFaults(t, api.ErrThere,
		selecting("SELECT F ASSIGN A. SELECT ~F ASSIGN B.", "F"),
		selecting("SELECT F ASSIGN A. SELECT G ASSIGN A. SELECT ~F ASSIGN B.", "F", "G"),
		selecting("SELECT F ASSIGN A. SELECT G ASSIGN A. SELECT ~G ASSIGN B.", "F", "G"),
		selecting("SELECT F ASSIGN A. SELECT ~F MOVE.", "F"),
		describing("FD F. FD ~F."), describing("FD F. FD G. FD ~F."), describing("FD F. SD ~F."), describing("SD F. FD ~F."), describing("SD F. SD ~F."), describing("FD F. 01 R. 05 A PIC X. FD ~F. 01 R. 05 A PIC X."), describing("FD F. FD ~F MOVE."), describing("FD G. SD F. SD ~G."),
		doing("S SECTION.\n~S SECTION."), doing("S SECTION.\nA.\nT SECTION.\n~S SECTION."), doing("S SECTION.\nT SECTION.\n    X.\nA.\n~T SECTION.\nA."),
		doing("DECLARATIVES.\nU SECTION. USE.\n~U SECTION. USE.\nEND DECLARATIVES."), doing("DECLARATIVES.\nU SECTION. USE.\nV SECTION. USE.\nA.\n~U SECTION. MOVE."), doing("DECLARATIVES.\nU SECTION. USE.\nEND DECLARATIVES.\n~U SECTION."), doing("DECLARATIVES.\nU SECTION. USE.\nV SECTION. USE.\nEND DECLARATIVES.\nA.\nS SECTION.\n~V SECTION."),
		doing("A.\n~A."), doing("A.\n    X.\nB.\n~A.\n    X."), doing("S SECTION.\nA.\n~A."), doing("A.\nS SECTION.\nA.\nB.\n~A."), doing("S SECTION.\nS.\n~S."), doing("S SECTION.\n    X.\nA.\n    A.\nB.\n~B."), doing("A.\nB.\n~B."),
		doing("DECLARATIVES.\nU SECTION. USE.\nA.\n~A.\nEND DECLARATIVES."), doing("DECLARATIVES.\nU SECTION. USE.\nA.\nV SECTION. USE.\nA.\nB.\n~A."), doing("DECLARATIVES.\nU SECTION. USE.\nA.\nEND DECLARATIVES.\nA.\n~A."))
	// The same name for other things is none that was there before.
	for _, text := range []string{
		"A.\nA SECTION.\nA.\nB SECTION.\nA.\nB.", "DECLARATIVES.\nU SECTION. USE.\nU.\nV.\nV SECTION. USE.\nU.\nV.\nEND DECLARATIVES.\nU.\nV.\nS SECTION.\nU.\nV.", "P1.\nP1 SECTION.\nP1.", "    A. A.\nA.\n    A. A.",
	} {
		parsed(t, doing(text))
	}
	parsed(t, strings.Replace(describing("FD F REPORT F F G. 01 F PIC X. FD G. 01 F PIC X."), "PROCEDURE DIVISION.", "PROCEDURE DIVISION USING F F.\nF.\nG SECTION.\nG.", 1))
}

// ErrNone

func TestMissingFiles(t *testing.T) {
	checkFaults(t, api.ErrNone,
		describing("FD ~H."), describing("SD ~H."), describing("FD F. FD G. FD ~H."), describing("FD F. SD ~A."), describing("FD ~H MOVE."), describing("FD ~P1."),
		head+"DATA DIVISION. FILE SECTION. FD ~F. PROCEDURE DIVISION.", head+"ENVIRONMENT DIVISION. DATA DIVISION. FILE SECTION. SD ~F. PROCEDURE DIVISION.")
	// Of several files that are not described, the first one counts, not that which comes last.
	for text, missing := range map[string]string{"": "F", "FD G.": "F", "SD G.": "F", "FD F.": "G", "SD F.": "G"} {
		other := "PROCEDURE DIVISION. X."
		for _, end := range []string{"PROCEDURE DIVISION.", "PROCEDURE MOVE", "PROCEDURE", "PROCEDURE DIVISION USING MOVE.", other} {
			whole := strings.Replace(describing(text), "PROCEDURE DIVISION.", end, 1)
			checkFaults(t, api.ErrNone, strings.Replace(whole, "SELECT "+missing, "SELECT ~"+missing, 1))
		}
	}
	none := control + "SELECT ~F ASSIGN A. SELECT G ASSIGN A. "
	checkFaults(t, api.ErrNone, none+"PROCEDURE DIVISION.", none+"DATA DIVISION. PROCEDURE DIVISION.", none+"DATA DIVISION. FILE SECTION. PROCEDURE DIVISION.", none+"DATA DIVISION. SCREEN SECTION. FD F. FD G. PROCEDURE DIVISION.", none+"DATA DIVISION. WORKING-STORAGE SECTION. 77 F PIC X. PROCEDURE DIVISION.")
	// It is only found at the word PROCEDURE.
	begun := strings.Replace(none, "~", "", 1)
	checkFaults(t, api.ErrForm, begun[:len(begun)-2]+"~.", begun+"~DIVISION.", begun+"DATA DIVISION~.", begun+"DATA DIVISION. ~SELECT", begun+"DATA DIVISION. SCREEN SECTION. FD F~.", begun+"DATA DIVISION. FILE SECTION. FD G. ~DATA")
	checkFaults(t, api.ErrArg, begun+"DATA DIVISION. WORKING-STORAGE SECTION. ~50 A. PROCEDURE DIVISION.")
	checkFaults(t, api.ErrNone, begun+"DATA DIVISION. FILE SECTION. FD ~H.")
}

// Faults of entries.Parse

func TestFaultsOfEntries(t *testing.T) {
	for text, e := range map[string]api.Errno{
		"~50 A.": api.ErrArg, "01 R. 05 A PIC X. ~00 B.": api.ErrArg, "~005 A.": api.ErrForm, "~1.5.": api.ErrForm, "~-1 A.": api.ErrForm, "05 ~MOVE.": api.ErrForm, "05 A ~B.": api.ErrForm, "01 R. 05 A PIC X ~PIC X.": api.ErrThere, "05 A REDEFINES ~MOVE.": api.ErrWord, "05 A REDEFINES ~5.": api.ErrForm, "05 A OCCURS ~X.": api.ErrForm,
		"~05 A PIC Q.": api.ErrForm, "01 R. ~05 A PIC 9 VALUE \"A\". 05 B PIC Q.": api.ErrKind, "~05 A PIC 9(19).": api.ErrLimit, "~01 A OCCURS 2.": api.ErrKind, "~66 A.": api.ErrKind, "~05 A OCCURS 5000.": api.ErrArg, "~05 A PIC X VALUE ALL \"" + strings.Repeat("X", 257) + "\".": api.ErrWidth,
		"01 A PIC X ~PROCEDURE DIVISION.": api.ErrForm, "01 A ~WORKING-STORAGE SECTION. 50.": api.ErrForm, "~50 A. 01 ~B": api.ErrArg,
	} {
		before, behind, _ := strings.Cut(text, "~")
		text = before + "~" + strings.ReplaceAll(behind, "~", "")
		checkFaults(t, e, head+"DATA DIVISION. WORKING-STORAGE SECTION. "+text+" PROCEDURE DIVISION.", head+"DATA DIVISION. LINKAGE SECTION. "+text+" MOVE", describing("FD F. "+text), describing("FD G. SD F. "+text+" FD F."))
	}
}

// ErrKind of an SD

func TestSortFiles(t *testing.T) {
	keyed := "SELECT F ASSIGN A ORGANIZATION INDEXED RECORD K. SELECT G ASSIGN A ORGANIZATION RELATIVE. SELECT H ASSIGN A ORGANIZATION SEQUENTIAL."
	for _, text := range []string{"SD ~F.", "SD ~G.", "FD F. FD H. SD ~G.", "SD H. SD ~F MOVE.", "SD ~F. 50 A."} {
		checkFaults(t, api.ErrKind, strings.Replace(selecting(keyed), "PROCEDURE", text+" PROCEDURE", 1))
	}
	for _, text := range []string{"FD F. SD ~F.", "FD G. FD F. SD ~G."} {
		checkFaults(t, api.ErrThere, strings.Replace(selecting(keyed), "PROCEDURE", text+" PROCEDURE", 1))
	}
	p := parsed(t, strings.Replace(selecting(keyed), "PROCEDURE", "SD H. FD F. FD G. PROCEDURE", 1))
	if len(p.Files) != 3 || p.Files[0].Sort || p.Files[1].Sort || !p.Files[2].Sort {
		t.Error(show(p))
	}
}

// The first fault of a program counts, and that of a token that has several is the first one of the table.
func TestFirstFault(t *testing.T) {
	parts := []struct {
		good, bad string
		e         api.Errno
	}{
		{"IDENTIFICATION DIVISION. PROGRAM-ID. P1.", "IDENTIFICATION DIVISION. PROGRAM-ID. ~MOVE.", api.ErrWord},
		{"\nENVIRONMENT DIVISION. INPUT-OUTPUT SECTION. FILE-CONTROL. SELECT F ASSIGN A.", "\nENVIRONMENT DIVISION. INPUT-OUTPUT SECTION. FILE-CONTROL. SELECT F ASSIGN A RECORD K~.", api.ErrKind},
		{"\nSELECT G ASSIGN A.", "\nSELECT ~F ASSIGN A. SELECT G ASSIGN A.", api.ErrThere},
		{"\nSELECT H ASSIGN A.", "\nSELECT H ASSIGN A STATUS S ~STATUS S.", api.ErrThere},
		{"\nDATA DIVISION.", "\nDATA ~SECTION.", api.ErrForm},
		{"\nFILE SECTION. FD F.", "\nFILE SECTION. FD ~I. FD F.", api.ErrNone},
		{"\nFD G.", "\nFD G. ~50 A.", api.ErrArg},
		{"\nFD H.", "", api.ErrNone},
		{"\nWORKING-STORAGE SECTION.", "\nWORKING-STORAGE SECTION. ~05 A PIC X VALUE 1.", api.ErrKind},
		{"\nPROCEDURE DIVISION.", "\nPROCEDURE DIVISION USING ~MOVE.", api.ErrWord},
		{"\nDECLARATIVES.", "\nDECLARATIVES ~USE.", api.ErrForm},
		{"\nU SECTION. USE.", "\nU SECTION. ~MOVE.", api.ErrForm},
		{"\nA.", "\nA.\n~A.", api.ErrThere},
		{"\nEND DECLARATIVES.", "\nEND DECLARATIVES ~X.", api.ErrForm},
		{"\nS SECTION.\nA.", "\n~U SECTION.\nA.", api.ErrThere},
		{"\nB.", "\n~MOVE.", api.ErrForm},
	}
	for i, first := range parts {
		for j := i; j < len(parts); j++ {
			text := ""
			for k, part := range parts {
				if k == i || k == j {
					text += part.bad
				} else {
					text += part.good
				}
			}
			e := first.e
			if first.bad == "" && j > i && j < 9 {
				// That a file is not described is found behind this fault, whose position comes later.
				e = parts[j].e
			} else if first.bad == "" {
				text = strings.Replace(strings.ReplaceAll(text, "~", ""), "SELECT H", "SELECT ~H", 1)
			} else if parts[j].bad == "" && i < 3 {
				text = strings.Replace(text, "SELECT ~H", "SELECT H", 1)
			}
			before, behind, _ := strings.Cut(text, "~")
			checkFaults(t, e, before+"~"+strings.ReplaceAll(behind, "~", ""))
		}
	}
}

func TestGoodPartsAreAProgram(t *testing.T) {
	p := parsed(t, "IDENTIFICATION DIVISION. PROGRAM-ID. P1.\nENVIRONMENT DIVISION. INPUT-OUTPUT SECTION. FILE-CONTROL. SELECT F ASSIGN A.\nSELECT G ASSIGN A.\nSELECT H ASSIGN A.\nDATA DIVISION.\nFILE SECTION. FD F.\nFD G.\nFD H.\nWORKING-STORAGE SECTION.\nPROCEDURE DIVISION.\nDECLARATIVES.\nU SECTION. USE.\nA.\nEND DECLARATIVES.\nS SECTION.\nA.\nB.")
	if len(p.Files) != 3 || len(p.Uses) != 1 || len(p.Paragraphs) != 2 {
		t.Error(show(p))
	}
}

// A word without a text is no name, and no word of another case is another one.
func TestWordsThatNoTextHas(t *testing.T) {
	for _, text := range []string{"IDENTIFICATION DIVISION. PROGRAM-ID. ~P1.", head + "PROCEDURE DIVISION USING ~A.", selecting("SELECT F ASSIGN ~A."), selecting("SELECT ~F ASSIGN A."), selecting("SELECT F ASSIGN A RECORD ~A."), describing("FD ~F."), describing("FD F REPORT ~A."), doing("~A."), doing("~A SECTION."), doing("A.\n~B."), doing("DECLARATIVES.\n~U SECTION. USE.")} {
		l, at := cut(t, text)
		i := slices.IndexFunc(l, func(x api.Token) bool { return x.At == at })
		l[i].Text = ""
		checkFault(t, l, api.ErrForm, at)
	}
	l := scan(head + "PROCEDURE DIVISION USING A.\nB.")
	l[5].Text = "move"
	if p, fault := divisions.Parse(l); fault != (api.Fault{}) || p.Name != "move" {
		t.Error(show(p), fault)
	}
	l[0].Text = "identification"
	checkFault(t, l, api.ErrForm, l[0].At)
}
