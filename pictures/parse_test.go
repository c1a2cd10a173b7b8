package pictures_test

import (
	"strings"
	"testing"

	"columnseven/api"
	"columnseven/pictures"
)

// checkShape fails unless a picture has a shape, which passes every check.
func checkShape(t *testing.T, s string, want api.Shape) {
	t.Helper()
	want.Picture, _ = pictures.Expand(s)
	got, e := pictures.Parse(s)
	if got != want || e != api.OK {
		t.Errorf("%.300q: %+v, %d, wanted %+v", s, got, e, want)
	}
	if e := pictures.Check(want); e != api.OK {
		t.Errorf("%.300q: Check %d", s, e)
	}
}

// checkNoShape fails unless pictures can be expanded, but have no shape, so that Check finds the same error.
func checkNoShape(t *testing.T, want api.Errno, list ...string) {
	t.Helper()
	for _, s := range list {
		if _, e := pictures.Expand(s); e != api.OK {
			t.Errorf("Expand(%.300q): %d", s, e)
		}
		if got, e := pictures.Parse(s); got != (api.Shape{}) || e != want {
			t.Errorf("%.300q: %+v, %d, wanted %d", s, got, e, want)
		}
		if e := pictures.Check(api.Shape{Category: api.Edited, Picture: s}); e != want {
			t.Errorf("%.300q: Check %d, wanted %d", s, e, want)
		}
	}
}

// checkText fails unless pictures have a category of text, and as many bytes as symbols.
func checkText(t *testing.T, category api.Category, list ...string) {
	t.Helper()
	for _, s := range list {
		expanded, _ := pictures.Expand(s)
		checkShape(t, s, api.Shape{Category: category, Size: len(expanded)})
	}
}

// checkNumber fails unless a picture has the shape of a number, with a sign and without one.
func checkNumber(t *testing.T, s string, digits, scale int) {
	t.Helper()
	checkShape(t, s, api.Shape{Category: api.Numeric, Digits: digits, Scale: scale, Size: digits})
	checkShape(t, "S"+s, api.Shape{Category: api.Numeric, Digits: digits, Scale: scale, Signed: true, Size: digits})
}

// checkEdited fails unless a picture has the shape of an edited number.
func checkEdited(t *testing.T, s string, digits, scale int, signed bool, size int) {
	t.Helper()
	checkShape(t, s, api.Shape{Category: api.Edited, Digits: digits, Scale: scale, Signed: signed, Size: size})
}

// P6.2: texts

func TestTexts(t *testing.T) {
	checkText(t, api.Alphabetic, "A", "AA", "A(3)", "A(256)", "A(4)A", strings.Repeat("A", api.MaxPicture))
	checkText(t, api.Alphanumeric, "X", "XX", "X(256)", "AX", "XA", "XA9", "A9", "9A", "X9", "9X", "9(3)X", "99A99", "A(2)9(3)X(4)", "A(255)9", "9(255)X", "9(20)X", "X(100)9(100)")
	checkText(t, api.AlphaEdited, "AB", "BA", "A0", "0A", "A/", "/A", "XB", "X0", "X/", "X(2)BX(2)", "BXB", "9BX", "X09", "9/A", "XX/XX/XXXX", "A(3)B(3)0(3)/(3)", "B(255)X", "0/BA", "9(20)BX", "X9B0/A")
}

func TestTextsWithOtherSymbols(t *testing.T) {
	for _, letter := range []string{"A", "X"} {
		for _, other := range strings.Split("SVPZ*+-.,$CRD", "") {
			checkNoShape(t, api.ErrForm, letter+other, other+letter, letter+letter+other+letter, letter+"9"+other, letter+"B"+other, "B"+other+letter, letter+"0"+other+"/")
		}
		checkNoShape(t, api.ErrForm, letter+",", letter+","+letter, letter+"CR", letter+"DB", "9,"+letter, "S9"+letter, "ZZ"+letter)
	}
}

// P6.2: numbers

func TestNumberForms(t *testing.T) {
	for s, want := range map[string][2]int{
		"9": {1, 0}, "99": {2, 0}, "999": {3, 0}, "9(5)": {5, 0}, "9(18)": {18, 0},
		"9V": {1, 0}, "99V": {2, 0}, "9V9": {2, 1}, "99V9": {3, 1}, "9V99": {3, 2}, "9(3)V99": {5, 2}, "9(18)V": {18, 0}, "9(17)V9": {18, 1}, "9V9(17)": {18, 17},
		"V9": {1, 1}, "V99": {2, 2}, "V9(3)": {3, 3}, "V9(18)": {18, 18},
		"VP9": {1, 2}, "VPP9": {1, 3}, "VP99": {2, 3}, "VP(4)9(3)": {3, 7}, "VP9(17)": {17, 18}, "VP(17)9": {1, 18},
		"P9": {1, 2}, "PP9": {1, 3}, "P99": {2, 3}, "P(4)9(3)": {3, 7}, "P9(17)": {17, 18}, "P(17)9": {1, 18}, "P(9)9(9)": {9, 18},
		"9P": {1, -1}, "9PP": {1, -2}, "99P": {2, -1}, "9(2)P(3)": {2, -3}, "9(17)P": {17, -1}, "9P(17)": {1, -17},
		"9PV": {1, -1}, "9PPV": {1, -2}, "99PV": {2, -1}, "9(2)P(3)V": {2, -3}, "9(17)PV": {17, -1}, "9P(17)V": {1, -17},
	} {
		checkNumber(t, s, want[0], want[1])
	}
}

func TestTooManyDigits(t *testing.T) {
	for _, s := range []string{"9(19)", "9(19)V", "9(18)V9", "9(9)V9(10)", "9V9(18)", "V9(19)", "VP9(18)", "VP(18)9", "P9(18)", "P(18)9", "P(9)9(10)", "P(10)9(9)", "9(18)P", "9P(18)", "9(10)P(9)", "9(18)PV", "9P(18)V", "9(255)", "9(254)P", "9(19)P"} {
		checkNoShape(t, api.ErrLimit, s, "S"+s)
	}
	checkNoShape(t, api.ErrLimit, "9(256)", "P(255)9", "S9(19)V", "S9P(18)V")
}

func TestNoNumbers(t *testing.T) {
	for _, s := range []string{"V", "P", "PP", "VP", "PV", "VPP", "PPV", "9V9V9", "VV9", "9VV", "9VV9", "V9V", "PP9P", "P9P", "9P9", "P9V", "PP9V", "VP9V", "P9V9", "PV9", "PPV9", "9VP", "9VP9", "V9P", "9PV9", "9PVP", "9PVV", "VP", "V9P9", "9P9V", "P9PV", "9S", "9S9", "9(18)S", "9VS", "S", "S9", "VS9", "PS9"} {
		checkNoShape(t, api.ErrForm, "S"+s)
		if s != "S9" {
			checkNoShape(t, api.ErrForm, s)
		}
	}
	checkNoShape(t, api.ErrForm, "9Z", "9*", "9$", "9$9", "9S(2)", "S(2)9", "S9B", "S9,9", "S9.9", "S9/", "S09", "SZ9", "S+9", "S9-", "S9CR", "S*9", "S$9", "P9.9", "9P,9", "9P.", "P9B", "9PB", "B9P", "9P+", "+9P", "9PCR", "ZP", "PZ", "Z9P", "P*", "$P9", "A9P", "VPZ", "XV9", "S9X", "SA", "SX")
}

// P6.2: edited numbers

func TestEditedParts(t *testing.T) {
	checkEdited(t, "Z", 1, 0, false, 1)
	checkEdited(t, "ZZ", 2, 0, false, 2)
	checkEdited(t, "Z9", 2, 0, false, 2)
	checkEdited(t, "Z(3)9(2)", 5, 0, false, 5)
	checkEdited(t, "*", 1, 0, false, 1)
	checkEdited(t, "**9", 3, 0, false, 3)
	checkEdited(t, "*(3)9(2)", 5, 0, false, 5)
	checkEdited(t, "+9", 1, 0, true, 2)
	checkEdited(t, "-9", 1, 0, true, 2)
	checkEdited(t, "$9", 1, 0, false, 2)
	checkEdited(t, "+$9", 1, 0, true, 3)
	checkEdited(t, "-$9", 1, 0, true, 3)
	checkEdited(t, "$Z", 1, 0, false, 2)
	checkEdited(t, "$**9", 3, 0, false, 4)
	checkEdited(t, "-$Z9.9", 3, 1, true, 6)
	checkEdited(t, "9+", 1, 0, true, 2)
	checkEdited(t, "9-", 1, 0, true, 2)
	checkEdited(t, "9CR", 1, 0, true, 3)
	checkEdited(t, "9DB", 1, 0, true, 3)
	checkEdited(t, "$Z,ZZ9.99CR", 6, 2, true, 11)
	checkEdited(t, "$*(3)9.99DB", 6, 2, true, 10)
	checkEdited(t, "Z,ZZ9.99-", 6, 2, true, 9)
	checkEdited(t, "$9+", 1, 0, true, 3)
	checkEdited(t, "+V9", 1, 1, true, 2)
	checkEdited(t, "V9-", 1, 1, true, 2)
	checkEdited(t, "$V9", 1, 1, false, 2)
}

func TestFloatingStrings(t *testing.T) {
	checkEdited(t, "$$", 1, 0, false, 2)
	checkEdited(t, "++", 1, 0, true, 2)
	checkEdited(t, "--", 1, 0, true, 2)
	checkEdited(t, "$$$9", 3, 0, false, 4)
	checkEdited(t, "$$9", 2, 0, false, 3)
	checkEdited(t, "++9", 2, 0, true, 3)
	checkEdited(t, "--9", 2, 0, true, 3)
	checkEdited(t, "+++99", 4, 0, true, 5)
	checkEdited(t, "$(5)", 4, 0, false, 5)
	checkEdited(t, "$$,$$9.99", 6, 2, false, 9)
	checkEdited(t, "+++,++9", 5, 0, true, 7)
	checkEdited(t, "+$$9", 2, 0, true, 4)
	checkEdited(t, "-$$", 1, 0, true, 3)
	checkEdited(t, "$++9", 2, 0, true, 4)
	checkEdited(t, "$--", 1, 0, true, 3)
	checkEdited(t, "$$9+", 2, 0, true, 4)
	checkEdited(t, "$$CR", 1, 0, true, 4)
	checkEdited(t, "$$DB", 1, 0, true, 4)
	checkEdited(t, "$B$", 1, 0, false, 3)
	checkEdited(t, "+,+", 1, 0, true, 3)
	checkEdited(t, "-0-9", 2, 0, true, 4)
}

func TestFractions(t *testing.T) {
	checkEdited(t, "9.9", 2, 1, false, 3)
	checkEdited(t, "9(3).9(2)", 5, 2, false, 6)
	checkEdited(t, "Z9.99", 4, 2, false, 5)
	checkEdited(t, "ZZ.99", 4, 2, false, 5)
	checkEdited(t, "ZZ.ZZ", 4, 2, false, 5)
	checkEdited(t, "ZZVZZ", 4, 2, false, 4)
	checkEdited(t, "Z.Z", 2, 1, false, 3)
	checkEdited(t, "**.99", 4, 2, false, 5)
	checkEdited(t, "**.**", 4, 2, false, 5)
	checkEdited(t, "*V*", 2, 1, false, 2)
	checkEdited(t, "$$.99", 3, 2, false, 5)
	checkEdited(t, "$$.$$", 3, 2, false, 5)
	checkEdited(t, "$$V$", 2, 1, false, 3)
	checkEdited(t, "++.9", 2, 1, true, 4)
	checkEdited(t, "++.++", 3, 2, true, 5)
	checkEdited(t, "++V+", 2, 1, true, 3)
	checkEdited(t, "--.-", 2, 1, true, 4)
	checkEdited(t, "--9.99", 4, 2, true, 6)
	checkEdited(t, "$$9V99", 4, 2, false, 5)
	checkEdited(t, "$$.$-", 2, 1, true, 5)
	checkEdited(t, "$++.++", 3, 2, true, 6)
}

func TestEmptyWholeParts(t *testing.T) {
	checkEdited(t, ".9", 1, 1, false, 2)
	checkEdited(t, ".99", 2, 2, false, 3)
	checkEdited(t, ".Z", 1, 1, false, 2)
	checkEdited(t, ".ZZ", 2, 2, false, 3)
	checkEdited(t, ".**", 2, 2, false, 3)
	checkEdited(t, "VZ", 1, 1, false, 1)
	checkEdited(t, "V**", 2, 2, false, 2)
	checkEdited(t, "$.99", 2, 2, false, 4)
	checkEdited(t, "$.ZZ", 2, 2, false, 4)
	checkEdited(t, "+$.**", 2, 2, true, 5)
	checkEdited(t, "-.9", 1, 1, true, 3)
	checkEdited(t, ".9-", 1, 1, true, 3)
	checkEdited(t, ".9CR", 1, 1, true, 4)
	checkEdited(t, "B.9", 1, 1, false, 3)
	checkEdited(t, "VB9", 1, 1, false, 2)
	checkNoShape(t, api.ErrForm, ".", "V", ".$", ".$$", ".+", ".++", ".--", "$.$$", "$.$", "+.+", "+.++", "V$", "V$$", "V+", "V++", "V--", "V+9", ".9Z", ".Z9", ".Z*", ".*Z", ".*9", "$V", "+V", "VCR", ".DB", "$.", "+$.", "+$V")
}

func TestPointsWithoutFractions(t *testing.T) {
	checkEdited(t, "ZV", 1, 0, false, 1)
	checkEdited(t, "Z9V", 2, 0, false, 2)
	checkEdited(t, "*V", 1, 0, false, 1)
	checkEdited(t, "$$V", 1, 0, false, 2)
	checkEdited(t, "++V", 1, 0, true, 2)
	checkEdited(t, "+9V", 1, 0, true, 2)
	checkEdited(t, "9V+", 1, 0, true, 2)
	checkEdited(t, "9VCR", 1, 0, true, 3)
	checkEdited(t, "9VB", 1, 0, false, 2)
	checkEdited(t, "B9V", 1, 0, false, 2)
	checkNoShape(t, api.ErrForm, "9.", "Z.", "ZZ9.", "*.", "$$.", "++.", "9.+", "Z.-", "9.CR", "9.DB", "9.B", "9.0", "9.B-", "$9.", "+9.")
	checkNoShape(t, api.ErrForm, "9..9", "9.9.9", "9V.9", "9.V9", "ZVV", "ZVVZ", "Z.ZVZ", "ZV.", "Z.V", "..9", ".9.", "9.9V", "Z.ZV")
}

func TestOtherFractions(t *testing.T) {
	checkNoShape(t, api.ErrForm, "ZZ.Z9", "ZZ.9Z", "ZZ.**", "Z.*", "**.ZZ", "**.*9", "**.9*", "$$.ZZ", "$$.**", "$$.$9", "$$.9$", "$$.++", "++.$$", "++.--", "--.++", "++.+9", "++.9+", "--.ZZ", "ZZ.$$", "ZZ.++", "**.--")
	checkNoShape(t, api.ErrForm, "9.Z", "9.ZZ", "9.*", "9.**", "9V$", "9.$$", "9.++", "Z9.Z", "*9.*", "$$9.$", "++9.+9", "--9.--", "$9.$", "$9.ZZ", "+9.**", "9VZ", "Z9VZ", "ZVZ9", "Z9V9Z", "$Z.$")
}

func TestOneSign(t *testing.T) {
	for _, sign := range []string{"+", "-"} {
		for _, tail := range []string{"+", "-", "CR", "DB"} {
			checkNoShape(t, api.ErrForm, sign+"9"+tail, sign+"Z9V9"+tail, sign+"$9"+tail, sign+"$$"+tail, sign+".9"+tail, sign+sign+"9"+tail, sign+sign+".9"+tail, sign+sign+".9"+sign)
		}
		checkNoShape(t, api.ErrForm, "+"+strings.Repeat(sign, 2)+"$9", "+-9", "-+9", "+--9", "-++9", "+$++9", "+$--9", "-$--", "-$++", "++--", "++9--9", "++--9", "9+-", "9-+", "9++", "9--", "9+9", "9-9", "+9+9", "$+9", "$-9", "$+", "$-", "+", "-", "+-", "-+", "+CR", "-DB", "+DB", "-CR", "Z+Z", "Z++", "ZZ--")
	}
	checkNoShape(t, api.ErrForm, "++CR", "--DB", "++9CR", "--9DB", "$++-", "$--CR", "+Z9V9CR", "+9DB", "++.+CR", "--.-DB", "++V-", "--V+", "++V9+", "--9V-", "$++V-")
}

func TestOneCurrencySign(t *testing.T) {
	checkNoShape(t, api.ErrForm, "$", "+$", "$+$", "$9$", "9$", "Z$", "$Z$", "$$Z", "$$*", "$$9$", "$+$$", "$++$", "++$", "++$9", "--$$", "++$$", "$$++", "$$--9", "9$$", "Z$$", "$9$$", "*$", "$*$$", "$.9$", "$$$.9$$", "$CR", "$DB", "-$", "$-")
	checkEdited(t, "$$$", 2, 0, false, 3)
	checkEdited(t, "$0$$", 2, 0, false, 4)
	checkEdited(t, "$B$$9", 3, 0, false, 5)
}

func TestOrderOfParts(t *testing.T) {
	checkNoShape(t, api.ErrForm, "9Z", "9*", "9Z9", "Z*", "*Z", "Z9Z", "*9*", "ZZ**", "Z9*", "9+Z", "Z+9", "Z$9", "9$Z", "++Z", "--*", "$$Z9", "++9Z", "Z--", "CR9", "DB9", "CR", "DB", "CR9CR", "9CRCR", "9DBDB", "9CRDB", "9DBCR", "9CR+", "9CR9", "9CR.9", "9DB9", "9DBZ", "9DB-", "9+CR", "9-DB")
	checkNoShape(t, api.ErrForm, "C", "R", "D", "9C", "9R", "9D", "9RC", "9BD", "C9", "R9", "D9", "C9R", "D9B", "9C9R", "9CCR", "9CRR", "9DDB", "9C+", "9R-", "ZC", "Z9D", "C(2)R", "9C(2)R", "9CR(2)", "9D(2)B", "ACR", "XDB", "CB", "9CD", "9CB", "9RB", "9DR", "9CDB", "9RDB", "9DCR")
}

func TestInsertionSymbols(t *testing.T) {
	for _, symbol := range []string{"B", "0", "/"} {
		checkEdited(t, symbol+"9", 1, 0, false, 2)
		checkEdited(t, "9"+symbol, 1, 0, false, 2)
		checkEdited(t, "9"+symbol+"9", 2, 0, false, 3)
		checkEdited(t, symbol+"(4)9"+symbol+"(2)9"+symbol, 2, 0, false, 9)
		checkEdited(t, "Z"+symbol+"Z.Z"+symbol+"Z", 4, 2, false, 7)
		checkEdited(t, "+"+symbol+"9", 1, 0, true, 3)
		checkEdited(t, symbol+"+9", 1, 0, true, 3)
		checkEdited(t, "$"+symbol+"9", 1, 0, false, 3)
		checkEdited(t, "9"+symbol+"+", 1, 0, true, 3)
		checkEdited(t, "9+"+symbol, 1, 0, true, 3)
		checkEdited(t, "9"+symbol+"CR", 1, 0, true, 4)
		checkEdited(t, "9"+symbol+"DB", 1, 0, true, 4)
		checkEdited(t, symbol+"9DB", 1, 0, true, 4)
		checkEdited(t, "9CR"+symbol, 1, 0, true, 4)
		checkEdited(t, "+"+symbol+"+9", 2, 0, true, 4)
		checkEdited(t, "9V"+symbol+"9", 2, 1, false, 3)
		checkEdited(t, "9"+symbol+",9", 2, 0, false, 4)
		checkNoShape(t, api.ErrForm, symbol, symbol+"(9)", symbol+"B0/", "+"+symbol, "$"+symbol, symbol+"CR", symbol+"DB", "9"+symbol+"Z", "S9"+symbol, "9."+symbol, "9DB"+symbol, "9D"+symbol+"B")
	}
	checkEdited(t, "99/99", 4, 0, false, 5)
	checkEdited(t, "99/99/9999", 8, 0, false, 10)
	checkEdited(t, "09", 1, 0, false, 2)
	checkEdited(t, "90", 1, 0, false, 2)
	checkEdited(t, "9B0/B9", 2, 0, false, 6)
	checkEdited(t, "+9B99/9", 4, 0, true, 7)
	checkEdited(t, "9BDB", 1, 0, true, 4)
	checkEdited(t, "BB9BB", 1, 0, false, 5)
	checkEdited(t, "BZBBDB", 1, 0, true, 6)
}

func TestCommas(t *testing.T) {
	checkEdited(t, "9,9", 2, 0, false, 3)
	checkEdited(t, "9,,9", 2, 0, false, 4)
	checkEdited(t, "9,999,999", 7, 0, false, 9)
	checkEdited(t, "$,9", 1, 0, false, 3)
	checkEdited(t, "9,+", 1, 0, true, 3)
	checkEdited(t, "9,CR", 1, 0, true, 4)
	checkEdited(t, "9,DB", 1, 0, true, 4)
	checkEdited(t, "9,B", 1, 0, false, 3)
	checkEdited(t, "B,9", 1, 0, false, 3)
	checkEdited(t, "9.9,9", 3, 2, false, 5)
	checkEdited(t, "9,.9", 2, 1, false, 4)
	checkEdited(t, "V,9", 1, 1, false, 2)
	checkEdited(t, "9,V", 1, 0, false, 2)
	checkEdited(t, "$(2),$(3)", 4, 0, false, 6)
	checkNoShape(t, api.ErrForm, ",", ",,", ",9", "9,", ",9,", ",99,9", "99,9,", ",Z", "Z,", ",,9", "9,,", ",+9", "9+,", ",$9", "$$,", ",.9", ".9,", "9V,", ",V9", ",B9", "9B,", "9CR,", "9DB,", ",9DB", ",(2)9", "9,(2)", "9,.", "$,", "+,", "B,B", ",A", "A,", ",X9")
}

func TestEditedDigits(t *testing.T) {
	checkEdited(t, "Z(18)", 18, 0, false, 18)
	checkEdited(t, "Z(17)9", 18, 0, false, 18)
	checkEdited(t, "*(9)9(9)", 18, 0, false, 18)
	checkEdited(t, "$(19)", 18, 0, false, 19)
	checkEdited(t, "+(19)", 18, 0, true, 19)
	checkEdited(t, "-(18)9", 18, 0, true, 19)
	checkEdited(t, "$$(8).$(10)", 18, 10, false, 20)
	checkEdited(t, "Z(9).Z(9)", 18, 9, false, 19)
	checkEdited(t, "9.9(17)", 18, 17, false, 19)
	checkEdited(t, ".9(18)", 18, 18, false, 19)
	checkEdited(t, "B(230)9(18)-", 18, 0, true, 249)
	checkEdited(t, "9(17)B(238)9", 18, 0, false, api.MaxPicture)
	checkEdited(t, "9"+strings.Repeat(",9", 17), 18, 0, false, 35)
	checkNoShape(t, api.ErrLimit, "Z(19)", "Z(18)9", "*(9)9(10)", "$(20)", "+(20)", "-(19)9", "$(9).$(11)", "Z(9).Z(10)", "9.9(18)", ".9(19)", "B9(19)", "9(19)-", "$9(19)", "Z(256)", "9(19)CR", "+9(19)", ".Z(19)", "$(256)", "+(31)", "-(33)9", "-(255)9", "Z9(31)", "*9(33)", "$9(255)", "Z.9(31)", "Z.Z(33)", ".9(255)", "V*(255)", "9"+strings.Repeat(",9", 18))
}

// A picture that has none of the forms has ErrForm, however many digits it has.
func TestFormIsBeforeDigits(t *testing.T) {
	checkNoShape(t, api.ErrForm, "9(19)Z", "Z(19).", "+9(19)-", ",9(19)", "9(19),", "9(20)V9V", "S9(19)B", "P(19)9P", "P(19)", "9(19)S", "9(19)$", "$(20)Z")
	checkNoPicture(t, api.ErrLimit, "9(300)Z", "9Z(300)", "S(300)", ",(257)")
}

func TestExamples(t *testing.T) {
	checkShape(t, "S9(3)V99", api.Shape{Category: api.Numeric, Digits: 5, Scale: 2, Signed: true, Size: 5})
	checkText(t, api.Alphabetic, "A(3)")
	checkText(t, api.Alphanumeric, "XA9")
	checkText(t, api.AlphaEdited, "X(2)BX(2)")
	checkEdited(t, "$**9", 3, 0, false, 4)
	checkNoShape(t, api.ErrForm, "+Z9V9CR", "9Z", "S", ",9")
	checkNoShape(t, api.ErrLimit, "9(19)")
	checkNoPicture(t, api.ErrForm, "X(0)", "A(")
}
