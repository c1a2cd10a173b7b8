package pictures_test

import (
	"math"
	"strings"
	"testing"

	"columnseven/api"
	"columnseven/pictures"
)

// checkSize fails unless a shape has a size, whatever its fields are that do not matter.
func checkSize(t *testing.T, s api.Shape, want int) {
	t.Helper()
	sizes := []int{s.Size}
	if s.Category != api.Group {
		sizes = []int{0, 1, want, -1, math.MinInt, math.MaxInt}
	}
	for _, s.Size = range sizes {
		for _, set := range []bool{false, true} {
			s.Leading, s.Just, s.Blank = set, set, set
			if got, e := pictures.Size(s); got != want || e != api.OK {
				t.Errorf("%+v: %d, %d, wanted %d", s, got, e, want)
			}
		}
	}
}

// checkSizeError fails unless Size and Check return an error for a shape.
func checkSizeError(t *testing.T, want api.Errno, list ...api.Shape) {
	t.Helper()
	for _, s := range list {
		if got, e := pictures.Size(s); got != 0 || e != want {
			t.Errorf("%+v: %d, %d, wanted %d", s, got, e, want)
		}
		if e := pictures.Check(s); e != want {
			t.Errorf("%+v: Check %d, wanted %d", s, e, want)
		}
	}
}

// P6.3

func TestSizesOfNumbers(t *testing.T) {
	display := func(digits int) int { return digits }
	separate := func(digits int) int { return digits + 1 }
	packed := []int{1, 2, 2, 3, 3, 4, 4, 5, 5, 6, 6, 7, 7, 8, 8, 9, 9, 10}
	binary := []int{2, 2, 2, 2, 4, 4, 4, 4, 4, 8, 8, 8, 8, 8, 8, 8, 8, 8}
	for digits := 1; digits <= api.MaxDigits; digits++ {
		for _, signed := range []bool{false, true} {
			for _, picture := range []string{"", "9", "S9V9", "XVX", strings.Repeat("9", digits)} {
				s := api.Shape{Category: api.Numeric, Picture: picture, Digits: digits, Scale: digits - 3, Signed: signed}
				checkSize(t, s, display(digits))
				s.Separate = true
				checkSize(t, s, separate(digits))
				s.Usage = api.Packed
				checkSize(t, s, packed[digits-1])
				s.Usage = api.Binary
				checkSize(t, s, binary[digits-1])
				s.Separate = false
				checkSize(t, s, binary[digits-1])
				s.Usage = api.Packed
				checkSize(t, s, packed[digits-1])
			}
		}
	}
}

func TestSizesOfPictures(t *testing.T) {
	for picture, size := range map[string]int{
		"": 0, "A": 1, "AAA": 3, "XA9": 3, "XXBXX": 5, "V": 0, "VVV": 0, "AVA": 2, "ZVZ": 2, "+Z9V9CR": 6, "Z,ZZ9.99-": 9, "9CR": 3, "9DB": 3, "99/99": 5,
		"X(3)": 4, "A(3)V": 4, "V(3)": 3, "v": 1, "Ä": 2, "ab c": 4, "\x00\xff": 2, "VÄV": 2, strings.Repeat("X", 300): 300, strings.Repeat("XV", 1<<20): 1 << 20,
	} {
		for category := api.Alphabetic; category <= api.Edited; category++ {
			if category == api.Numeric {
				continue
			}
			for usage := api.Display; usage <= api.Binary; usage++ {
				for _, digits := range []int{0, 1, 18, 19, -1, math.MinInt, math.MaxInt} {
					checkSize(t, api.Shape{Category: category, Usage: usage, Picture: picture, Digits: digits, Scale: -digits, Separate: digits == 1, Signed: digits == 18}, size)
				}
			}
		}
	}
}

func TestSizesOfGroups(t *testing.T) {
	for _, size := range []int{0, 1, 2, 4096, api.MaxStore - 1, api.MaxStore} {
		checkSize(t, api.Shape{Size: size}, size)
		checkSize(t, api.Shape{Usage: api.Packed, Picture: "XXV", Digits: 99, Scale: -1, Signed: true, Separate: true, Size: size}, size)
		checkSize(t, api.Shape{Usage: api.Binary, Picture: "(", Digits: -99, Size: size}, size)
	}
	for _, size := range []int{-1, -2, api.MaxStore + 1, api.MaxStore + 2, math.MinInt, math.MaxInt} {
		checkSizeError(t, api.ErrArg, api.Shape{Size: size}, api.Shape{Size: size, Picture: "X"}, api.Shape{Size: size, Usage: api.Binary})
	}
}

func TestCategoriesWithoutName(t *testing.T) {
	for _, category := range []api.Category{6, 7, 100, 255} {
		for _, usage := range []api.Usage{0, 1, 2, 3, 255} {
			checkSizeError(t, api.ErrKind, api.Shape{Category: category, Usage: usage}, api.Shape{Category: category, Usage: usage, Picture: "9", Digits: 1, Size: 1}, api.Shape{Category: category, Usage: usage, Picture: "9(", Digits: -1, Size: -1})
		}
	}
}

func TestUsagesWithoutName(t *testing.T) {
	for _, usage := range []api.Usage{3, 4, 100, 255} {
		for category := api.Group; category <= api.Edited; category++ {
			checkSizeError(t, api.ErrKind, api.Shape{Category: category, Usage: usage}, api.Shape{Category: category, Usage: usage, Picture: "9", Digits: 1, Size: 1}, api.Shape{Category: category, Usage: usage, Picture: "9(", Digits: 19, Size: -1})
		}
	}
}

func TestDigitsOutOfRange(t *testing.T) {
	for _, digits := range []int{0, -1, 19, 20, 100, math.MinInt, math.MaxInt} {
		for usage := api.Display; usage <= api.Binary; usage++ {
			s := api.Shape{Category: api.Numeric, Usage: usage, Digits: digits, Picture: "9(300)", Size: -1}
			bad := s
			bad.Separate, bad.Just, bad.Blank, bad.Picture = true, true, true, "("
			checkSizeError(t, api.ErrArg, s, bad)
		}
	}
}

// P6.4

// checkCheck fails unless Check returns an error for shapes.
func checkCheck(t *testing.T, want api.Errno, list ...api.Shape) {
	t.Helper()
	for _, s := range list {
		if e := pictures.Check(s); e != want {
			t.Errorf("%+v: %d, wanted %d", s, e, want)
		}
	}
}

// shape returns the shape of a picture after a change.
func shape(s string, change func(*api.Shape)) api.Shape {
	described, _ := pictures.Parse(s)
	change(&described)
	return described
}

func TestGroupsHaveASizeOnly(t *testing.T) {
	for _, size := range []int{0, 1, 77, api.MaxStore} {
		checkCheck(t, api.OK, api.Shape{Size: size})
		checkCheck(t, api.ErrArg,
			api.Shape{Size: size, Usage: api.Packed}, api.Shape{Size: size, Usage: api.Binary}, api.Shape{Size: size, Picture: "X"}, api.Shape{Size: size, Picture: "("},
			api.Shape{Size: size, Digits: 1}, api.Shape{Size: size, Digits: -1}, api.Shape{Size: size, Scale: 1}, api.Shape{Size: size, Scale: -1}, api.Shape{Size: size, Signed: true},
			api.Shape{Size: size, Leading: true}, api.Shape{Size: size, Separate: true}, api.Shape{Size: size, Just: true}, api.Shape{Size: size, Blank: true})
	}
}

func TestUsagesOfNumbers(t *testing.T) {
	for picture, sizes := range map[string][3]int{"9": {1, 1, 2}, "S9(4)": {4, 3, 2}, "S9(5)": {5, 3, 4}, "9(7)V99": {9, 5, 4}, "S9(8)V99": {10, 6, 8}, "SPP9(16)": {16, 9, 8}, "9(17)P": {17, 9, 8}, "S9(18)": {18, 10, 8}} {
		for usage, size := range sizes {
			good := shape(picture, func(s *api.Shape) { s.Usage, s.Size = api.Usage(usage), size })
			checkCheck(t, api.OK, good)
			for _, other := range []int{0, -1, size - 1, size + 1, math.MinInt, math.MaxInt} {
				good.Size = other
				checkCheck(t, api.ErrWidth, good)
			}
		}
	}
}

func TestPicturesOfShapes(t *testing.T) {
	for category := api.Alphabetic; category <= api.Edited; category++ {
		s := api.Shape{Category: category, Digits: 1}
		for _, s.Picture = range []string{"", "(", "9(", "a", "9Z", "S", "9(0)", "X,", "+", "9(19)Z", strings.Repeat("X", 300) + "?"} {
			checkCheck(t, api.ErrForm, s)
		}
		for _, s.Picture = range []string{"X(257)", strings.Repeat("X", 257), "9(19)", "Z(19)", "S9P(18)", "9Z(300)"} {
			checkCheck(t, api.ErrLimit, s)
		}
		for _, s.Picture = range []string{"A(3)", "X(1)", "XB(2)", "9(1)", "9(5)", "S9(3)V9", "Z(1)", "Z(3)9"} {
			checkCheck(t, api.ErrForm, s)
		}
	}
}

func TestFieldsOfThePicture(t *testing.T) {
	for _, picture := range []string{"A", "X9", "XBX", "9", "S9(3)V99", "PP9", "9(2)P(3)", "Z,ZZ9.99-", "$$9", "++.++"} {
		good := shape(picture, func(*api.Shape) {})
		checkCheck(t, api.OK, good)
		for _, delta := range []int{-7, -1, 1, 2, math.MinInt + 100, math.MaxInt - 100} {
			if good.Category != api.Numeric || good.Digits+delta > 0 && good.Digits+delta <= api.MaxDigits {
				checkCheck(t, api.ErrArg, shape(picture, func(s *api.Shape) { s.Digits += delta }))
			}
			checkCheck(t, api.ErrArg, shape(picture, func(s *api.Shape) { s.Scale += delta }))
		}
		checkCheck(t, api.ErrArg, shape(picture, func(s *api.Shape) { s.Signed = !s.Signed }))
		for category := api.Alphabetic; category <= api.Edited; category++ {
			if category != good.Category {
				checkCheck(t, api.ErrArg, shape(picture, func(s *api.Shape) { s.Category, s.Digits = category, max(1, s.Digits) }))
			}
		}
		for _, size := range []int{-1, 0, good.Size - 1, good.Size + 1, 2 * api.MaxStore, math.MinInt, math.MaxInt} {
			checkCheck(t, api.ErrWidth, shape(picture, func(s *api.Shape) { s.Size = size }))
		}
	}
	checkCheck(t, api.ErrArg, api.Shape{Category: api.Numeric, Picture: "S9", Digits: 1, Size: 1}, api.Shape{Category: api.Alphanumeric, Picture: "A", Size: 1}, api.Shape{Category: api.AlphaEdited, Picture: "X", Size: 1}, api.Shape{Category: api.Edited, Picture: "9V", Digits: 1, Size: 1})
}

func TestUsagesOfOtherCategories(t *testing.T) {
	for _, picture := range []string{"A", "X9", "XBX", "Z9", "++"} {
		for _, usage := range []api.Usage{api.Packed, api.Binary} {
			checkCheck(t, api.ErrKind, shape(picture, func(s *api.Shape) { s.Usage = usage }))
		}
	}
}

func TestSigns(t *testing.T) {
	lead := func(s *api.Shape) { s.Leading = true }
	apart := func(s *api.Shape) { s.Separate, s.Size = true, s.Size+1 }
	both := func(s *api.Shape) { s.Leading, s.Separate, s.Size = true, true, s.Size+1 }
	for _, change := range []func(*api.Shape){lead, apart, both} {
		for _, picture := range []string{"S9", "S9(5)", "S9V9", "SV9", "SPP9", "S9P", "S9(18)"} {
			checkCheck(t, api.OK, shape(picture, change))
			checkCheck(t, api.ErrKind, shape(picture, func(s *api.Shape) { change(s); s.Usage, s.Size = api.Packed, s.Digits/2+1 }))
			checkCheck(t, api.ErrKind, shape(picture, func(s *api.Shape) { change(s); s.Usage, s.Size = api.Binary, 2 }))
		}
		for _, picture := range []string{"9", "9(5)", "9V9", "PP9"} {
			checkCheck(t, api.ErrKind, shape(picture, change))
		}
		for _, picture := range []string{"A", "X", "XB", "Z9", "+9", "9CR", "--9"} {
			checkCheck(t, api.ErrKind, shape(picture, func(s *api.Shape) { size := s.Size; change(s); s.Size = size }), shape(picture, change))
		}
	}
	checkCheck(t, api.ErrWidth, shape("S9", func(s *api.Shape) { s.Separate = true }), shape("S9", func(s *api.Shape) { s.Leading, s.Size = true, 2 }), shape("S9(18)", func(s *api.Shape) { s.Leading, s.Separate = true, true }))
}

func TestJustAndBlank(t *testing.T) {
	just := func(s *api.Shape) { s.Just = true }
	blank := func(s *api.Shape) { s.Blank = true }
	both := func(s *api.Shape) { s.Just, s.Blank = true, true }
	for _, picture := range []string{"A", "AAA", "X", "XA9"} {
		checkCheck(t, api.OK, shape(picture, just))
		checkCheck(t, api.ErrKind, shape(picture, blank), shape(picture, both))
	}
	for _, picture := range []string{"Z9", "9/9", "++", "9CR", ".9"} {
		checkCheck(t, api.OK, shape(picture, blank))
		checkCheck(t, api.ErrKind, shape(picture, just), shape(picture, both))
	}
	for _, picture := range []string{"9", "S9", "9V9", "XBX", "A0", "/X"} {
		checkCheck(t, api.ErrKind, shape(picture, just), shape(picture, blank), shape(picture, both))
	}
	for _, usage := range []api.Usage{api.Packed, api.Binary} {
		checkCheck(t, api.ErrKind, shape("99", func(s *api.Shape) { s.Usage, s.Size, s.Just = usage, 2, true }), shape("99", func(s *api.Shape) { s.Usage, s.Size, s.Blank = usage, 2, true }))
	}
}

// Of several faults, Check returns the one that the chapter names first.
func TestOrderOfFaults(t *testing.T) {
	bad := api.Shape{Category: 9, Usage: 9, Picture: "(", Digits: 99, Scale: 9, Signed: true, Leading: true, Separate: true, Just: true, Blank: true, Size: -1}
	checkCheck(t, api.ErrKind, bad)
	bad.Category, bad.Usage = api.Numeric, api.Display
	checkCheck(t, api.ErrArg, bad)
	bad.Digits = 5
	checkCheck(t, api.ErrForm, bad)
	bad.Picture = "S9(300)V9(5)"
	checkCheck(t, api.ErrLimit, bad)
	bad.Picture = "S9(4)V9"
	checkCheck(t, api.ErrForm, bad)
	bad.Picture = "S9999V9"
	checkCheck(t, api.ErrArg, bad)
	bad.Scale = 1
	checkCheck(t, api.ErrKind, bad)
	bad.Just = false
	checkCheck(t, api.ErrKind, bad)
	bad.Blank = false
	checkCheck(t, api.ErrWidth, bad)
	bad.Size = 6
	checkCheck(t, api.OK, bad)
	group := api.Shape{Usage: api.Packed, Picture: "(", Size: -1}
	checkCheck(t, api.ErrArg, group)
	group.Size = 1
	checkCheck(t, api.ErrArg, group)
	group.Usage = 3
	checkCheck(t, api.ErrKind, group)
}

func TestExampleSizes(t *testing.T) {
	checkSize(t, shape("S9(5)", func(s *api.Shape) { s.Usage = api.Packed }), 3)
	checkSize(t, shape("S9(5)", func(s *api.Shape) { s.Usage = api.Binary }), 4)
	checkSize(t, shape("S9(5)", func(s *api.Shape) { s.Separate = true }), 6)
}
