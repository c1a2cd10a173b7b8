package words_test

import (
	"math/big"
	"math/rand"
	"reflect"
	"regexp"
	"strings"
	"testing"

	"columnseven/api"
	"columnseven/chars"
	"columnseven/words"
)

// P5.4

func TestWordsAreNames(t *testing.T) {
	form, letter := regexp.MustCompile(`\A[A-Z0-9-]+\z`), regexp.MustCompile(`[A-Z]`)
	seen, before := map[string]bool{}, ""
	for _, word := range words.All() {
		if !form.MatchString(word) || !letter.MatchString(word) || !chars.IsName(word) {
			t.Errorf("%q is not a word", word)
		}
		if seen[word] || word <= before {
			t.Errorf("%q stands behind %q", word, before)
		}
		seen[word], before = true, word
		if words.Of(word) == words.Name {
			t.Errorf("%q is not reserved", word)
		}
		if _, figurative := words.Byte(word); figurative != (words.Of(word) == words.Figurative) {
			t.Errorf("%q has a byte: %t", word, figurative)
		}
	}
}

// checkSizes fails unless all sizes of a field agree.
func checkSizes(t *testing.T, f api.Field) {
	t.Helper()
	symbols := strings.NewReplacer("S", "", "V", "").Replace(f.Shape.Picture)
	if f.Shape.Size != len(f.Bytes) || len(symbols) != len(f.Bytes) || len(f.Bytes) == 0 {
		t.Errorf("%+v has %d bytes", f.Shape, len(f.Bytes))
	}
}

func TestSizesOfFields(t *testing.T) {
	for _, word := range words.All() {
		if f, e := words.Literal(api.Token{Kind: api.Word, Text: word}); e == api.OK {
			checkSizes(t, f)
		}
	}
	for n := range api.MaxPicture {
		if f, e := words.Literal(api.Token{Kind: api.Quote, Text: strings.Repeat("S", n+1)}); e == api.OK {
			checkSizes(t, f)
		}
	}
}

// value returns the number that the bytes and the shape of a field are.
func value(f api.Field) *big.Rat {
	last := len(f.Bytes) - 1
	digits, negative := string(f.Bytes), false
	if f.Shape.Signed {
		for i, c := range []byte("{ABCDEFGHI}JKLMNOPQR") {
			if c == f.Bytes[last] {
				digits, negative = string(f.Bytes[:last])+string(rune('0'+i%10)), i >= 10
			}
		}
	}
	n, _ := new(big.Int).SetString(digits, 10)
	if negative {
		n.Neg(n)
	}
	power := new(big.Int).Exp(big.NewInt(10), big.NewInt(int64(f.Shape.Scale)), nil)
	return new(big.Rat).SetFrac(n, power)
}

// randomNumber returns a number without a sign.
func randomNumber(r *rand.Rand) string {
	digits := make([]byte, 1+r.Intn(api.MaxDigits))
	for i := range digits {
		digits[i] = "0123456789000"[r.Intn(13)]
	}
	if point := r.Intn(2 * len(digits)); point < len(digits) {
		return string(digits[:point]) + "." + string(digits[point:])
	}
	return string(digits)
}

func TestNumbersAreReadAgain(t *testing.T) {
	r := rand.New(rand.NewSource(2))
	for range 50000 {
		for _, sign := range []string{"", "+", "-"} {
			text := sign + randomNumber(r)
			f, e := words.Literal(api.Token{Kind: api.Number, Text: text})
			if e != api.OK {
				t.Fatalf("%q: %d", text, e)
			}
			checkSizes(t, f)
			want, _ := new(big.Rat).SetString(text)
			if got := value(f); got.Cmp(want) != 0 || f.Shape.Signed != (sign != "") {
				t.Errorf("%q is %s, %+v", text, got.FloatString(api.MaxDigits), f.Shape)
			}
		}
	}
}

// sameButSign reports whether two fields differ in the last byte alone, and by the sign.
func sameButSign(a, b api.Field) bool {
	last := len(a.Bytes) - 1
	if len(b.Bytes) != len(a.Bytes) || string(a.Bytes[:last]) != string(b.Bytes[:last]) || a.Bytes[last] == b.Bytes[last] {
		return false
	}
	if !a.Shape.Signed {
		a.Shape.Signed, a.Shape.Picture = true, "S"+a.Shape.Picture
	}
	return a.Shape == b.Shape
}

func TestSignsChangeTheLastByte(t *testing.T) {
	r := rand.New(rand.NewSource(3))
	for range 50000 {
		text := randomNumber(r)
		none, _ := words.Literal(api.Token{Kind: api.Number, Text: text})
		plus, _ := words.Literal(api.Token{Kind: api.Number, Text: "+" + text})
		minus, _ := words.Literal(api.Token{Kind: api.Number, Text: "-" + text})
		if !sameButSign(none, plus) || !sameButSign(none, minus) || !sameButSign(plus, minus) {
			t.Errorf("%q: %+v, %+v, %+v", text, none, plus, minus)
		}
	}
}

// P1, and P5.3 once more

// model returns the field of a token, made in another way than the package does.
func model(token api.Token) (api.Field, api.Errno) {
	word, isWord := figuratives()[token.Text]
	switch {
	case token.Kind == api.Word && isWord && word == '0':
		return numeric("9", 1, 0, false, "0"), api.OK
	case token.Kind == api.Word && isWord:
		return alphanumeric(string([]byte{word})), api.OK
	case token.Kind == api.Word:
		return api.Field{}, api.ErrWord
	case token.Kind == api.Quote && regexp.MustCompile(`(?s)\A.+\z`).MatchString(token.Text) && len(token.Text) < 257:
		return alphanumeric(token.Text), api.OK
	case token.Kind == api.Quote:
		return api.Field{}, api.ErrWidth
	case token.Kind != api.Number:
		return api.Field{}, api.ErrKind
	}
	parts := regexp.MustCompile(`\A([+-])?(?:([0-9]+)|([0-9]*)\.([0-9]+))\z`).FindStringSubmatch(token.Text)
	if parts == nil {
		return api.Field{}, api.ErrForm
	}
	front, behind, signed := parts[2]+parts[3], parts[4], parts[1] != ""
	digits := front + behind
	if len(digits) > 18 {
		return api.Field{}, api.ErrWidth
	}
	picture := strings.NewReplacer("+", "S", "-", "S", ".", "V").Replace(regexp.MustCompile(`[0-9]`).ReplaceAllString(token.Text, "9"))
	if signed {
		last := int(digits[len(digits)-1] - '0')
		over := map[string][]byte{"+": {'{', 'A', 'B', 'C', 'D', 'E', 'F', 'G', 'H', 'I'}, "-": {'}', 'J', 'K', 'L', 'M', 'N', 'O', 'P', 'Q', 'R'}}[parts[1]][last]
		digits = digits[:len(digits)-1] + string([]byte{over})
	}
	return numeric(picture, len(digits), len(behind), signed, digits), api.OK
}

// checkModel fails unless the package agrees with the model.
func checkModel(t *testing.T, token api.Token) {
	t.Helper()
	want, wantError := model(token)
	if got, e := words.Literal(token); e != wantError || !reflect.DeepEqual(got, want) {
		t.Errorf("%d %.300q: %+v, %d, wanted %+v, %d", token.Kind, token.Text, got, e, want, wantError)
	}
}

// All texts of at most five of the characters that numbers tell apart.
func TestSmallTexts(t *testing.T) {
	all := []string{""}
	for from, length := 0, 0; length < 5; length++ {
		to := len(all)
		for _, text := range all[from:to] {
			for _, c := range "+-.059A" {
				all = append(all, text+string(c))
			}
		}
		from = to
	}
	for _, text := range all {
		checkModel(t, api.Token{Kind: api.Number, Text: text})
	}
}

// randomToken returns a token of any kind with any text.
func randomToken(r *rand.Rand, all []string) api.Token {
	token := api.Token{Kind: api.Kind(r.Intn(9)), At: api.Pos{Line: r.Intn(9), Column: r.Intn(80)}, Left: r.Intn(2) == 0}
	switch r.Intn(5) {
	case 0:
		token.Text = randomText(r, all)
	case 1:
		token.Text = strings.Repeat(randomText(r, all), r.Intn(40))
	case 2:
		token.Text = []string{"", "+", "-"}[r.Intn(3)] + randomNumber(r)
	case 3:
		token.Text = []string{"", "+", "-", "0", "."}[r.Intn(5)] + randomNumber(r) + []string{"", ".", "0", "00", "-"}[r.Intn(5)]
	case 4:
		token.Text = all[r.Intn(len(all))]
	}
	return token
}

func TestAnyTokens(t *testing.T) {
	r := rand.New(rand.NewSource(4))
	all := append(words.All(), "ZERO", "ZEROS", "ZEROES", "SPACE", "SPACES", "QUOTE", "HIGH-VALUE", "LOW-VALUES", "TOTAL")
	for range 30000 {
		checkModel(t, randomToken(r, all))
	}
}
