package lexis_test

import (
	"fmt"
	"math/big"
	"regexp"
	"strconv"
	"testing"

	"keystone/api"
)

// The chapter's forms, as patterns.
var (
	gapForm    = regexp.MustCompile(`^([ \t\n\r]|#[^\n]*)*`)
	nameForm   = regexp.MustCompile(`^[a-z][a-z0-9_]*`)
	digitsForm = regexp.MustCompile(`^[0-9]+`)
	joinForm   = regexp.MustCompile(`^[a-z_]`)
	plainForm  = regexp.MustCompile(`^(0|[1-9][0-9]*)$`)
	textForm   = regexp.MustCompile(`^"([ !#-\[\]-~]|\\["\\nt]|\\x[0-9a-f][0-9a-f])*"`)
	goodForm   = regexp.MustCompile(`^"([ !#-\[\]-~]|\\["\\nt]|\\x[0-9a-f][0-9a-f])*(\\(x[0-9a-f]?)?)?`) // what of a text between quotes is right, where it does not end
	signForm   = regexp.MustCompile(`^(==|!=|<=|&&|\|\||[(){},;:=<!+*/%-])`)
)

// modelToken is the token at a place where no gap is, and how many bytes it has; or the place of the fault, and its error.
func modelToken(s string, at int) (api.Token, int, int, api.Errno) {
	rest := s[at:]
	if x := nameForm.FindString(rest); x != "" {
		if len(x) > 32 {
			return api.Token{}, 0, at, api.ErrLexName
		}
		return name(x, at), len(x), 0, api.OK
	}
	if x := digitsForm.FindString(rest); x != "" {
		n, _ := new(big.Int).SetString(x, 10)
		if !plainForm.MatchString(x) || !n.IsInt64() || joinForm.MatchString(rest[len(x):]) {
			return api.Token{}, 0, at, api.ErrLexInt
		}
		return number(n.Int64(), at), len(x), 0, api.OK
	}
	if x := textForm.FindString(rest); x != "" {
		said, err := strconv.Unquote(x) // whose form is a wider one, and says the same
		if err != nil {
			panic(err)
		}
		if len(said) > 4096 {
			return api.Token{}, 0, at, api.ErrLong
		}
		return text(said, at), len(x), 0, api.OK
	}
	if x := goodForm.FindString(rest); x != "" {
		return api.Token{}, 0, at + len(x), api.ErrLexQuote
	}
	if x := signForm.FindString(rest); x != "" {
		return sign(x, at), len(x), 0, api.OK
	}
	return api.Token{}, 0, at, api.ErrLexByte
}

// modelTokens are the tokens ahead of a text's fault, its place, and its error.
func modelTokens(s string) ([]api.Token, int, api.Errno) {
	if len(s) > 65536 {
		return nil, 65536, api.ErrLong
	}
	var l []api.Token
	at := 0
	for {
		at += len(gapForm.FindString(s[at:]))
		if at == len(s) {
			return l, 0, api.OK
		}
		t, size, place, e := modelToken(s, at)
		if e != api.OK {
			return l, place, e
		}
		l = append(l, t)
		at += size
	}
}

// quotedByte is what Quote says of a byte.
func quotedByte(c byte) string {
	switch {
	case c == '"' || c == '\\':
		return `\` + string(rune(c))
	case c == 10:
		return `\n`
	case c == 9:
		return `\t`
	case 32 <= c && c <= 126:
		return string(rune(c))
	}
	return fmt.Sprintf(`\x%02x`, c)
}

// wantModel looks at what both calls say of a text.
func wantModel(t *testing.T, s string) {
	t.Helper()
	l, place, e := modelTokens(s)
	if e == api.OK {
		wantTokens(t, s, l...)
	} else {
		wantFault(t, s, place, e, l...)
	}
}

func TestAllTextsOfTwoBytes(t *testing.T) { // P12.1
	eachText(allBytes(), 2, func(s string) { wantModel(t, s) })
}

func TestAllTextsOfThreeBytes(t *testing.T) { // P12.1
	eachText("azA_019\"\\#nx<=>!&|(-%.$ \n\t\r\x0b\x7f\x80\x00", 3, func(s string) { wantModel(t, s) })
}

func TestAllShortTextsBetweenQuotes(t *testing.T) { // P12.1
	eachText("\\xnt09af\"", 5, func(s string) { wantModel(t, `"`+s) })
	eachText("\\x0g\nAF \"", 4, func(s string) { wantModel(t, ` "`+s+`"`) })
}

func TestAllShortTextsOfSigns(t *testing.T) { // P12.1
	eachText("=!<&|a1 #\n", 5, func(s string) { wantModel(t, s) })
}

func TestAnyTexts(t *testing.T) { // P12.1
	n := numbers(1)
	right := 0
	for range 20000 {
		s, want := anyText(&n, 12)
		wantTokens(t, s, want...)
		wantModel(t, s)
		b := []byte(s)
		for range 1 + n.below(3) { // spoilt ones, most of which have a fault
			if len(b) > 0 {
				b[n.below(len(b))] = oneOf(&n, []byte("a0_\"\\ \n#<=&|A.\x00\xff"))
			}
		}
		wantModel(t, string(b))
		if _, _, e := modelTokens(string(b)); e == api.OK {
			right++
		}
	}
	if right < 1000 || right > 19000 {
		t.Errorf("%d spoilt texts without a fault", right)
	}
}
