package lexis_test

import (
	"math"
	"slices"
	"strings"
	"testing"
	"unsafe"

	"keystone/api"
	"keystone/lexis"
)

func TestNothingPanics(t *testing.T) { // R1
	n := numbers(71)
	for range 20000 {
		s := anyBytes(&n, 60)
		lexis.Tokens(s)
		for range lexis.All(s) {
		}
		lexis.Name(s)
		lexis.Quote(s)
		lexis.Unquote(s)
		lexis.Unquote(`"` + s)
		for _, at := range []int{math.MinInt, -1, 0, len(s) / 2, len(s), len(s) + 1, math.MaxInt} {
			lexis.Place(s, at)
		}
	}
	for c := range 256 {
		s := strings.Repeat(string([]byte{byte(c)}), 1<<17)
		wantModel(t, s)
		lexis.Name(s)
		lexis.Quote(s)
		lexis.Unquote(s)
		lexis.Unquote(`"` + s)
		lexis.Place(s, len(s))
	}
}

func TestWordsAreNewMemory(t *testing.T) { // R3
	l := lexis.Words()
	l = l[:cap(l)]
	for i := range l {
		l[i] = "spoilt"
	}
	if l := lexis.Words(); len(l) != 27 || l[0] != "add" || l[26] != "while" {
		t.Errorf("Words: %v", l)
	}
	if lexis.Name("add") || !lexis.Name("spoilt") {
		t.Error("Name looks at what was handed out")
	}
}

func TestTokensAreNewMemory(t *testing.T) { // R3
	s := `let a = "b\n" + 12;`
	want, _, _ := lexis.Tokens(s)
	want = slices.Clone(want)
	l, _, _ := lexis.Tokens(s)
	l = l[:cap(l)]
	for i := range l {
		l[i] = api.Token{Kind: -7, Text: "spoilt"}
	}
	wantTokens(t, s, want...)
}

func TestAnswersShareNothingWithATextsBytes(t *testing.T) { // R3
	b := []byte(`let abc = "bc" + 12 <= x;`)
	s := unsafe.String(&b[0], len(b))
	l, _, _ := lexis.Tokens(s)
	all, _ := all(s)
	q, _ := lexis.Quote(s)
	u, _ := lexis.Unquote(s[10:14])
	for i := range b {
		b[i] = '?'
	}
	want := []api.Token{name("let", 0), name("abc", 4), sign("=", 8), text("bc", 10), sign("+", 15), number(12, 17), sign("<=", 20), name("x", 23), sign(";", 24)}
	if !slices.Equal(l, want) || !slices.Equal(all, want) {
		t.Errorf("%v, %v, not %v", l, all, want)
	}
	if q != `"let abc = \"bc\" + 12 <= x;"` || u != "bc" {
		t.Errorf("%s, %s", q, u)
	}
}

func TestAllMayBeLeftAndGoneOverAgain(t *testing.T) { // R3
	s := "a b c d $"
	tokens := lexis.All(s)
	for leave := range 5 {
		many := 0
		for i, x := range tokens {
			if i != many || x != name(string("abcd"[i]), 2*i) {
				t.Fatalf("%d: %v", i, x)
			}
			if i == leave {
				break
			}
			many++
		}
		if many != min(leave, 4) {
			t.Fatalf("left behind %d: %d", leave, many)
		}
	}
	var pairs []string
	for _, x := range tokens { // nested
		for _, y := range tokens {
			pairs = append(pairs, x.Text+y.Text)
		}
	}
	if strings.Join(pairs, " ") != "aa ab ac ad ba bb bc bd ca cb cc cd da db dc dd" {
		t.Fatal(pairs)
	}
}

func TestSameTextSameAnswers(t *testing.T) { // R4
	n := numbers(74)
	for range 500 {
		s, _ := anyText(&n, 12)
		first, _, _ := lexis.Tokens(s)
		lexis.Tokens(anyBytes(&n, 20))
		lexis.Unquote(anyBytes(&n, 20))
		wantTokens(t, s, first...)
	}
}
