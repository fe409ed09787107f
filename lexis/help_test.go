package lexis_test

import (
	"slices"
	"strconv"
	"strings"
	"testing"

	"keystone/api"
	"keystone/lexis"
)

// numbers tells one number behind the other, always the same ones.
type numbers uint64

func (n *numbers) below(most int) int {
	*n = *n*6364136223846793005 + 1442695040888963407
	return int(uint64(*n)>>33) % most
}

// oneOf is one of some things.
func oneOf[T any](n *numbers, l []T) T {
	return l[n.below(len(l))]
}

func name(s string, at int) api.Token {
	return api.Token{Kind: api.TName, Text: s, At: at}
}

func sign(s string, at int) api.Token {
	return api.Token{Kind: api.TSign, Text: s, At: at}
}

func number(n int64, at int) api.Token {
	return api.Token{Kind: api.TInt, Val: api.Value{Kind: api.KInt, Int: n}, At: at}
}

func text(s string, at int) api.Token {
	return api.Token{Kind: api.TText, Val: api.Value{Kind: api.KBytes, Bytes: s}, At: at}
}

// all are the tokens that All tells, and whether their numbers are those from 0 on.
func all(s string) ([]api.Token, bool) {
	var l []api.Token
	for i, t := range lexis.All(s) {
		if i != len(l) {
			return nil, false
		}
		l = append(l, t)
	}
	return l, true
}

// wantTokens looks at what both calls say of a text without a fault.
func wantTokens(t *testing.T, s string, want ...api.Token) {
	t.Helper()
	if l, at, e := lexis.Tokens(s); !slices.Equal(l, want) || at != 0 || e != api.OK {
		t.Fatalf("Tokens(%.80q): %.300v, %d, %v, not %.300v", s, l, at, e, want)
	}
	if l, ok := all(s); !ok || !slices.Equal(l, want) {
		t.Fatalf("All(%.80q): %.300v, not %.300v", s, l, want)
	}
}

// wantFault looks at what both calls say of a text with a fault, ahead of which some tokens stand.
func wantFault(t *testing.T, s string, place int, e api.Errno, ahead ...api.Token) {
	t.Helper()
	if l, at, got := lexis.Tokens(s); l != nil || at != place || got != e {
		t.Fatalf("Tokens(%.80q): %.300v, %d, %v, not %d, %v", s, l, at, got, place, e)
	}
	if l, ok := all(s); !ok || !slices.Equal(l, ahead) {
		t.Fatalf("All(%.80q): %.300v, not %.300v", s, l, ahead)
	}
}

// eachText calls a function with each text of at most so many bytes out of some.
func eachText(out string, most int, use func(string)) {
	b := make([]byte, 0, most)
	var longer func()
	longer = func() {
		use(string(b))
		if len(b) == most {
			return
		}
		for i := range len(out) {
			b = append(b, out[i])
			longer()
			b = b[:len(b)-1]
		}
	}
	longer()
}

// allBytes are all 256, rising.
func allBytes() string {
	b := make([]byte, 256)
	for i := range b {
		b[i] = byte(i)
	}
	return string(b)
}

var signs = strings.Fields("( ) { } , ; : = == != < <= && || ! + - * / %")

// anyBytes are some bytes, many of which mean something in a text.
func anyBytes(n *numbers, most int) string {
	b := make([]byte, n.below(most+1))
	for i := range b {
		b[i] = byte(n.below(256))
		if n.below(2) == 0 {
			b[i] = oneOf(n, []byte("\"\\\n\t\r #x0az"))
		}
	}
	return string(b)
}

func anyName(n *numbers) string {
	b := []byte{byte('a' + n.below(26))}
	for range n.below(api.MaxName) {
		b = append(b, oneOf(n, []byte("abcxyz_019")))
	}
	return string(b)
}

// looseQuote is a text that says some bytes, not always as Quote does.
func looseQuote(n *numbers, s string) string {
	var b strings.Builder
	b.WriteByte('"')
	for i := range len(s) {
		if n.below(4) == 0 {
			b.WriteString(`\x` + string("0123456789abcdef"[s[i]/16]) + string("0123456789abcdef"[s[i]%16]))
		} else {
			b.WriteString(quotedByte(s[i]))
		}
	}
	return b.String() + `"`
}

// anyToken is a token, and a text that says it.
func anyToken(n *numbers) (api.Token, string) {
	switch n.below(5) {
	case 0:
		s := anyName(n)
		return name(s, 0), s
	case 1:
		i := int64(uint64(n.below(1<<31))<<32|uint64(n.below(1<<31))<<1) >> n.below(64)
		return number(i, 0), strconv.FormatInt(i, 10)
	case 2:
		s := anyBytes(n, 9)
		return text(s, 0), looseQuote(n, s)
	}
	s := oneOf(n, signs)
	return sign(s, 0), s
}

// anyGap is what stands between two tokens; it is never empty.
func anyGap(n *numbers) string {
	var b strings.Builder
	for range 1 + n.below(3) {
		b.WriteString(oneOf(n, []string{" ", "\t", "\n", "\r", "#\n", "#a \"\\\xff\x00#\r\n"}))
	}
	return b.String()
}

// anyText is a text without a fault, and its tokens.
func anyText(n *numbers, most int) (string, []api.Token) {
	var b strings.Builder
	var l []api.Token
	b.WriteString(oneOf(n, []string{"", " ", anyGap(n)}))
	for range n.below(most + 1) {
		t, s := anyToken(n)
		t.At = b.Len()
		l = append(l, t)
		b.WriteString(s + anyGap(n))
	}
	b.WriteString(oneOf(n, []string{"", "#", "#)\"\\"}))
	return b.String(), l
}
