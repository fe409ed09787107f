package lexis_test

import (
	"regexp"
	"slices"
	"strconv"
	"strings"
	"testing"

	"keystone/api"
	"keystone/lexis"
)

func TestUnquoteOfQuote(t *testing.T) { // P12.5
	there := func(s string) {
		q, e := lexis.Quote(s)
		if e != api.OK {
			t.Fatalf("Quote(%.80q): %v", s, e)
		}
		wantUnquote(t, q, s)
		wantTokens(t, q, text(s, 0))
	}
	eachText(allBytes(), 2, there)
	n := numbers(51)
	for range 5000 {
		there(anyBytes(&n, 30))
	}
	for c := range 256 {
		there(strings.Repeat(string([]byte{byte(c)}), api.MaxBytes))
	}
}

// said is a token's Text, digits, or Quote of its bytes.
func said(t *testing.T, x api.Token) string {
	switch x.Kind {
	case api.TInt:
		return strconv.FormatInt(x.Val.Int, 10)
	case api.TText:
		q, e := lexis.Quote(x.Val.Bytes)
		if e != api.OK {
			t.Fatalf("Quote(%.80q): %v", x.Val.Bytes, e)
		}
		return q
	}
	return x.Text
}

func TestTokensOfTokens(t *testing.T) { // P12.5
	n := numbers(52)
	for range 10000 {
		s, _ := anyText(&n, 20)
		l, _, e := lexis.Tokens(s)
		if e != api.OK {
			t.Fatalf("Tokens(%q): %v", s, e)
		}
		parts := make([]string, len(l))
		at := 0
		for i := range l {
			parts[i] = said(t, l[i])
			l[i].At = at
			at += len(parts[i]) + 1
		}
		wantTokens(t, strings.Join(parts, " "), l...)
	}
}

var (
	gapOnly   = regexp.MustCompile(`^([ \t\n\r]|#[^\n]*\n)*$`)
	gapAtLast = regexp.MustCompile(`^([ \t\n\r]|#[^\n]*\n)*(#[^\n]*)?$`)
)

// ownSize is how many bytes the token has that a text begins with.
func ownSize(x api.Token, rest string) int {
	switch x.Kind {
	case api.TInt:
		return len(digitsForm.FindString(rest))
	case api.TText:
		return len(textForm.FindString(rest))
	}
	return len(x.Text)
}

// wantNothingLost looks at a text without a fault.
func wantNothingLost(t *testing.T, s string) {
	t.Helper()
	l, _, e := lexis.Tokens(s)
	if e != api.OK {
		t.Fatalf("Tokens(%q): %v", s, e)
	}
	behind := 0 // the last token
	for _, x := range l {
		if x.At < behind || !gapOnly.MatchString(s[behind:x.At]) {
			t.Fatalf("%q: not only gaps from %d to the token %v", s, behind, x)
		}
		behind = x.At + ownSize(x, s[x.At:])
		own := s[x.At:behind]
		x.At = 0
		wantTokens(t, own, x)
	}
	if !gapAtLast.MatchString(s[behind:]) {
		t.Fatalf("%q: not only gaps from %d on", s, behind)
	}
}

func TestNothingIsLost(t *testing.T) { // P12.6
	n := numbers(61)
	for range 10000 {
		s, _ := anyText(&n, 20)
		wantNothingLost(t, s)
	}
	eachText("a1\"=< #\n", 5, func(s string) {
		if _, _, e := modelTokens(s); e == api.OK {
			wantNothingLost(t, s)
		}
	})
}

func TestWithoutGaps(t *testing.T) { // P12.6: tokens that can stand side by side without one are the same as with one
	n := numbers(62)
	for range 10000 {
		var b strings.Builder
		var want []api.Token
		for range n.below(12) {
			x, s := anyToken(&n)
			if k := len(want); k > 0 && !apart(want[k-1], s) {
				b.WriteString(" ")
			}
			x.At = b.Len()
			want = append(want, x)
			b.WriteString(s)
		}
		wantTokens(t, b.String(), want...)
	}
}

// apart tells whether a token ends, though a text stands directly behind it.
func apart(x api.Token, behind string) bool {
	c := behind[:1]
	switch x.Kind {
	case api.TName, api.TInt:
		return !strings.Contains("abcdefghijklmnopqrstuvwxyz0123456789_", c)
	case api.TSign:
		return c != "=" || !slices.Contains([]string{"=", "!", "<"}, x.Text)
	}
	return true
}
