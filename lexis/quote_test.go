package lexis_test

import (
	"strings"
	"testing"

	"keystone/api"
	"keystone/lexis"
)

func wantQuote(t *testing.T, s, want string) {
	t.Helper()
	if q, e := lexis.Quote(s); q != want || e != api.OK {
		t.Fatalf("Quote(%.80q): %.80s, %v, not %.80s", s, q, e, want)
	}
}

func wantUnquote(t *testing.T, s, want string) {
	t.Helper()
	if said, e := lexis.Unquote(s); said != want || e != api.OK {
		t.Fatalf("Unquote(%.80q): %.80q, %v, not %.80q", s, said, e, want)
	}
}

func wantNoUnquote(t *testing.T, s string, want api.Errno) {
	t.Helper()
	if said, e := lexis.Unquote(s); said != "" || e != want {
		t.Fatalf("Unquote(%.80q): %.80q, %v, not %v", s, said, e, want)
	}
}

func TestQuote(t *testing.T) { // P12.3
	wantQuote(t, "", `""`)
	wantQuote(t, "abc ~", `"abc ~"`)
	wantQuote(t, "\x07", `"\x07"`)
	wantQuote(t, `a"b\c`, `"a\"b\\c"`)
	wantQuote(t, "\n\t\r", `"\n\t\x0d"`)
	wantQuote(t, "\x00\x1f\x7f\x80\xff", `"\x00\x1f\x7f\x80\xff"`)
	wantQuote(t, "ö", `"\xc3\xb6"`)
	for c := range 256 {
		wantQuote(t, string([]byte{byte(c)}), `"`+quotedByte(byte(c))+`"`)
		wantQuote(t, string([]byte{'x', byte(c), '0'}), `"x`+quotedByte(byte(c))+`0"`)
	}
}

func TestQuoteOfTooMuch(t *testing.T) { // P12.3
	for _, one := range []string{"a", "\x00", `"`, "\xff"} {
		most := strings.Repeat(one, api.MaxBytes)
		wantQuote(t, most, `"`+strings.Repeat(quotedByte(one[0]), api.MaxBytes)+`"`)
		for _, s := range []string{most + "a", strings.Repeat(one, 1<<20)} {
			if q, e := lexis.Quote(s); q != "" || e != api.ErrLong {
				t.Errorf("Quote of %d: %.60q, %v", len(s), q, e)
			}
		}
	}
}

func TestUnquote(t *testing.T) { // P12.3
	wantUnquote(t, `""`, "")
	wantUnquote(t, `"a b"`, "a b")
	wantUnquote(t, `"#"`, "#")
	wantUnquote(t, `"\x41\n\t\"\\"`, "A\n\t\"\\")
	for _, s := range []string{
		"", "a", "1", `a"b"`, `"`, `"a`, `a"`, `"a" `, ` "a"`, "\"a\"\n", "#\n\"a\"", `"a"#`, `"a""b"`, `"a" "b"`, `"a"b`, `"a"A`, `""""`, `"\"`, `"\q"`, `"\x4"`, `"\xA0"`, "\"\n\"", "\"\xff\"", "'a'", "`a`",
	} {
		wantNoUnquote(t, s, api.ErrLexQuote)
	}
}

func TestUnquoteOfTooMuch(t *testing.T) { // P12.3
	for _, one := range []string{"a", `\x00`, `\"`} {
		most := strings.Repeat(one, api.MaxBytes)
		said, _ := lexis.Unquote(`"` + one + `"`)
		wantUnquote(t, `"`+most+`"`, strings.Repeat(said, api.MaxBytes))
		for _, long := range []string{most + "b", strings.Repeat(one, api.MaxText), strings.Repeat(one, 1<<20)} {
			wantNoUnquote(t, `"`+long+`"`, api.ErrLong)
			wantNoUnquote(t, `"`+long+`" `, api.ErrLexQuote) // not one token and nothing else
			wantNoUnquote(t, ` "`+long+`"`, api.ErrLexQuote)
			wantNoUnquote(t, `"`+long, api.ErrLexQuote)
			wantNoUnquote(t, `"`+long+"\n\"", api.ErrLexQuote)
		}
	}
}

func TestUnquoteIsWhatTokensSay(t *testing.T) { // P12.3
	look := func(s string) {
		l, _, e := modelTokens(s)
		if e == api.OK && len(l) == 1 && l[0].Kind == api.TText && textForm.FindString(s) == s {
			wantUnquote(t, s, l[0].Val.Bytes)
		} else {
			wantNoUnquote(t, s, api.ErrLexQuote)
		}
	}
	eachText("\\xn09ag\" #", 5, look)
	eachText("\\x0f\"", 6, func(s string) { look(`"` + s + `"`) })
	eachText(allBytes(), 2, func(s string) { look(`"` + s + `"`) })
}
