package lexis_test

import (
	"math"
	"strings"
	"testing"

	"keystone/api"
	"keystone/lexis"
)

func TestExamples(t *testing.T) { // P12.1
	wantTokens(t, "let a = -1;", name("let", 0), name("a", 4), sign("=", 6), sign("-", 8), number(1, 9), sign(";", 10))
	wantTokens(t, "a<=b # c", name("a", 0), sign("<=", 1), name("b", 3))
	wantFault(t, "01", 0, api.ErrLexInt)
	wantFault(t, "x 9a", 2, api.ErrLexInt, name("x", 0))
	wantFault(t, "A", 0, api.ErrLexByte)
	wantFault(t, "a & b", 2, api.ErrLexByte, name("a", 0))
	wantFault(t, `"a\q"`, 3, api.ErrLexQuote)
	wantFault(t, `"a`, 2, api.ErrLexQuote)
}

func TestGaps(t *testing.T) { // P12.1
	for _, s := range []string{"", " ", "\t\n\r ", "#", "#\n", "# a\r\"\\ \x00\xff", "##", "\n#\n#\n", "#a\n \n"} {
		wantTokens(t, s)
	}
	wantTokens(t, "# a\nb # c\r\"\nd#", name("b", 4), name("d", 12))
	wantTokens(t, "a#b\nc", name("a", 0), name("c", 4))
	wantTokens(t, "1#\n2", number(1, 0), number(2, 3))
	wantTokens(t, "<#\n=", sign("<", 0), sign("=", 3))
	wantTokens(t, `"#" #"`, text("#", 0))
	for c := range 256 { // all other bytes stand for something, or may not be
		gap := strings.ContainsRune(" \t\n\r#", rune(c))
		l, _, e := lexis.Tokens(string([]byte{byte(c)}))
		if gap != (len(l) == 0 && e == api.OK) {
			t.Errorf("byte %d: %v, %v", c, l, e)
		}
	}
}

func TestNames(t *testing.T) { // P12.1
	for _, s := range []string{"a", "z", "a_", "a__0", "a9z", "let", "lets", "let_", "while1", "x" + strings.Repeat("0", api.MaxName-1)} {
		wantTokens(t, s, name(s, 0))
		wantTokens(t, s+"+"+s, name(s, 0), sign("+", len(s)), name(s, len(s)+1))
	}
	for _, s := range lexis.Words() {
		wantTokens(t, s, name(s, 0))
	}
	wantFault(t, "_a", 0, api.ErrLexByte)
	wantFault(t, "aB", 1, api.ErrLexByte, name("a", 0))
	wantFault(t, "a\xc3\xb6", 1, api.ErrLexByte, name("a", 0))
	wantTokens(t, `a"b"c`, name("a", 0), text("b", 1), name("c", 4))
}

func TestNamesThatAreTooLong(t *testing.T) { // P12.1
	long := strings.Repeat("b", api.MaxName)
	wantTokens(t, long, name(long, 0))
	wantFault(t, long+"b", 0, api.ErrLexName)
	wantFault(t, "a "+long+"_ A", 2, api.ErrLexName, name("a", 0))
	wantFault(t, strings.Repeat("b", api.MaxText), 0, api.ErrLexName)
	wantFault(t, long+"B", api.MaxName, api.ErrLexByte, name(long, 0))
}

func TestNumbers(t *testing.T) { // P12.1
	for s, n := range map[string]int64{"0": 0, "1": 1, "10": 10, "907": 907, "9223372036854775807": math.MaxInt64, "1000000000000000000": 1e18} {
		wantTokens(t, s, number(n, 0))
		wantTokens(t, "-"+s+";", sign("-", 0), number(n, 1), sign(";", 1+len(s)))
	}
	wantTokens(t, `0"0"`, number(0, 0), text("0", 1))
	wantTokens(t, "1 2", number(1, 0), number(2, 2))
	for _, s := range []string{
		"00", "01", "007", "0a", "0_", "0x1", "1_000", "9a", "1e3", "9223372036854775808", "9223372036854775810", "10000000000000000000", "18446744073709551616", "18446744073709551617",
		strings.Repeat("9", api.MaxText), strings.Repeat("0", api.MaxText), "09223372036854775807", "9223372036854775808a",
	} {
		wantFault(t, s, 0, api.ErrLexInt)
	}
	wantFault(t, "(01", 1, api.ErrLexInt, sign("(", 0))
	wantFault(t, "1A", 1, api.ErrLexByte, number(1, 0)) // only a to z and _ join a number
	wantFault(t, "1.5", 1, api.ErrLexByte, number(1, 0))
}

func TestTextsBetweenQuotes(t *testing.T) { // P12.1
	for s, said := range map[string]string{
		`""`:             "",
		`"a"`:            "a",
		`" ~#'"`:         " ~#'",
		`"\"\\\n\t"`:     "\"\\\n\t",
		`"\x00\x7f\xff"`: "\x00\x7f\xff",
		`"\x41\x0a\x22"`: "A\n\"", // what need not be said so may be
		`"\\x41"`:        `\x41`,
		`"\x4142"`:       "A42",
		`"let"`:          "let",
	} {
		wantTokens(t, s, text(said, 0))
		wantTokens(t, s+s, text(said, 0), text(said, len(s)))
	}
}

func TestWhatMayNotStandBetweenQuotes(t *testing.T) { // P12.1
	for _, x := range []struct {
		s     string
		place int
	}{
		{`"`, 1}, {`"abc`, 4}, {`"\`, 2}, {`"\x`, 3}, {`"\x4`, 4}, {`"\x41`, 5}, {`"\"`, 3}, {`"\\\"`, 5}, // the text ends
		{"\"a\nb\"", 2}, {"\"\t\"", 1}, {"\"\r\"", 1}, {"\"\x00\"", 1}, {"\"\x1f\"", 1}, {"\"\x7f\"", 1}, {"\"\x80\"", 1}, {"\"ab\xff\"", 3}, {"\"\xc3\xb6\"", 1},
		{`"\q"`, 2}, {`"a\ "`, 3}, {`"\r"`, 2}, {`"\0"`, 2}, {`"\N"`, 2}, {`"\X41"`, 2}, {"\"\\\n\"", 2}, {"\"\\\xff\"", 2},
		{`"\xg0"`, 3}, {`"\x0g"`, 4}, {`"\xA0"`, 3}, {`"\x0F"`, 4}, {`"\x"`, 3}, {`"\x4"`, 4}, {`"\x-1"`, 3}, {`"\x 1"`, 3}, {`"\x\x"`, 3}, {`"\x1\"`, 4},
	} {
		wantFault(t, x.s, x.place, api.ErrLexQuote)
		wantFault(t, "a\n"+x.s, 2+x.place, api.ErrLexQuote, name("a", 0))
	}
}

func TestTextsThatSayTooMuch(t *testing.T) { // P12.1
	for _, one := range []string{"a", `\"`, `\n`, `\x07`, `\x61`} {
		most := `"` + strings.Repeat(one, api.MaxBytes) + `"`
		said, _ := lexis.Unquote(`"` + one + `"`)
		wantTokens(t, most, text(strings.Repeat(said, api.MaxBytes), 0))
		long := `"` + strings.Repeat(one, api.MaxBytes+1) + `"`
		wantFault(t, long, 0, api.ErrLong)
		wantFault(t, "a "+long+" A", 2, api.ErrLong, name("a", 0))
		wantFault(t, "A "+long, 0, api.ErrLexByte)
	}
	open := `"` + strings.Repeat("a", api.MaxBytes+1) // bytes between quotes are too many when they end
	wantFault(t, open, len(open), api.ErrLexQuote)
	wantFault(t, open+"\n\"", len(open), api.ErrLexQuote)
}

func TestSigns(t *testing.T) { // P12.1
	for _, s := range signs {
		wantTokens(t, s, sign(s, 0))
		wantTokens(t, "a"+s+"1", name("a", 0), sign(s, 1), number(1, 1+len(s)))
		wantTokens(t, s+" "+s, sign(s, 0), sign(s, len(s)+1))
	}
	for s, want := range map[string][]api.Token{ // the longest one
		"===":   {sign("==", 0), sign("=", 2)},
		"====":  {sign("==", 0), sign("==", 2)},
		"!==":   {sign("!=", 0), sign("=", 2)},
		"!!=":   {sign("!", 0), sign("!=", 1)},
		"<==":   {sign("<=", 0), sign("=", 2)},
		"<<=":   {sign("<", 0), sign("<=", 1)},
		"= =":   {sign("=", 0), sign("=", 2)},
		"=<":    {sign("=", 0), sign("<", 1)},
		"=!":    {sign("=", 0), sign("!", 1)},
		"--1":   {sign("-", 0), sign("-", 1), number(1, 2)},
		"&&&&":  {sign("&&", 0), sign("&&", 2)},
		"||&&":  {sign("||", 0), sign("&&", 2)},
		"({}),": {sign("(", 0), sign("{", 1), sign("}", 2), sign(")", 3), sign(",", 4)},
	} {
		wantTokens(t, s, want...)
	}
}

func TestBytesThatBeginNothing(t *testing.T) { // P12.1
	begins := "abcdefghijklmnopqrstuvwxyz0123456789(){},;:=<!+-*/% \t\n\r#"
	for c := range 256 {
		s := string([]byte{byte(c)})
		if strings.Contains(begins, s) || s == `"` {
			continue
		}
		wantFault(t, s, 0, api.ErrLexByte)
		wantFault(t, "a "+s+" b", 2, api.ErrLexByte, name("a", 0))
	}
	for _, s := range []string{"&", "|", "& &", "&|", "|&", "&=", "&a", "| |"} {
		wantFault(t, s, 0, api.ErrLexByte)
	}
	wantFault(t, "&&&", 2, api.ErrLexByte, sign("&&", 0))
	wantFault(t, "|||", 2, api.ErrLexByte, sign("||", 0))
	wantFault(t, "a>b", 1, api.ErrLexByte, name("a", 0))
	wantFault(t, "a.", 1, api.ErrLexByte, name("a", 0))
}

func TestTheFirstFaultFromTheLeft(t *testing.T) { // P12.1
	faults := map[string]api.Errno{"$": api.ErrLexByte, "01": api.ErrLexInt, strings.Repeat("a", api.MaxName+1): api.ErrLexName, `"` + strings.Repeat("a", api.MaxBytes+1) + `"`: api.ErrLong}
	for first, e := range faults {
		for second := range faults {
			wantFault(t, "b "+first+" "+second, 2, e, name("b", 0))
		}
		wantFault(t, first+` "`, 0, e)
		wantFault(t, `"\q" `+first, 2, api.ErrLexQuote)
	}
}

func TestTextsThatAreTooLong(t *testing.T) { // P12.1
	wantTokens(t, strings.Repeat(" ", api.MaxText))
	wantFault(t, strings.Repeat(" ", api.MaxText+1), api.MaxText, api.ErrLong)
	wantFault(t, "a"+strings.Repeat(" ", api.MaxText), api.MaxText, api.ErrLong)
	wantFault(t, "A"+strings.Repeat(" ", api.MaxText), api.MaxText, api.ErrLong) // ahead of all other faults
	wantFault(t, strings.Repeat("a", 1<<20), api.MaxText, api.ErrLong)
	wantTokens(t, "#"+strings.Repeat("\xff", api.MaxText-1))
	many := make([]api.Token, api.MaxText)
	for i := range many {
		many[i] = sign("(", i)
	}
	wantTokens(t, strings.Repeat("(", api.MaxText), many...)
	wantFault(t, strings.Repeat("(", api.MaxText-1)+"&", api.MaxText-1, api.ErrLexByte, many[:api.MaxText-1]...)
}
