package tuple_test

import (
	"fmt"
	"math"
	"strconv"
	"strings"
	"testing"

	"keystone/api"
	"keystone/tuple"
)

func TestText(t *testing.T) { // P4.7
	for _, x := range []struct {
		v    api.Value
		want string
	}{
		{tuple.Int(0), "0"},
		{tuple.Int(-1), "-1"},
		{tuple.Int(1200), "1200"},
		{tuple.Int(math.MaxInt64), "9223372036854775807"},
		{tuple.Int(math.MinInt64), "-9223372036854775808"},
		{tuple.Bool(true), "true"},
		{tuple.Bool(false), "false"},
		{tuple.Bytes(""), `""`},
		{tuple.Bytes("ab c"), `"ab c"`},
		{tuple.Bytes(" ~"), `" ~"`},
		{tuple.Bytes(`a"b\c`), `"a\"b\\c"`},
		{tuple.Bytes("\n\t"), `"\n\t"`},
		{tuple.Bytes("\x00\x07\r\x1f\x7f\x80\xff"), `"\x00\x07\x0d\x1f\x7f\x80\xff"`},
		{tuple.Bytes("ö"), `"\xc3\xb6"`},
		{tuple.Bytes("'"), `"'"`},
		{tuple.Point(0, 0), "(0,0)"},
		{tuple.Point(1, -2), "(1,-2)"},
		{tuple.Point(-api.MaxPoint, api.MaxPoint), "(-67108864,67108864)"},
	} {
		if s := text(t, x.v); s != x.want {
			t.Errorf("Text(%v): %s, not %s", x.v, s, x.want)
		}
	}
	for _, v := range goodValues() {
		if s := text(t, v); s != say(v) {
			t.Errorf("Text(%v): %.60s, not %.60s", short(list(v)), s, say(v))
		}
	}
}

// say is a value's text, as the chapter says it.
func say(v api.Value) string {
	switch v.Kind {
	case api.KInt:
		return fmt.Sprint(v.Int)
	case api.KBool:
		return fmt.Sprint(v.Yes)
	case api.KPoint:
		return fmt.Sprintf("(%.0f,%.0f)", real(v.Point), imag(v.Point))
	}
	var b strings.Builder
	for _, c := range []byte(v.Bytes) {
		switch {
		case strings.IndexByte("\"\\", c) >= 0:
			fmt.Fprintf(&b, "\\%c", c)
		case c == 10:
			b.WriteString("\\n")
		case c == 9:
			b.WriteString("\\t")
		case c >= 32 && c <= 126:
			b.WriteByte(c)
		default:
			fmt.Fprintf(&b, "\\x%02x", c)
		}
	}
	return `"` + b.String() + `"`
}

func TestTextErrors(t *testing.T) { // P4.7, R2
	for _, x := range wrongValues() {
		if s, e := tuple.Text(x.v); s != "" || e != x.want {
			t.Errorf("Text(%v): %q, %v, not %v", short(list(x.v)), s, e, x.want)
		}
	}
}

func TestParse(t *testing.T) { // P4.7
	for s, want := range map[string]api.Value{
		"0": tuple.Int(0), "7": tuple.Int(7), "-7": tuple.Int(-7), "100": tuple.Int(100),
		"9223372036854775807": tuple.Int(math.MaxInt64), "-9223372036854775808": tuple.Int(math.MinInt64),
		"true": tuple.Bool(true), "false": tuple.Bool(false),
		`""`: tuple.Bytes(""), `"a b"`: tuple.Bytes("a b"), `"\\x61"`: tuple.Bytes(`\x61`), `"\""`: tuple.Bytes(`"`), `"\\"`: tuple.Bytes(`\`),
		`"\n\t\x00\xff"`: tuple.Bytes("\n\t\x00\xff"), `"0"`: tuple.Bytes("0"), `"(1,2)"`: tuple.Bytes("(1,2)"), `"true"`: tuple.Bytes("true"),
		"(0,0)": tuple.Point(0, 0), "(-1,10)": tuple.Point(-1, 10), "(67108864,-67108864)": tuple.Point(api.MaxPoint, -api.MaxPoint),
		`"` + strings.Repeat("x", api.MaxBytes) + `"`:    tuple.Bytes(strings.Repeat("x", api.MaxBytes)),
		`"` + strings.Repeat(`\x00`, api.MaxBytes) + `"`: tuple.Bytes(strings.Repeat("\x00", api.MaxBytes)),
	} {
		if v, e := tuple.Parse(s); v != want || e != api.OK {
			t.Errorf("Parse(%.60s): %v, %v", s, short(list(v)), e)
		}
	}
}

// notTexts are texts that are no value.
func notTexts() []string {
	l := []string{
		"", " ", "-", "+", "+1", "--1", "-0", "00", "01", "-01", "1 ", " 1", "1_0", "0x1", "1e3", "1.0", "1.", "a", "1a", "٣",
		"9223372036854775808", "-9223372036854775809", "18446744073709551616", strings.Repeat("9", 400), "1\n", "1\x00",
		"True", "TRUE", "t", "tru", "truee", " true", "true ", "False", "fals", "yes", "1true", "nil", "null",
		`"`, `"a`, `a"`, `""a`, `"""`, `"a"b"`, `"a" `, ` "a"`, `'a'`, "`a`", `"\`, `"\"`, `"\\`, `"\\\"`, `"\""" `,
		`"\a"`, `"\r"`, `"\0"`, `"\'"`, `"\N"`, `"\u0061"`, `"\ "`,
		`"\x"`, `"\x0"`, `"\x0`, `"\x`, `"\x00`, `"\X00"`, `"\x0g"`, `"\xg0"`, `"\x-1"`, `"\x+1"`, `"\x_1"`, `"\x 1"`, `"\xFF"`, `"\xfF"`, `"\xC3"`,
		`"\x61"`, `"\x20"`, `"\x7e"`, `"\x22"`, `"\x5c"`, `"\x0a"`, `"\x09"`, `"\x0A"`,
		"\"\n\"", "\"\t\"", "\"\x00\"", "\"\x1f\"", "\"\x7f\"", "\"\x80\"", "\"\xff\"", `"ö"`,
		`"` + strings.Repeat("x", api.MaxBytes+1) + `"`,
		`"` + strings.Repeat(`\x00`, api.MaxBytes+1) + `"`,
		`"` + strings.Repeat("x", 10*api.MaxBytes),
		"(", ")", "()", "(,)", "(1)", "(1,)", "(,1)", "(1,2", "1,2)", "1,2", "(1,2))", "((1,2)", "((1,2))", "(1,2,3)", "(1,2,)", "(1;2)", "(1 2)",
		"(1, 2)", "(1 ,2)", "( 1,2)", "(1,2 )", "(1,2) ", " (1,2)", "(01,2)", "(1,02)", "(-0,0)", "(0,-0)", "(+1,2)", "(1,+2)", "(1.0,2)", "(1,2i)", "(a,b)",
		"(true,1)", `("a",1)`, "(0.5,1)", "(NaN,0)", "(Inf,0)", "(1e3,0)",
		"(67108865,0)", "(0,67108865)", "(-67108865,0)", "(0,-67108865)", "(9007199254740993,0)", "(0,9223372036854775807)", "(9223372036854775808,0)",
	}
	return append(l, strings.Repeat("(", 5000), strings.Repeat("1,", 5000))
}

func TestParseOfNoValue(t *testing.T) { // P4.7, R2
	for _, s := range notTexts() {
		if v, e := tuple.Parse(s); v != (api.Value{}) || e != api.ErrTupleText {
			t.Errorf("Parse(%.60q): %v, %v", s, short(list(v)), e)
		}
	}
}

func TestParseOfEachByteBetweenQuotes(t *testing.T) { // P4.7: each byte has just one form
	for c := range 256 {
		one := string([]byte{byte(c)})
		right := map[string]int{say(tuple.Bytes(one)): 1}
		for _, s := range []string{
			`"` + one + `"`, `"\` + one + `"`, fmt.Sprintf(`"\x%02x"`, c), fmt.Sprintf(`"\x%02X"`, c), fmt.Sprintf(`"\%03o"`, c), strconv.Quote(one),
		} {
			v, e := tuple.Parse(s)
			if right[s] == 1 {
				if v != tuple.Bytes(one) || e != api.OK {
					t.Errorf("Parse(%q): %v, %v", s, v, e)
				}
			} else if e == api.OK && v == tuple.Bytes(one) {
				t.Errorf("Parse(%q): a byte %d in another form", s, c)
			}
		}
	}
}
