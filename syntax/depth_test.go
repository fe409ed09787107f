package syntax_test

import (
	"strings"
	"testing"

	"keystone/api"
)

func TestExamplesOfDepth(t *testing.T) { // P13.1
	deep := func(n int) string { return strings.Repeat("(", n) + "x" + strings.Repeat(")", n) }
	wantTerm(t, deep(63), variable("x", 63))
	wantTermFault(t, deep(64), 64, api.ErrDeep)
	wantTermFault(t, strings.Repeat("1 +", 64)+" 1", 193, api.ErrDeep)
}

// TestDepthsOfTerms has texts in which the thing at a place is the first one so many deeper than the whole, and nothing is deeper still.
func TestDepthsOfTerms(t *testing.T) { // P13.1
	for _, x := range []struct {
		s        string
		at, more int
	}{
		{"x", 0, 0}, {"1", 0, 0}, {"true", 0, 0}, {`"a"`, 0, 0}, {"f()", 0, 0},
		{"-x", 1, 1}, {"!x", 1, 1}, {"--!x", 3, 3}, {"(x)", 1, 1}, {"((x))", 2, 2}, {"-(x)", 2, 2},
		{"f(x)", 2, 1}, {"f(x, y, z)", 2, 1}, {"f(x, -y)", 6, 2}, {"f(g(x))", 4, 2},
		{"len(x)", 4, 1}, {"re(x)", 3, 1}, {"im(x)", 3, 1}, {"point(x, y)", 6, 1}, {"point(x, -y)", 10, 2}, {"len(x + y)", 8, 2},
		{"a || b", 5, 1}, {"a && b", 5, 1}, {"a < b", 4, 1}, {"a <= b", 5, 1}, {"a == b", 5, 1}, {"a != b", 5, 1}, {"a + b", 4, 1}, {"a - b", 4, 1}, {"a * b", 4, 1}, {"a / b", 4, 1}, {"a % b", 4, 1},
		{"a || b || c", 10, 2}, {"a && b && c", 10, 2}, {"a + b - c", 8, 2}, {"a * b / c % d", 12, 3}, // each one more
		{"a + b * c", 8, 2}, {"a * b + c * d", 12, 2}, {"a * b + c", 4, 1}, // each line counts for itself
		{"a + b + c * d", 12, 3}, {"a || b && c < d + e * -f", 23, 6}, {"-f * e + d < c && b || a", 1, 1},
		{"-a * b * c", 9, 2}, {"a + (b + c)", 9, 3}, {"(a + b) + c", 5, 2}, {"a + f(b + c)", 10, 3},
		{"a < b && c < d", 13, 2}, {"a < b || c < d || e", 13, 2},
	} {
		most := api.MaxDepth - 1 - x.more
		s := strings.Repeat("(", most) + x.s + strings.Repeat(")", most)
		wantTermFault(t, s+")", len(s), api.ErrSyntax)
		wantTermFault(t, "("+s+")", 1+most+x.at, api.ErrDeep)
	}
}

// inOthers are statements within so many others, and what breaks off behind them.
func inOthers(s string, by int) string { return procHead + strings.Repeat(aroundHead, by) + s }

// wantNoDeep looks at a text that breaks off.
func wantNoDeep(t *testing.T, s string) {
	t.Helper()
	wantFault(t, s, len(s), api.ErrSyntax)
}

// TestDepthsOfStatements has statements in which the thing at a place is the first one that is one deeper than the whole.
func TestDepthsOfStatements(t *testing.T) { // P13.1
	for _, x := range []struct {
		s  string
		at int
	}{
		{"let a = x;", 8}, {"a = x;", 4}, {"if x {}", 3}, {"while x {}", 6}, {"get = t(x);", 8}, {"get a, b = t(x, y);", 13}, {"has a = t(x, y);", 10},
		{"put t(x) = ();", 6}, {"put t(x) = (y);", 6}, {"add t(x) = (y);", 6}, {"change t(x) = (y);", 9}, {"del t(x);", 6},
		{"for a in t(x) to () {}", 11}, {"for a in t() to (x) {}", 17}, {"raise x;", 6}, {"return x;", 7},
	} {
		wantNoDeep(t, inOthers(x.s, 62))
		s := inOthers("", 63)
		wantFault(t, s+x.s, len(s)+x.at, api.ErrDeep)
		s = inOthers("", 64)
		wantFault(t, s+x.s, len(s), api.ErrDeep)
	}
	for _, s := range []string{"put t(x) = (-y);", "add t(x) = (y, -y);", "get = t(x, -y);", "for a in t(x, -x) to () {}", "for a in t() to (x, -x) {}"} {
		wantNoDeep(t, inOthers(s, 61))
		at := strings.Index(s, "-") + 1
		ahead := inOthers(s[:at], 62)
		wantFault(t, ahead+s[at:], len(ahead), api.ErrDeep)
	}
	for _, s := range []string{"for a in t() to () {}", "for a, b in t() to () {}"} { // all the others have terms
		wantNoDeep(t, inOthers(s, 63))
	}
}

func TestDepthsOfBlocks(t *testing.T) { // P13.1
	for _, s := range []string{"if x { ", "if x {} else { ", "while x { ", "for a in t() to () { "} {
		wantNoDeep(t, inOthers(s+"raise 1; return 1; }", 61))
		ahead := inOthers(s+"raise ", 62)
		wantFault(t, ahead+"1; return 1; }", len(ahead), api.ErrDeep)
		wantNoDeep(t, inOthers(s+"}", 62))
	}
	ahead := inOthers(aroundHead, 63)
	wantFault(t, ahead+"return 1; }", len(ahead), api.ErrDeep)
}

func TestTooDeepIsAskedFirst(t *testing.T) { // P13.1: whatever stands there
	parens := strings.Repeat("(", 64)
	stmts := procHead + strings.Repeat(aroundHead, 64)
	for _, x := range strings.Fields(`( ) { , ; = == < + - ! x 1 "a" let table if true len end`) {
		wantTermFault(t, parens+x, 64, api.ErrDeep)
		wantTermFault(t, strings.Repeat("-", 64)+x, 64, api.ErrDeep)
		wantTermFault(t, strings.Repeat("x*", 64)+x, 128, api.ErrDeep)
		wantFault(t, stmts+x, len(stmts), api.ErrDeep)
		last := procHead + strings.Repeat(aroundHead, 63)
		for _, head := range []string{"return ", "let a = ", "a = ", "if ", "while ", "get a = t(", "put t(", "del t("} {
			wantFault(t, last+head+x, len(last)+len(head), api.ErrDeep)
		}
		calls := strings.Repeat("f(", 64)
		if x != ")" { // no term begins there
			wantTermFault(t, calls+x, 128, api.ErrDeep)
			wantFault(t, last+"for a in t("+x, len(last)+11, api.ErrDeep)
			wantFault(t, last+"for a in t() to ("+x, len(last)+17, api.ErrDeep)
		}
	}
}

func TestWhereNothingBegins(t *testing.T) { // P13.1
	for _, s := range []string{strings.Repeat("(", 64), strings.Repeat("-", 64), strings.Repeat("x*", 64), strings.Repeat("f(", 64), strings.Repeat("(", 64) + " # x"} {
		wantTermFault(t, s, len(s), api.ErrSyntax) // the text ends
		wantTermFault(t, s+"\n", len(s)+1, api.ErrSyntax)
	}
	stmts := procHead + strings.Repeat(aroundHead, 64)
	wantFault(t, stmts, len(stmts), api.ErrSyntax)
	wantNoDeep(t, stmts+"}")
	wantFault(t, stmts+"};", len(stmts)+1, api.ErrSyntax)
	wantBody(t, strings.Repeat(aroundHead, 64)+strings.Repeat("}", 64), around(nil, 64)...)
	f := call("f", 126)
	for at := 124; at >= 0; at -= 2 {
		f = call("f", at, f)
	}
	wantTerm(t, strings.Repeat("f(", 64)+strings.Repeat(")", 64), f)
}

func TestTheFirstFaultFromTheFront(t *testing.T) { // P13.1
	deep := strings.Repeat("(", 65)
	wantTermFault(t, "1 1 +"+deep, 2, api.ErrSyntax)
	wantTermFault(t, deep+" 1 1", 64, api.ErrDeep)
	wantTermFault(t, deep+" $", 66, api.ErrLexByte)
	wantFault(t, procHead+"let = 1; return "+deep, len(procHead)+4, api.ErrSyntax)
	wantFault(t, procHead+"return "+deep+"; let = 1;", len(procHead)+7+63, api.ErrDeep)
	wantFault(t, procHead+strings.Repeat(aroundHead, 63)+"for 1 "+aroundHead+"x", len(procHead)+63*len(aroundHead)+4, api.ErrSyntax)
}

func TestDepthsEndWithWhatTheyAreOf(t *testing.T) { // P13.1: what stands behind is as deep as if it stood alone
	for _, s := range []string{strings.Repeat("(", 62) + "x" + strings.Repeat(")", 62), "x" + strings.Repeat("+x", 62), strings.Repeat("!", 62) + "x"} {
		for _, two := range []string{"f(" + s + ", " + s + ")", "point(" + s + ", " + s + ")", "(" + s + ") == -x"} {
			wantTermFault(t, two+")", len(two), api.ErrSyntax)
		}
	}
	all := "x" + strings.Repeat("*x", 63) + strings.Repeat("+x", 63) + "<x" + strings.Repeat("&&x", 63) + strings.Repeat("||x", 63)
	wantTermFault(t, all+")", len(all), api.ErrSyntax)
	for _, op := range []string{"*x", "+x", "&&x", "||x"} { // one more
		s := strings.Replace(all, strings.Repeat(op, 63), strings.Repeat(op, 64), 1)
		wantTermFault(t, s, strings.LastIndex(s, op)+len(op)-1, api.ErrDeep)
	}
	s := strings.Repeat("while x {}", 70)
	wantFault(t, procHead+s, len(procHead+s), api.ErrSyntax)
}

func TestDepthsByTheGrammar(t *testing.T) { // P13.1: near the limit, right or not
	g := readGrammar()
	words := strings.Fields("x f ( ) - , + * ||")
	for by := 61; by <= 65; by++ {
		eachRow(words, 3, func(s string) { g.wantTermModel(t, strings.Repeat("(", by)+s) })
	}
	words = strings.Fields("x let return if for ( ) { } = ; 1")
	for by := 62; by <= 65; by++ {
		eachRow(words, 2, func(s string) { g.wantModel(t, procHead+strings.Repeat(aroundHead, by)+s) })
		for _, head := range []string{"let a =", "for a in t(", "for a in t() to (", "if a {", "get = t("} {
			eachRow(words, 1, func(s string) { g.wantModel(t, procHead+strings.Repeat(aroundHead, by)+head+s) })
		}
	}
}
