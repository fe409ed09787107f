package types_test

import (
	"fmt"
	"strings"
	"testing"

	"keystone/api"
)

func TestRightStatements(t *testing.T) { // P15.1, 15.1a
	for _, body := range []string{
		"", "return i;", "raise i;",
		"let a = i; let b = o; let c = s; let d = z; return a + len(c) + re(d);",
		"i = 1; o = true; s = \"\"; z = point(1, 2);",
		"let a = o; a = false; if a { }",
		"if o { } else { }", "while o && i < 1 { i = i + 1; }",
		"get b = t(1); return len(b);", "get = none(true);", "get d, e, f, g = wide(1, o, s); return d + re(g);",
		"has a = t(1); if a { }", "has a = none(o); o = a;", "has a = wide(i, o, s);",
		"put t(1) = (s);", "add t(i) = (\"\");", "change t(1 + 2) = (s + s);", "put none(o) = ();",
		"put wide(1, true, s) = (1, true, s, z);", "add wide(1, true, s) = (1, true, s, z);", "change wide(1, true, s) = (1, true, s, z);",
		"del t(1);", "del none(o);", "del wide(i, o, s);",
		"for a, b in t() to () { return a + len(b); }", "for a, b in t(1) to () { }", "for a, b in t() to (2) { }", "for a in none(false) to (true) { o = a; }",
		"for a, b, c, d, e, f, g in wide() to (1, true, s) { z = g; }", "for a, b, c, d, e, f, g in wide(1) to (1, true) { s = c + f; i = a + d; o = b || e; }",
		"for a, b, c, d, e, f, g in wide(1, o, s) to () { }",
		"let t = 1; let num = t; return num();", "let p = 1; return p;", "return 1; return 2;",
	} {
		wantBody(t, body, api.OK)
	}
	wantHelper(t, "let a = i; a = 2; if o { while o { raise 1; } } else { let b = a; return b; }", api.OK)
}

func TestVisibleVariables(t *testing.T) { // P15.1, 15.1a
	for _, body := range []string{
		"let a = 1; return a;", "let a = 1; if o { return a; }", "let a = 1; if o { } else { return a; }", "let a = 1; while o { return a; }",
		"let a = 1; for b in none() to () { return a; }", "let a = 1; while o { if o { while o { return a; } } }", "if o { let a = 1; if o { return a; } }",
		"if o { let a = 1; return a; } else { let a = true; o = a; }", "if o { let a = 1; } let a = s; s = a;", "while o { let a = 1; } let a = true; while a { }",
		"for a in none() to () { let b = a; } for a, b in t() to () { return a; }", "for a in none() to () { } let a = 1; return a;",
		"if o { let a = 1; let b = a; } else { let b = 2; } let a = 3; let b = a;", "get a = t(1); has b = t(len(a)); if b { return len(a); }",
		"for a in none() to () { o = a; } for a in none() to () { o = a; }",
	} {
		wantBody(t, body, api.OK)
	}
	for _, body := range []string{
		"return ^a; let a = 1;", "let a = ^a;", "if o { let a = 1; } return ^a;", "if o { let a = 1; } else { return ^a; }", "if o { } else { let a = 1; } return ^a;",
		"while ^a < 1 { let a = 1; }", "while o { let a = 1; } return ^a;", "while o { if o { let a = 1; } return ^a; }", "if ^a < 1 { let a = 1; }",
		"for a, b in t() to () { } return ^a;", "for a, b in t(^a) to () { }", "for a, b in t() to (^a) { }", "for a, b in t() to () { let c = 1; } return ^c;",
		"get a = t(^a);", "has a = none(^a);", "if o { get a = t(1); has b = t(1); } s = ^a;", "if o { has b = t(1); } o = ^b;",
		"if o { let a = 1; if o { let b = a; } } else { let b = 1; return ^a; }", "if o { let a = 1; if o { let b = a; } return ^b; }",
		"let a = 1; if o { let b = 1; } while o { let c = a; } return a + ^b;", "return ^t;", "return ^num;", "return ^p;",
		"^a = 1;", "^a = a;", "^a = 1 + true;", "if o { let a = 1; } ^a = 1;", "^t = 1;", "for a, b in t() to () { } ^a = 1;", "while o { ^a = 1; let a = 1; }",
	} {
		wantBody(t, body, api.ErrUnknown)
	}
	wantTexts(t, world, "proc q(x int) int { let y = 1; return y; } proc r() int { return ^x; }", api.ErrUnknown)
	wantTexts(t, world, "proc q(x int) int { let y = 1; return y; } proc r() int { return ^y; }", api.ErrUnknown)
	wantTexts(t, world, "proc q(x int) int { let y = 1; return y; } proc r(y bool, z int) int { let x = y; return z; }", api.OK)
}

func TestNamesThatStandAlready(t *testing.T) { // P15.1, 15.1a
	for _, body := range []string{
		"^let i = 1;", "^let i = true;", "^has o = t(1);", "^get s = t(1);", "^for i, a in t() to () { }", "^for a, i in t() to () { }",
		"let a = 1; ^let a = 1;", "let a = 1; if o { ^let a = 1; }", "let a = 1; if o { } else { ^let a = 1; }", "let a = 1; while o { ^let a = 1; }",
		"let a = 1; for b in none() to () { ^let a = 1; }", "for b in none() to () { ^let b = 1; }", "for b in none() to () { if o { while o { ^has b = t(1); } } }",
		"let a = 1; if o { if o { let b = 1; } else { let b = 1; ^get a = t(1); } }", "has a = t(1); ^has a = t(1);", "get a = t(1); ^get a = t(1);",
		"^get a, a, b, c = wide(1, true, s);", "^get a, b, c, a = wide(1, true, s);", "^for a, a in t() to () { }", "^for a, b, c, d, e, f, d in wide() to () { }",
		"get a, b, c, d = wide(1, true, s); ^get e, f, g, d = wide(1, true, s);", "let a = 1; ^for a, b in t() to () { }", "let b = 1; ^for a, b in t() to () { }",
	} {
		wantBody(t, body, api.ErrTwice)
	}
	wantHelper(t, "let a = 1; if o { ^let a = 1; }", api.ErrTwice)
}

func TestStatementsOnTables(t *testing.T) { // P15.1, 15.1a: in no helper
	for _, body := range []string{
		"get b = t(1);", "get a, b = nothing(1, 2, x);", "has a = t(1);", "has i = t(x);", "put t(1) = (s);", "put nothing(1) = ();", "add t(1) = (s);",
		"change t(1, 2) = (s);", "change t(1) = (s);", "del t(1);", "del t(true);", "for a, b in t() to () { }", "for a, a in t() to () { }",
	} {
		wantHelper(t, "^"+body, api.ErrHelper)
		wantHelper(t, "let a = 1; if o { } else { while o { ^"+body+" } }", api.ErrHelper)
	}
	wantBody(t, "for a, b in t(1) to () { }", api.OK)
}

func TestTablesThatThereAreNot(t *testing.T) { // P15.1, 15.1a
	for _, body := range []string{
		"get = nothing(x);", "get i, i = nothing(1);", "has i = nothing(1);", "put nothing(true) = ();", "add num(1) = (1);", "change p(1) = ();", "del i(1);", "del other(1);",
		"for i in nothing() to () { }", "for a in p(x) to () { return true; }",
	} {
		wantBody(t, "^"+body, api.ErrUnknown)
	}
	wantText(t, "table u(a int;); proc p() int { ^del t(1); }", api.ErrUnknown)
	wantText(t, "proc p() int { del t(1); } table t(a int;);", api.OK) // wherever it stands
	wantTexts(t, "table t(a int;);", "proc p() int { del t(1); }", api.OK)
}

func TestCounts(t *testing.T) { // P15.1, 15.1a
	for _, body := range []string{
		"get a = t(1, 2);", "get a = t(x, x);", "get = t(1);", "get a, b = t(1);", "get i, i = t(1);", "get a = none(o);",
		"get a, b, c, d = wide(1, o);", "get a, b, c, d = wide(1, o, s, 1);", "get a, b, c = wide(1, o, s);", "get a, b, c, d, e = wide(1, o, s);",
		"has a = t(1, 2);", "has i = wide(1);", "has a = wide(1, o);", "has a = wide(1, o, s, z);", "has a = none(o, o);",
		"del t(1, 2);", "del wide(true);", "del wide(1, o);", "del wide(1, o, s, z);",
		"put t(1) = ();", "put t(1) = (s, s);", "put t(1, 2) = (s);", "put t(x, x) = (x);", "put none(o) = (o);", "put wide(1, o, s) = (1, o, s);", "put wide(1, o, s) = (1, o, s, z, 1);", "put wide(1, o) = (1, o, s, z);",
		"add t(1) = ();", "add t(1, 2) = (s);", "add none(o) = (o);", "change t(1) = ();", "change t(1, 2) = (s);", "change none(o) = (o);",
		"for a, b in t(1, 2) to () { }", "for a, b in t() to (1, 2) { }", "for a, b in t(x, x) to () { }", "for a in t() to () { }", "for a, b, c in t() to () { }", "for i, i, i in t() to () { }",
		"for a, b in none() to () { }", "for a in none(o, o) to () { }", "for a in none() to (o, o) { }",
		"for a, b, c, d, e, f in wide() to () { }", "for a, b, c, d, e, f, g, h in wide() to () { }", "for a, b, c, d, e, f, g in wide(1, o, s, 1) to () { }", "for a, b, c, d, e, f, g in wide() to (1, o, s, 1) { return x; }",
	} {
		wantBody(t, "^"+body, api.ErrCount)
		wantBody(t, "if o { } else { ^"+body+" return x; }", api.ErrCount)
	}
}

func TestKindsOfPlaces(t *testing.T) { // P15.1, 15.1a: a term where one of another kind must stand
	forms := []struct{ form, word string }{
		{"i = %s;", "int"}, {"o = %s;", "bool"}, {"s = %s;", "bytes"}, {"z = %s;", "point"},
		{"let a = i; a = %s;", "int"}, {"let a = z; a = %s;", "point"}, {"has a = t(1); a = %s;", "bool"}, {"get a = t(1); a = %s;", "bytes"},
		{"get a, b, c, d = wide(1, o, s); a = %s;", "int"}, {"get a, b, c, d = wide(1, o, s); b = %s;", "bool"}, {"get a, b, c, d = wide(1, o, s); d = %s;", "point"},
		{"for a, b in t() to () { a = %s; }", "int"}, {"for a, b in t() to () { b = %s; }", "bytes"},
		{"for a, b, c, d, e, f, g in wide() to () { b = %s; }", "bool"}, {"for a, b, c, d, e, f, g in wide() to () { c = %s; }", "bytes"},
		{"for a, b, c, d, e, f, g in wide() to () { d = %s; }", "int"}, {"for a, b, c, d, e, f, g in wide() to () { e = %s; }", "bool"}, {"for a, b, c, d, e, f, g in wide() to () { g = %s; }", "point"},
		{"if %s { }", "bool"}, {"while %s { }", "bool"}, {"raise %s;", "int"}, {"return %s;", "int"}, {"if o { while o { return %s; } }", "int"},
		{"get a = t(%s);", "int"}, {"has a = t(%s);", "int"}, {"del t(%s);", "int"}, {"del none(%s);", "bool"}, {"for a, b in t(%s) to () { }", "int"}, {"for a, b in t() to (%s) { }", "int"},
		{"put t(%s) = (s);", "int"}, {"put t(1) = (%s);", "bytes"}, {"add t(%s) = (s);", "int"}, {"add t(1) = (%s);", "bytes"}, {"change t(%s) = (s);", "int"}, {"change t(1) = (%s);", "bytes"},
		{"get a, b, c, d = wide(%s, o, s);", "int"}, {"get a, b, c, d = wide(1, %s, s);", "bool"}, {"get a, b, c, d = wide(1, o, %s);", "bytes"},
		{"put wide(1, o, s) = (%s, o, s, z);", "int"}, {"put wide(1, o, s) = (1, %s, s, z);", "bool"}, {"put wide(1, o, s) = (1, o, %s, z);", "bytes"}, {"put wide(1, o, s) = (1, o, s, %s);", "point"},
		{"add wide(1, o, s) = (1, o, s, %s);", "point"}, {"change wide(1, o, s) = (1, o, s, %s);", "point"},
		{"for a, b, c, d, e, f, g in wide(1, %s) to (1, o) { }", "bool"}, {"for a, b, c, d, e, f, g in wide(1, o) to (1, o, %s) { }", "bytes"}, {"for a, b, c, d, e, f, g in wide(1, o, %s) to () { }", "bytes"},
		{"return 1 + num() + len(text(true, %s));", "bytes"}, {"z = spot(%s, 1, z);", "point"}, {"z = spot(z, %s, z);", "int"}, {"z = spot(z, 1, %s);", "point"}, {"o = yes(%s);", "int"},
	}
	terms := []struct{ text, word string }{
		{"^1", "int"}, {"^true", "bool"}, {"^\"a\"", "bytes"}, {"^point(1, 2)", "point"}, {"^i", "int"}, {"^o", "bool"}, {"^s", "bytes"}, {"^z", "point"},
		{"i ^+ 1", "int"}, {"^-z", "point"}, {"^!o", "bool"}, {"s ^+ s", "bytes"}, {"1 ^< 2", "bool"}, {"^num()", "int"}, {"^yes(1)", "bool"}, {"^text(o, s)", "bytes"}, {"^spot(z, 1, z)", "point"}, {"^re(z)", "int"},
	}
	for _, f := range forms {
		for _, x := range terms {
			if x.word == f.word {
				wantBody(t, fmt.Sprintf(f.form, strings.ReplaceAll(x.text, "^", "")), api.OK)
			} else {
				wantBody(t, fmt.Sprintf(f.form, x.text), api.ErrType)
			}
		}
	}
}

func TestResults(t *testing.T) { // P15.1, 15.1a: what a procedure or a helper returns
	for _, result := range []string{"int", "bool", "bytes", "point"} {
		for name, word := range map[string]string{"i": "int", "o": "bool", "s": "bytes", "z": "point"} {
			for _, sort := range []string{"proc", "helper"} {
				const head = " p(i int, o bool, s bytes, z point) "
				if word == result {
					wantText(t, sort+head+result+" { return "+name+"; }", api.OK)
				} else {
					wantText(t, sort+head+result+" { return ^"+name+"; }", api.ErrType)
					wantText(t, sort+" q() "+result+" { } "+sort+head+word+" { while o { return "+name+"; } }", api.OK)
				}
			}
		}
	}
}

func TestOrderWithinStatements(t *testing.T) { // P15.1, 15.1a: what is named first
	for _, x := range []struct {
		body string
		e    api.Errno
	}{
		{"let i = ^x;", api.ErrUnknown}, {"let i = 1 ^+ true;", api.ErrType},
		{"has i = t(^x);", api.ErrUnknown}, {"get i = t(^true);", api.ErrType}, {"^get i = t(1);", api.ErrTwice},
		{"for i, i in t(^x) to (y) { }", api.ErrUnknown}, {"for i, i in t(1) to (^y) { }", api.ErrUnknown}, {"for i, i in t(1) to (^true) { return x; }", api.ErrType},
		{"^for i, i in t(1) to (1) { return x; }", api.ErrTwice}, {"for a, b in t(1) to (1) { return ^x; }", api.ErrUnknown}, {"for a, b in t(^s) to (x) { }", api.ErrType},
		{"put t(^x) = (true);", api.ErrUnknown}, {"put t(^true) = (x);", api.ErrType}, {"put t(1) = (^x);", api.ErrUnknown}, {"put t(1) = (^true);", api.ErrType},
		{"put wide(^s, x, x) = (x, x, x, x);", api.ErrType}, {"put wide(1, ^x, s) = (x, x, x, x);", api.ErrUnknown}, {"put wide(1, o, ^o) = (s, x, x, x);", api.ErrType},
		{"put wide(1, o, s) = (^s, x, x, x);", api.ErrType}, {"put wide(1, o, s) = (1, o, ^x, 1);", api.ErrUnknown}, {"put wide(1, o, s) = (1, o, ^z, x);", api.ErrType},
		{"if ^x { return y; } else { return y; }", api.ErrUnknown}, {"if ^1 { return y; }", api.ErrType}, {"if o { return ^y; } else { return x; }", api.ErrUnknown},
		{"if o { return ^true; } else { return x; }", api.ErrType}, {"if o { } else { return ^x; } return true;", api.ErrUnknown},
		{"while ^x { return true; }", api.ErrUnknown}, {"while ^1 { return x; }", api.ErrType}, {"while o { return ^true; } return x;", api.ErrType},
		{"return ^true; return x;", api.ErrType}, {"raise ^x; return true;", api.ErrUnknown}, {"while o { while o { } return ^true; } return x;", api.ErrType},
		{"i = ^x;", api.ErrUnknown}, {"i = 1 ^+ true;", api.ErrType}, {"^x = y;", api.ErrUnknown},
		{"get a, i, a, b = wide(1, ^1, s);", api.ErrType}, {"^get a, i, a, b = wide(1, o, s);", api.ErrTwice},
	} {
		wantBody(t, x.body, x.e)
	}
	wantTexts(t, world, "proc q() int { return 1; } proc r() int { return ^x; } proc s() int { return y; }", api.ErrUnknown) // procedure by procedure
	wantTexts(t, world, "proc q() int { return 1; return ^true; } helper r() int { return x; }", api.ErrType)
}

// lets are so many declarations, from one on.
func lets(from, many int) string {
	return strings.ReplaceAll(listed("let v%d = 1;", from, many), ",", "")
}

func TestManyVariables(t *testing.T) { // P15.1, 15.1a: all that are declared ahead in the text, and the parameters
	wantText(t, "proc p() int { "+lets(0, 64)+" return v63; }", api.OK)
	wantText(t, "proc p() int { "+lets(0, 64)+" ^let x = 1; }", api.ErrMany)
	wantText(t, "helper p() int { "+lets(0, 64)+" ^let x = 1; }", api.ErrMany)
	wantBody(t, lets(0, 60), api.OK)
	wantBody(t, lets(0, 60)+" ^let x = 1; let y = 1;", api.ErrMany)
	wantBody(t, lets(0, 60)+" let x = ^y;", api.ErrUnknown)
	wantBody(t, lets(0, 60)+" ^let v0 = 1;", api.ErrTwice)
	wantBody(t, lets(0, 60)+" i = 1; v0 = 2; if o { v1 = 3; } return v59;", api.OK)

	// Those that are visible no more count, too.
	wantBody(t, "if o { "+lets(0, 30)+" } else { "+lets(0, 30)+" }", api.OK)
	wantBody(t, "if o { "+lets(0, 30)+" } else { "+lets(0, 30)+" } ^let x = 1;", api.ErrMany)
	wantBody(t, "if o { "+lets(0, 30)+" } else { "+lets(0, 30)+" ^let x = 1; }", api.ErrMany)
	wantBody(t, "while o { "+lets(0, 20)+" } while o { "+lets(0, 20)+" } "+lets(0, 20), api.OK)
	wantBody(t, "while o { "+lets(0, 20)+" } while o { "+lets(0, 20)+" } "+lets(0, 20)+"^has v20 = t(1);", api.ErrMany)
	wantBody(t, strings.Repeat("for a, b in t() to () { } ", 30), api.OK)
	wantBody(t, strings.Repeat("for a, b in t() to () { } ", 30)+"^for a, b in t() to () { return x; }", api.ErrMany)
	wantBody(t, strings.Repeat("if o { has a = t(1); } ", 60), api.OK)
	wantBody(t, strings.Repeat("if o { has a = t(1); } ", 60)+"if o { ^has a = t(1); }", api.ErrMany)
	wantBody(t, strings.Repeat("if o { get a = t(1); } ", 60)+"if o { ^get a = t(1); }", api.ErrMany)
	wantBody(t, strings.Repeat("if o { let a = 1; } ", 60)+"if o { ^let a = 1; }", api.ErrMany)

	// Name by name.
	wantBody(t, lets(0, 56)+" get a, b, c, d = wide(1, o, s);", api.OK)
	wantBody(t, lets(0, 57)+" ^get a, b, c, d = wide(1, o, s);", api.ErrMany)
	wantBody(t, lets(0, 57)+" ^get a, b, c, v0 = wide(1, o, s);", api.ErrTwice)
	wantBody(t, lets(0, 58)+" ^get a, b, c, v0 = wide(1, o, s);", api.ErrMany)
	wantBody(t, lets(0, 58)+" ^get a, b, v0, c = wide(1, o, s);", api.ErrTwice)
	wantBody(t, lets(0, 54)+" ^for a, b, c, d, e, f, a in wide() to () { }", api.ErrTwice)
	wantBody(t, lets(0, 54)+" ^for a, b, c, d, e, f, g in wide() to () { }", api.ErrMany)
	wantBody(t, lets(0, 53)+" for a, b, c, d, e, f, g in wide() to () { }", api.OK)

	// Each procedure has its own.
	wantText(t, "proc p() int { "+lets(0, 64)+" } proc q() int { "+lets(0, 64)+" } helper r("+listed("a%d int", 0, 8)+") int { "+lets(0, 56)+" ^let x = 1; }", api.ErrMany)
}
