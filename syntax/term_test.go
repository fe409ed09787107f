package syntax_test

import (
	"math"
	"testing"

	"keystone/api"
)

func TestPrimes(t *testing.T) { // P13.1
	wantTerm(t, "0", number(0, 0))
	wantTerm(t, " 9223372036854775807", number(math.MaxInt64, 1))
	wantTerm(t, "-9223372036854775807", term(api.XNeg, 0, number(math.MaxInt64, 1))) // there are no ints below 0
	wantTerm(t, `""`, text("", 0))
	wantTerm(t, `"a\n\xff"`, text("a\n\xff", 0))
	wantTerm(t, "true", truth(true, 0))
	wantTerm(t, " false", truth(false, 1))
	wantTerm(t, "x", variable("x", 0))
	wantTerm(t, "f()", call("f", 0))
	wantTerm(t, "f(1)", call("f", 0, number(1, 2)))
	wantTerm(t, "f (1, x, g())", call("f", 0, number(1, 3), variable("x", 6), call("g", 9)))
	wantTerm(t, "len(x)", term(api.XLen, 0, variable("x", 4)))
	wantTerm(t, "re(x)", term(api.XRe, 0, variable("x", 3)))
	wantTerm(t, "im(x)", term(api.XIm, 0, variable("x", 3)))
	wantTerm(t, "point(1, x)", term(api.XPoint, 0, number(1, 6), variable("x", 9)))
	wantTerm(t, "(x)", variable("x", 1))
	wantTerm(t, "((1))", number(1, 2))
	wantTerm(t, "(f(x))", call("f", 1, variable("x", 3)))
	wantTerm(t, "(a - b)", term(api.XSub, 3, variable("a", 1), variable("b", 5)))
}

func TestTermsThatMayNotBe(t *testing.T) { // P13.1
	for _, x := range []struct {
		s  string
		at int
	}{
		{"(", 1}, {"()", 1}, {"(x", 2}, {"(x,", 2}, {"(x;", 2}, {"x)", 1}, {"x x", 2}, {"1 1", 2}, {"1 x", 2}, {`"" ""`, 3}, {`x ""`, 2},
		{"f(", 2}, {"f(,", 2}, {"f(x", 3}, {"f(x,", 4}, {"f(x,)", 4}, {"f(x x", 4}, {"f()(", 3}, {"f() x", 4}, {"1(", 1}, {`""(`, 2}, {"true(", 4}, {"(f)(", 3},
		{"len", 3}, {"len x", 4}, {"len(", 4}, {"len()", 4}, {"len(x", 5}, {"len(x,", 5}, {"re", 2}, {"re()", 3}, {"re(x,", 4}, {"im", 2}, {"im()", 3}, {"im(x,", 4},
		{"point", 5}, {"point x", 6}, {"point(", 6}, {"point()", 6}, {"point(x", 7}, {"point(x)", 7}, {"point(x,", 8}, {"point(x,)", 8}, {"point(x,y", 9}, {"point(x,y,", 9},
		{"-", 1}, {"- ", 2}, {"!", 1}, {"-!", 2}, {"-)", 1}, {"!*", 1}, {"+ x", 0}, {"* x", 0}, {"< x", 0}, {"|| x", 0}, {"&& x", 0}, {"== x", 0}, {"{", 0}, {":", 0}, {"= x", 0}, {",", 0}, {";", 0},
		{"x +", 3}, {"x + +", 4}, {"x + ;", 4}, {"x <", 3}, {"x < <", 4}, {"x <= =", 5}, {"x !", 2}, {"x = y", 2}, {"x : y", 2}, {"x || ||", 5}, {"x && ", 5}, {"x * )", 4}, {"x { ", 2},
	} {
		wantTermFault(t, x.s, x.at, api.ErrSyntax)
		head := procHead + "return "
		wantFault(t, head+x.s, len(head)+x.at, api.ErrSyntax)
	}
}

// binary are the operators between two operands, and the line in which each stands.
var binary = []struct {
	sign     string
	op, line int
}{
	{"||", api.XOr, 1}, {"&&", api.XAnd, 2},
	{"<", api.XLess, 3}, {"<=", api.XLessEq, 3}, {"==", api.XEqual, 3}, {"!=", api.XUnlike, 3},
	{"+", api.XAdd, 4}, {"-", api.XSub, 4}, {"*", api.XMul, 5}, {"/", api.XDiv, 5}, {"%", api.XMod, 5},
}

func TestOneOperator(t *testing.T) { // P13.1
	for _, o := range binary {
		wantTerm(t, "a "+o.sign+" 1", term(o.op, 2, variable("a", 0), number(1, 3+len(o.sign))))
		wantTerm(t, "a"+o.sign+"-b", term(o.op, 1, variable("a", 0), term(api.XNeg, 1+len(o.sign), variable("b", 2+len(o.sign)))))
		wantTerm(t, "- a "+o.sign+" b", term(o.op, 4, term(api.XNeg, 0, variable("a", 2)), variable("b", 5+len(o.sign))))
		wantTerm(t, "! a "+o.sign+" b", term(o.op, 4, term(api.XNot, 0, variable("a", 2)), variable("b", 5+len(o.sign))))
		wantTerm(t, "f() "+o.sign+" (b)", term(o.op, 4, call("f", 0), variable("b", 6+len(o.sign))))
	}
	wantTerm(t, "--a", term(api.XNeg, 0, term(api.XNeg, 1, variable("a", 2))))
	wantTerm(t, "!-!a", term(api.XNot, 0, term(api.XNeg, 1, term(api.XNot, 2, variable("a", 3)))))
	wantTerm(t, "-(a)", term(api.XNeg, 0, variable("a", 2)))
	wantTerm(t, "-f(a)", term(api.XNeg, 0, call("f", 1, variable("a", 3))))
	wantTerm(t, "-(a+b)", term(api.XNeg, 0, term(api.XAdd, 3, variable("a", 2), variable("b", 4))))
}

func TestTwoOperators(t *testing.T) { // P13.1: the tighter one first; of one line the left one
	for _, x := range binary {
		for _, y := range binary {
			s := "a " + x.sign + " b " + y.sign + " c"
			one, b := 2, 3+len(x.sign)
			two := b + 2
			c := two + len(y.sign) + 1
			left := term(y.op, two, term(x.op, one, variable("a", 0), variable("b", b)), variable("c", c))
			right := term(x.op, one, variable("a", 0), term(y.op, two, variable("b", b), variable("c", c)))
			switch {
			case x.line == 3 && y.line == 3:
				wantTermFault(t, s, two, api.ErrSyntax)
			case x.line >= y.line:
				wantTerm(t, s, left)
			default:
				wantTerm(t, s, right)
			}
			inner := term(y.op, two+1, variable("b", b+1), variable("c", c+1))
			wantTerm(t, "a "+x.sign+" (b "+y.sign+" c)", term(x.op, one, variable("a", 0), inner))
		}
	}
}

func TestThreeOperators(t *testing.T) { // P13.1
	a, b, c, d := variable("a", 0), variable("b", 4), variable("c", 8), variable("d", 12)
	wantTerm(t, "a - b - c - d", term(api.XSub, 10, term(api.XSub, 6, term(api.XSub, 2, a, b), c), d))
	wantTerm(t, "a - b * c - d", term(api.XSub, 10, term(api.XSub, 2, a, term(api.XMul, 6, b, c)), d))
	wantTerm(t, "a / b + c % d", term(api.XAdd, 6, term(api.XDiv, 2, a, b), term(api.XMod, 10, c, d)))
	wantTerm(t, "a + b < c + d", term(api.XLess, 6, term(api.XAdd, 2, a, b), term(api.XAdd, 10, c, d)))
	wantTerm(t, "a<b && c<d", term(api.XAnd, 4, term(api.XLess, 1, a, variable("b", 2)), term(api.XLess, 8, variable("c", 7), variable("d", 9))))
	wantTerm(t, "a&&b || c&&d", term(api.XOr, 5, term(api.XAnd, 1, a, variable("b", 3)), term(api.XAnd, 9, c, variable("d", 11))))
	wantTermFault(t, "a + b < c == d", 10, api.ErrSyntax)
	wantTerm(t, "(a<b)<c", term(api.XLess, 5, term(api.XLess, 2, variable("a", 1), variable("b", 3)), variable("c", 6)))
	wantTerm(t, "a<(b==c)", term(api.XLess, 1, a, term(api.XEqual, 4, variable("b", 3), variable("c", 6))))
	wantTermFault(t, "a<b == (c<d)", 4, api.ErrSyntax)
}
