package print_test

import (
	"math"
	"strings"
	"testing"

	"keystone/api"
	"keystone/print"
)

func TestExamples(t *testing.T) { // P14.1
	one := number(1)
	wantTerm(t, term(api.XSub, a, term(api.XSub, b, one)), "a - (b - 1)")
	wantTerm(t, term(api.XSub, term(api.XSub, a, b), one), "a - b - 1")
	wantTerm(t, term(api.XNeg, term(api.XNeg, a)), "--a")
	wantTerm(t, term(api.XNot, term(api.XLess, a, b)), "!(a < b)")
	wantTerm(t, term(api.XLess, term(api.XLess, a, b), c), "(a < b) < c")
	wantNoTerm(t, number(-1), api.ErrPrint)
	wantNoTerm(t, variable("let"), api.ErrPrint)
	wantNoTerm(t, term(api.XNeg), api.ErrPrint)
	s, e := print.Table(api.Table{Name: "t", Key: columns("a int, b bytes"), Val: columns("c point")})
	want(t, s, e, "t", "table t(a int, b bytes; c point);\n")
	s, e = print.Table(api.Table{Name: "u", Key: columns("a int")})
	want(t, s, e, "u", "table u(a int;);\n")
	s, e = print.Proc(api.Proc{Name: "p", Params: columns("a int"), Result: api.KInt, Body: stmts(
		api.Stmt{Op: api.SReturn, Args: terms(term(api.XAdd, a, one))},
	)})
	want(t, s, e, "p", "proc p(a int) int {\n\treturn a + 1;\n}\n")
}

func TestEachTerm(t *testing.T) { // P14.1
	for _, x := range []struct {
		is   api.Term
		text string
	}{
		{number(7), "7"},
		{truth(true), "true"},
		{text("x"), `"x"`},
		{a, "a"},
		{call("f"), "f()"},
		{call("f", a), "f(a)"},
		{call("f", a, number(2), call("g")), "f(a, 2, g())"},
		{term(api.XNeg, a), "-a"},
		{term(api.XNot, a), "!a"},
		{term(api.XAdd, a, b), "a + b"},
		{term(api.XSub, a, b), "a - b"},
		{term(api.XMul, a, b), "a * b"},
		{term(api.XDiv, a, b), "a / b"},
		{term(api.XMod, a, b), "a % b"},
		{term(api.XLess, a, b), "a < b"},
		{term(api.XLessEq, a, b), "a <= b"},
		{term(api.XEqual, a, b), "a == b"},
		{term(api.XUnlike, a, b), "a != b"},
		{term(api.XAnd, a, b), "a && b"},
		{term(api.XOr, a, b), "a || b"},
		{term(api.XLen, a), "len(a)"},
		{term(api.XPoint, a, b), "point(a, b)"},
		{term(api.XRe, a), "re(a)"},
		{term(api.XIm, a), "im(a)"},
		{term(api.XLen, term(api.XOr, a, b)), "len(a || b)"},
		{term(api.XPoint, term(api.XOr, a, b), term(api.XPoint, a, b)), "point(a || b, point(a, b))"},
		{call("f", term(api.XAnd, a, b), term(api.XNeg, a)), "f(a && b, -a)"},
	} {
		wantTerm(t, x.is, x.text)
		x.is.At = 77
		wantTerm(t, x.is, x.text) // no At is looked at
	}
}

// leveled are the terms with a sign, level by level.
var leveled = [][]struct {
	op   int
	sign string
}{
	1: {{api.XOr, "||"}},
	2: {{api.XAnd, "&&"}},
	3: {{api.XLess, "<"}, {api.XLessEq, "<="}, {api.XEqual, "=="}, {api.XUnlike, "!="}},
	4: {{api.XAdd, "+"}, {api.XSub, "-"}},
	5: {{api.XMul, "*"}, {api.XDiv, "/"}, {api.XMod, "%"}},
	6: {{api.XNeg, "-"}, {api.XNot, "!"}},
}

func TestParentheses(t *testing.T) { // P14.1: each term in each place of each other one
	for outer, l := range leveled {
		for _, o := range l {
			for inner, l := range leveled {
				for _, i := range l {
					part, s := term(i.op, a, b), "a "+i.sign+" b"
					if inner == 6 {
						part, s = term(i.op, a), i.sign+"a"
					}
					first, second := s, s
					if inner < outer || inner == 3 && outer == 3 {
						first = "(" + s + ")"
					}
					if inner <= outer {
						second = "(" + s + ")"
					}
					if outer == 6 {
						wantTerm(t, term(o.op, part), o.sign+first)
						continue
					}
					wantTerm(t, term(o.op, part, c), first+" "+o.sign+" c")
					wantTerm(t, term(o.op, c, part), "c "+o.sign+" "+second)
					wantTerm(t, term(o.op, part, part), first+" "+o.sign+" "+second)
				}
			}
			for _, x := range []string{"5", "true", `"("`, "a", "f(a)", "len(a)", "re(a)", "im(a)", "point(a, b)"} {
				part := map[string]api.Term{
					"5": number(5), "true": truth(true), `"("`: text("("), "a": a, "f(a)": call("f", a),
					"len(a)": term(api.XLen, a), "re(a)": term(api.XRe, a), "im(a)": term(api.XIm, a), "point(a, b)": term(api.XPoint, a, b),
				}[x]
				if outer == 6 {
					wantTerm(t, term(o.op, part), o.sign+x)
				} else {
					wantTerm(t, term(o.op, part, part), x+" "+o.sign+" "+x)
				}
			}
		}
	}
}

func TestLiterals(t *testing.T) { // P14.1
	wantTerm(t, number(0), "0")
	wantTerm(t, number(10), "10")
	wantTerm(t, number(math.MaxInt64), "9223372036854775807")
	wantTerm(t, truth(false), "false")
	wantTerm(t, text(""), `""`)
	wantTerm(t, text("\x00\t\n !\"#[\\]~\x7f\x80\xff"), `"\x00\t\n !\"#[\\]~\x7f\x80\xff"`)
	wantTerm(t, text(strings.Repeat("a", api.MaxBytes)), `"`+strings.Repeat("a", api.MaxBytes)+`"`)
	wantTerm(t, text(strings.Repeat("\x07", api.MaxBytes)), `"`+strings.Repeat(`\x07`, api.MaxBytes)+`"`)
	zero := math.Copysign(0, -1)
	wantTerm(t, value(api.Value{Kind: api.KInt, Int: 5, Point: complex(zero, zero)}), "5") // which may be
	for _, v := range []api.Value{
		{},
		{Kind: -1}, {Kind: 5}, {Kind: math.MaxInt},
		{Kind: api.KInt, Int: -1},
		{Kind: api.KInt, Int: math.MinInt64},
		{Kind: api.KInt, Int: 1, Yes: true},
		{Kind: api.KInt, Int: 1, Bytes: "a"},
		{Kind: api.KInt, Int: 1, Point: 1},
		{Kind: api.KInt, Int: 1, Point: complex(0, math.NaN())},
		{Kind: api.KBool, Yes: true, Int: 1},
		{Kind: api.KBool, Bytes: "a"},
		{Kind: api.KBytes, Yes: true},
		{Kind: api.KBytes, Bytes: strings.Repeat("a", api.MaxBytes+1)},
		{Kind: api.KBytes, Bytes: "a", Point: 1i},
		{Kind: api.KPoint},
		{Kind: api.KPoint, Point: 1 + 2i},
		{Kind: api.KPoint, Point: 0.5},
	} {
		wantNoTerm(t, value(v), api.ErrPrint)
		wantNoTerm(t, term(api.XAdd, a, value(v)), api.ErrPrint)
	}
}

// notNames are texts that are no names of a variable, of a procedure, of a table or of a column.
func notNames() []string {
	return []string{"", "let", "table", "int", "true", "point", "A", "aB", "1", "1a", "_a", "a b", "a ", " a", "a-b", "a(", "a;", "\"a\"", "é", "a\x00", "a\n", strings.Repeat("a", api.MaxName+1)}
}

func TestNamesInTerms(t *testing.T) { // P14.1
	for _, s := range []string{"a", "z", "a1_", "a_", "lets", "in_", "true1", strings.Repeat("z", api.MaxName)} {
		wantTerm(t, variable(s), s)
		wantTerm(t, call(s, a), s+"(a)")
	}
	for _, s := range notNames() {
		wantNoTerm(t, variable(s), api.ErrPrint)
		wantNoTerm(t, call(s), api.ErrPrint)
		wantNoTerm(t, call(s, a), api.ErrPrint)
	}
}

func TestTermsHaveNothingElse(t *testing.T) { // P14.1: each op with each number of operands, a name, a value
	args := map[int]string{ // how many operands there are
		api.XLit: "0", api.XVar: "0", api.XCall: "0 1 2 3",
		api.XNeg: "1", api.XNot: "1", api.XLen: "1", api.XRe: "1", api.XIm: "1",
	}
	for op := -2; op < 25; op++ {
		many, is := args[op]
		if !is && op >= api.XAdd && op <= api.XPoint {
			many = "2"
		}
		for n := range 4 {
			for _, name := range []string{"", "a"} {
				for _, v := range []api.Value{{}, {Kind: api.KInt}, {Int: 1}, {Yes: true}, {Bytes: "a"}, {Point: 1}, {Point: complex(math.NaN(), 0)}} {
					x := api.Term{Op: op, Name: name, Val: v, Args: terms(b, c, b)[:n]}
					_, e := print.Term(x)
					named := op == api.XVar || op == api.XCall
					right := strings.Contains(many, string(rune('0'+n))) && named == (name != "") && (op == api.XLit) == (v.Kind == api.KInt) && (v.Kind == api.KInt || v == api.Value{})
					if right != (e == api.OK) {
						t.Fatalf("%+v: %v", x, e)
					}
					if !right {
						wantNoTerm(t, x, api.ErrPrint)
					}
				}
			}
		}
	}
	for _, op := range []int{math.MinInt, math.MaxInt, 1 << 32, 99} {
		for n := range 4 {
			wantNoTerm(t, api.Term{Op: op, Args: terms(b, c, b)[:n]}, api.ErrPrint)
		}
	}
	minus := math.Copysign(0, -1)
	wantTerm(t, api.Term{Op: api.XVar, Name: "a", Val: api.Value{Point: complex(minus, minus)}}, "a") // a zero of either sign
}

func TestWhatNoTextSaysWithinTerms(t *testing.T) { // P14.1
	for _, bad := range []api.Term{{}, number(-1), variable("let"), term(api.XNeg), {Op: 99}, term(api.XAdd, a)} {
		for op := api.XCall; op <= api.XIm; op++ {
			for n := range 3 {
				args := terms(a, b)[:n]
				for i := range args {
					x := term(op, append(terms(), args...)...)
					if op == api.XCall {
						x.Name = "f"
					}
					x.Args[i] = bad
					wantNoTerm(t, x, api.ErrPrint)
					wantNoTerm(t, call("f", a, x), api.ErrPrint)
				}
			}
		}
	}
}
