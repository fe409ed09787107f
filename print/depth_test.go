package print_test

import (
	"strings"
	"testing"

	"keystone/api"
	"keystone/print"
)

// grown is a term that has been put into others so many times, by a step that is told how often it was done.
func grown(times int, step func(x api.Term, i int) api.Term) api.Term {
	x := a
	for i := range times {
		x = step(x, i)
	}
	return x
}

// wantDeepest looks at how often a step can be done until a term is too deep.
func wantDeepest(t *testing.T, most int, step func(x api.Term, i int) api.Term) {
	t.Helper()
	for times := range most + 10 {
		if ok := wantModelTerm(t, grown(times, step)); ok != (times <= most) {
			t.Fatalf("%d times: %v", times, ok)
		}
	}
}

func TestDeepestTerms(t *testing.T) { // P14.1
	for level, l := range leveled {
		for _, o := range l {
			if level == 6 {
				wantDeepest(t, 63, func(x api.Term, i int) api.Term { return term(o.op, x) })
				continue
			}
			// A line of signs, of which each next operand is one deeper; and of comparisons, all but one of which are in parentheses.
			wantDeepest(t, 63, func(x api.Term, i int) api.Term { return term(o.op, x, b) })
			wantDeepest(t, 63, func(x api.Term, i int) api.Term { return term(l[i%len(l)].op, x, b) })
			// A second operand is one deeper, and what stands in its parentheses once more.
			wantDeepest(t, 32, func(x api.Term, i int) api.Term { return term(o.op, b, x) })
		}
	}
	wantDeepest(t, 63, func(x api.Term, i int) api.Term { return call("f", x) })
	wantDeepest(t, 63, func(x api.Term, i int) api.Term { return call("f", b, x, c) })
	wantDeepest(t, 63, func(x api.Term, i int) api.Term { return term(api.XLen, x) })
	wantDeepest(t, 63, func(x api.Term, i int) api.Term { return term(api.XRe, x) })
	wantDeepest(t, 63, func(x api.Term, i int) api.Term { return term(api.XIm, x) })
	wantDeepest(t, 63, func(x api.Term, i int) api.Term { return term(api.XPoint, x, b) })
	wantDeepest(t, 63, func(x api.Term, i int) api.Term { return term(api.XPoint, b, x) })
	// ((a + b) * b + b) * b: of two steps one alone needs parentheses.
	wantDeepest(t, 125, func(x api.Term, i int) api.Term {
		if i%2 == 0 {
			return term(api.XAdd, x, b)
		}
		return term(api.XMul, x, b) // in whose parentheses a sum stands
	})
}

func TestTermsAtTheDeepest(t *testing.T) { // P14.1: what may still stand at the greatest depth, and what not
	deepest := func(x api.Term) api.Term {
		return grown(api.MaxDepth-1, func(y api.Term, i int) api.Term {
			if i == 0 {
				y = x
			}
			return call("f", y)
		})
	}
	for _, x := range []api.Term{a, number(1), truth(true), text("a"), call("f")} {
		if !wantModelTerm(t, deepest(x)) {
			t.Error(said(x))
		}
	}
	for _, x := range []api.Term{call("f", a), term(api.XNeg, a), term(api.XAdd, a, b), term(api.XLess, a, b), term(api.XLen, a)} {
		if wantModelTerm(t, deepest(x)) {
			t.Error(said(x))
		}
	}
}

func TestDeepTermsOfAllSorts(t *testing.T) { // P14.1
	n := numbers(21)
	ok := 0
	for range 6000 {
		sorts := 1 + n.below(12)
		x := grown(20+n.below(70), func(x api.Term, i int) api.Term {
			other := oneOf(&n, []api.Term{b, b, b, term(api.XMul, b, c), term(api.XOr, b, c)})
			op := oneOf(&n, leveled[1+n.below(5)]).op
			switch n.below(sorts) {
			case 0, 1, 2:
				return term(op, x, other)
			case 3:
				return term(op, other, x)
			case 4, 5:
				return term(oneOf(&n, leveled[6]).op, x)
			case 6:
				return call("f", other, x)
			}
			return term(oneOf(&n, leveled[4]).op, x, other)
		})
		if wantModelTerm(t, x) {
			ok++
		}
	}
	if ok < 500 || ok > 5500 {
		t.Errorf("%d are not too deep", ok)
	}
}

// around is a statement within others, so many times.
func around(x api.Stmt, times int) api.Stmt {
	for range times {
		x = api.Stmt{Op: api.SFor, Names: names("a"), Table: "t", Body: stmts(x)}
	}
	return x
}

func TestStatementsOfAnyDepth(t *testing.T) { // P14.1
	bare := api.Stmt{Op: api.SFor, Names: names("a"), Table: "t"}
	n := numbers(22)
	l := append(eachSort(), bare, api.Stmt{Op: api.SReturn, Args: terms(grown(32, func(x api.Term, i int) api.Term { return term(api.XAdd, x, b) }))})
	for i := range 60 {
		l = append(l, newMaker(&n, i%30).stmt())
	}
	for _, x := range l {
		for deep := 1; deep <= api.MaxDepth; deep++ {
			ok := wantModelStmt(t, x, deep)
			s, e := print.Proc(procOf(around(x, deep-1)))
			if ok != (e == api.OK) || !ok && e != api.ErrPrint {
				t.Fatalf("%s: %v", said(x), e)
			}
			if text, _ := print.Stmt(x, deep); ok && !strings.Contains(s, text) {
				t.Fatalf("%q is not in %q", text, s)
			}
		}
		wantNoStmt(t, around(x, api.MaxDepth), 1, api.ErrPrint)
	}
	wantModelStmt(t, bare, api.MaxDepth)
	s, e := print.Stmt(bare, api.MaxDepth)
	ahead := strings.Repeat("\t", api.MaxDepth)
	want(t, s, e, bare, ahead+"for a in t() to () {\n"+ahead+"}\n")
	for _, x := range append(eachSort(), around(bare, 1)) { // which have terms, or a statement, that are one deeper
		wantNoStmt(t, x, api.MaxDepth, api.ErrPrint)
	}
	s, e = print.Stmt(aStmt(), api.MaxDepth-1)
	want(t, s, e, aStmt(), ahead[1:]+"return 1;\n")
}

func TestTermsOfStatementsAreOneDeeper(t *testing.T) { // P14.1
	for deep := 1; deep < api.MaxDepth; deep++ {
		for i := range eachSort() {
			for _, over := range []int{0, 1} {
				x := grown(api.MaxDepth-1-deep+over, func(x api.Term, i int) api.Term { return call("f", x) })
				s := eachSort()[i]
				s.Body, s.Else = nil, nil
				s.Args[len(s.Args)-1] = x
				if wantModelStmt(t, s, deep) != (over == 0) {
					t.Fatal(said(s), deep)
				}
				if len(s.Vals) > 0 {
					s.Args[len(s.Args)-1] = a
					s.Vals[len(s.Vals)-1] = x
					if wantModelStmt(t, s, deep) != (over == 0) {
						t.Fatal(said(s), deep)
					}
				}
			}
		}
	}
}
