package syntax_test

import (
	"strings"
	"testing"

	"keystone/api"
	"keystone/lexis"
	"keystone/print"
	"keystone/syntax"
)

func TestThereAndBack(t *testing.T) { // P13.3: what is printed is read as what it is
	n, gaps := numbers(31), numbers(32)
	deep := 0
	for i := range 4000 {
		m := newMaker(&n, &gaps, i%60)
		m.module()
		first, _, e := syntax.Parse(m.text.String())
		if e != api.OK {
			continue // too deep
		}
		s, e := print.Module(first)
		if e == api.ErrPrint {
			deep++ // the print would be too deep where the text is not
			continue
		}
		again, at, why := syntax.Parse(s)
		if e != api.OK || why != api.OK || !syntax.Same(first, again) || said(syntax.Strip(first)) != said(syntax.Strip(again)) {
			t.Fatalf("%q, %q, %v: %d, %v, %s", m.text.String(), s, e, at, why, said(again))
		}
	}
	if deep > 100 {
		t.Errorf("%d too deep", deep)
	}
}

// eachTerms calls a function with each list of terms among some statements, eachStmts with each list of statements.
func eachTerms(l []api.Term, use func([]int)) {
	var places []int
	for _, t := range l {
		places = append(places, t.At)
		eachTerms(t.Args, use)
	}
	use(places)
}

func eachStmts(l []api.Stmt, use func([]int)) {
	var places []int
	for _, s := range l {
		places = append(places, s.At)
		eachTerms(s.Args, use)
		eachTerms(s.Vals, use)
		eachStmts(s.Body, use)
		eachStmts(s.Else, use)
	}
	use(places)
}

func eachPlaces(m api.Module, use func([]int)) {
	var tables, procs []int
	for _, t := range m.Tables {
		tables = append(tables, t.At)
	}
	for _, p := range m.Procs {
		procs = append(procs, p.At)
		eachStmts(p.Body, use)
	}
	use(tables)
	use(procs)
}

func TestPlacesAreThoseOfTokens(t *testing.T) { // P13.4
	n, gaps := numbers(41), numbers(42)
	for i := range 3000 {
		m := newMaker(&n, &gaps, i%60)
		m.module()
		s := m.text.String()
		got, _, _ := syntax.Parse(s)
		tokens, _, _ := lexis.Tokens(s)
		is := map[int]bool{}
		for _, x := range tokens {
			is[x.At] = true
		}
		eachPlaces(got, func(l []int) {
			for i, at := range l {
				if !is[at] || i > 0 && at <= l[i-1] {
					t.Fatalf("%q: %v", s, l)
				}
			}
		})
	}
}

func TestBeginnings(t *testing.T) { // P13.4
	n, gaps := numbers(43), numbers(44)
	texts := append([]string{procHead + strings.Repeat(aroundHead, 64) + strings.Repeat("}", 65), procHead + "return " + strings.Repeat("f(", 63) + strings.Repeat(")", 63) + ";}"}, spoiltTexts...)
	for i := range 150 {
		m := newMaker(&n, &gaps, i%30)
		m.module()
		texts = append(texts, m.text.String())
	}
	right := 0
	for _, s := range texts {
		if _, _, e := syntax.Parse(s); e != api.OK {
			continue
		}
		right++
		for end := range s {
			wantBeginning(t, s[:end])
		}
	}
	if right < 150 {
		t.Errorf("%d texts", right)
	}
}

// wantBeginning looks at how a text is refused that could go on.
func wantBeginning(t *testing.T, s string) {
	t.Helper()
	_, at, e := syntax.Parse(s)
	tokens, lexAt, lexE := lexis.Tokens(s)
	if lexE != api.OK {
		if at != lexAt || e != lexE {
			t.Fatalf("%q: %d, %v, not %d, %v", s, at, e, lexAt, lexE)
		}
		return
	}
	if e != api.OK && (e != api.ErrSyntax || at != len(s) && (len(tokens) == 0 || at != tokens[len(tokens)-1].At)) {
		t.Fatalf("%q: %d, %v", s, at, e)
	}
}

func TestWhatStandsBetweenTokensSaysNothing(t *testing.T) { // P13.5
	n := numbers(51)
	for i := range 2000 {
		from := n
		one := newMaker(&n, nil, i%40)
		one.module()
		again, gaps := from, numbers(uint64(i))
		other := newMaker(&again, &gaps, i%40)
		other.module()
		a, _, e := syntax.Parse(one.text.String())
		b, _, f := syntax.Parse(other.text.String())
		if e != f || !syntax.Same(a, b) || said(syntax.Strip(a)) != said(syntax.Strip(b)) {
			t.Fatalf("%q, %q: %v, %v", one.text.String(), other.text.String(), e, f)
		}
	}
	tight, _, e := syntax.Parse("table t(a int;b bool);proc p(a int)int{let b=-a*2;if!(b<=1){get=t(b);}else{return b;}for c,d in t()to(1,f(\"a\")){}}")
	wide, _, f := syntax.Parse("table t ( a int ; b bool ) ; proc p ( a int ) int { let b = - a * 2 ; if ! ( b <= 1 ) { get = t ( b ) ; } else { return b ; } for c , d in t ( ) to ( 1 , f ( \"a\" ) ) { } }")
	if e != api.OK || f != api.OK || !syntax.Same(tight, wide) {
		t.Error(said(tight), e, said(wide), f)
	}
}
