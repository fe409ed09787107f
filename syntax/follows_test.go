package syntax_test

import (
	"strconv"
	"strings"
	"testing"

	"keystone/api"
	"keystone/lexis"
	"keystone/syntax"
)

// printer writes a module as chapter 14 says.
type printer struct{ strings.Builder }

func (p *printer) all(l ...string) {
	for _, s := range l {
		p.WriteString(s)
	}
}

var kindWords = []string{"", "int", "bool", "bytes", "point"}

func columnsText(l []api.Column) string {
	var parts []string
	for _, c := range l {
		parts = append(parts, c.Name+" "+kindWords[c.Kind])
	}
	return strings.Join(parts, ", ")
}

func moduleText(m api.Module) string {
	var p printer
	for _, t := range m.Tables {
		p.all("table ", t.Name, "(", columnsText(t.Key), ";")
		if len(t.Val) > 0 {
			p.all(" ", columnsText(t.Val))
		}
		p.all(");\n")
	}
	for _, x := range m.Procs {
		p.all(map[bool]string{false: "proc ", true: "helper "}[x.Helper], x.Name, "(", columnsText(x.Params), ") ", kindWords[x.Result], " {\n")
		p.stmts(x.Body, 1)
		p.all("}\n")
	}
	return p.String()
}

func (p *printer) stmts(l []api.Stmt, depth int) {
	for _, s := range l {
		p.all(strings.Repeat("\t", depth))
		names, args, vals := strings.Join(s.Names, ", "), termsText(s.Args), termsText(s.Vals)
		switch s.Op {
		case api.SLet:
			p.all("let ", names, " = ", args, ";\n")
		case api.SAssign:
			p.all(names, " = ", args, ";\n")
		case api.SIf:
			p.all("if ", args)
		case api.SWhile:
			p.all("while ", args)
		case api.SGet:
			p.all(strings.Replace("get "+names+" = ", "  ", " ", 1), s.Table, "(", args, ");\n")
		case api.SHas:
			p.all("has ", names, " = ", s.Table, "(", args, ");\n")
		case api.SPut, api.SAdd, api.SChange:
			p.all([]string{"put ", "add ", "change "}[s.Op-api.SPut], s.Table, "(", args, ") = (", vals, ");\n")
		case api.SDel:
			p.all("del ", s.Table, "(", args, ");\n")
		case api.SFor:
			p.all("for ", names, " in ", s.Table, "(", args, ") to (", vals, ")")
		case api.SRaise:
			p.all("raise ", args, ";\n")
		case api.SReturn:
			p.all("return ", args, ";\n")
		}
		if s.Op == api.SIf || s.Op == api.SWhile || s.Op == api.SFor {
			p.blocks(s, depth)
		}
	}
}

func (p *printer) blocks(s api.Stmt, depth int) {
	p.all(" {\n")
	p.stmts(s.Body, depth+1)
	if len(s.Else) > 0 {
		p.all(strings.Repeat("\t", depth), "} else {\n")
		p.stmts(s.Else, depth+1)
	}
	p.all(strings.Repeat("\t", depth), "}\n")
}

func termsText(l []api.Term) string {
	var parts []string
	for _, t := range l {
		parts = append(parts, termText(t))
	}
	return strings.Join(parts, ", ")
}

// levelOf is a term's, 7 of those that stand by themselves.
func levelOf(op int) int {
	for _, o := range binary {
		if o.op == op {
			return o.line
		}
	}
	if op == api.XNeg || op == api.XNot {
		return 6
	}
	return 7
}

func termText(t api.Term) string {
	level := levelOf(t.Op)
	operand := func(i, least int) string {
		if levelOf(t.Args[i].Op) < least {
			return "(" + termText(t.Args[i]) + ")"
		}
		return termText(t.Args[i])
	}
	for _, o := range binary {
		if o.op == t.Op && level == 3 {
			return operand(0, 4) + " " + o.sign + " " + operand(1, 4)
		} else if o.op == t.Op {
			return operand(0, level) + " " + o.sign + " " + operand(1, level+1)
		}
	}
	args := "(" + termsText(t.Args) + ")"
	switch t.Op {
	case api.XNeg:
		return "-" + operand(0, 6)
	case api.XNot:
		return "!" + operand(0, 6)
	case api.XLen:
		return "len" + args
	case api.XPoint:
		return "point" + args
	case api.XRe:
		return "re" + args
	case api.XIm:
		return "im" + args
	case api.XCall:
		return t.Name + args
	case api.XVar:
		return t.Name
	}
	switch t.Val.Kind {
	case api.KInt:
		return strconv.FormatInt(t.Val.Int, 10)
	case api.KBool:
		return strconv.FormatBool(t.Val.Yes)
	}
	q, _ := lexis.Quote(t.Val.Bytes)
	return q
}

func TestThereAndBack(t *testing.T) { // P13.3: what is printed is read as what it is
	n, gaps := numbers(31), numbers(32)
	deep := 0
	for i := range 4000 {
		m := newMaker(&n, &gaps, i%60)
		m.module()
		first, _, e := syntax.Parse(m.text.String())
		if e != api.OK {
			continue // too deep
		}
		s := moduleText(first)
		again, at, e := syntax.Parse(s)
		if e == api.ErrDeep {
			deep++ // the print may be too deep where the text is not
			continue
		}
		if e != api.OK || !syntax.Same(first, again) || said(syntax.Strip(first)) != said(syntax.Strip(again)) {
			t.Fatalf("%q, %q: %d, %v, %s", m.text.String(), s, at, e, said(again))
		}
	}
	if deep > 100 {
		t.Errorf("%d too deep", deep)
	}
}

// eachTerms calls a function with each list of terms among some statements, eachStmts with each list of statements.
func eachTerms(l []api.Term, use func([]int)) {
	var places []int
	for _, t := range l {
		places = append(places, t.At)
		eachTerms(t.Args, use)
	}
	use(places)
}

func eachStmts(l []api.Stmt, use func([]int)) {
	var places []int
	for _, s := range l {
		places = append(places, s.At)
		eachTerms(s.Args, use)
		eachTerms(s.Vals, use)
		eachStmts(s.Body, use)
		eachStmts(s.Else, use)
	}
	use(places)
}

func eachPlaces(m api.Module, use func([]int)) {
	var tables, procs []int
	for _, t := range m.Tables {
		tables = append(tables, t.At)
	}
	for _, p := range m.Procs {
		procs = append(procs, p.At)
		eachStmts(p.Body, use)
	}
	use(tables)
	use(procs)
}

func TestPlacesAreThoseOfTokens(t *testing.T) { // P13.4
	n, gaps := numbers(41), numbers(42)
	for i := range 3000 {
		m := newMaker(&n, &gaps, i%60)
		m.module()
		s := m.text.String()
		got, _, _ := syntax.Parse(s)
		tokens, _, _ := lexis.Tokens(s)
		is := map[int]bool{}
		for _, x := range tokens {
			is[x.At] = true
		}
		eachPlaces(got, func(l []int) {
			for i, at := range l {
				if !is[at] || i > 0 && at <= l[i-1] {
					t.Fatalf("%q: %v", s, l)
				}
			}
		})
	}
}

func TestBeginnings(t *testing.T) { // P13.4
	n, gaps := numbers(43), numbers(44)
	texts := append([]string{procHead + strings.Repeat(aroundHead, 64) + strings.Repeat("}", 65), procHead + "return " + strings.Repeat("f(", 63) + strings.Repeat(")", 63) + ";}"}, spoiltTexts...)
	for i := range 150 {
		m := newMaker(&n, &gaps, i%30)
		m.module()
		texts = append(texts, m.text.String())
	}
	right := 0
	for _, s := range texts {
		if _, _, e := syntax.Parse(s); e != api.OK {
			continue
		}
		right++
		for end := range s {
			wantBeginning(t, s[:end])
		}
	}
	if right < 150 {
		t.Errorf("%d texts", right)
	}
}

// wantBeginning looks at how a text is refused that could go on.
func wantBeginning(t *testing.T, s string) {
	t.Helper()
	_, at, e := syntax.Parse(s)
	tokens, lexAt, lexE := lexis.Tokens(s)
	if lexE != api.OK {
		if at != lexAt || e != lexE {
			t.Fatalf("%q: %d, %v, not %d, %v", s, at, e, lexAt, lexE)
		}
		return
	}
	if e != api.OK && (e != api.ErrSyntax || at != len(s) && (len(tokens) == 0 || at != tokens[len(tokens)-1].At)) {
		t.Fatalf("%q: %d, %v", s, at, e)
	}
}

func TestWhatStandsBetweenTokensSaysNothing(t *testing.T) { // P13.5
	n := numbers(51)
	for i := range 2000 {
		from := n
		one := newMaker(&n, nil, i%40)
		one.module()
		again, gaps := from, numbers(uint64(i))
		other := newMaker(&again, &gaps, i%40)
		other.module()
		a, _, e := syntax.Parse(one.text.String())
		b, _, f := syntax.Parse(other.text.String())
		if e != f || !syntax.Same(a, b) || said(syntax.Strip(a)) != said(syntax.Strip(b)) {
			t.Fatalf("%q, %q: %v, %v", one.text.String(), other.text.String(), e, f)
		}
	}
	tight, _, e := syntax.Parse("table t(a int;b bool);proc p(a int)int{let b=-a*2;if!(b<=1){get=t(b);}else{return b;}for c,d in t()to(1,f(\"a\")){}}")
	wide, _, f := syntax.Parse("table t ( a int ; b bool ) ; proc p ( a int ) int { let b = - a * 2 ; if ! ( b <= 1 ) { get = t ( b ) ; } else { return b ; } for c , d in t ( ) to ( 1 , f ( \"a\" ) ) { } }")
	if e != api.OK || f != api.OK || !syntax.Same(tight, wide) {
		t.Error(said(tight), e, said(wide), f)
	}
}
