package print_test

import (
	"slices"
	"strings"
	"testing"

	"keystone/api"
	"keystone/lexis"
	"keystone/print"
	"keystone/syntax"
)

func TestThereAndBack(t *testing.T) { // P14.2: what is printed is read as what it is
	n := numbers(31)
	for i := range 4000 {
		x := newMaker(&n, i%60).module()
		s, e := print.Module(x)
		if e == api.ErrPrint {
			continue // too deep, as others look at
		}
		again, at, e := syntax.Parse(s)
		if e != api.OK || !syntax.Same(x, again) || said(syntax.Strip(x)) != said(syntax.Strip(again)) {
			t.Fatalf("%s: %q: %d, %v, %s", said(x), s, at, e, said(again))
		}
		once, e := print.Module(again)
		want(t, once, e, again, s)
	}
}

// spread is a text with other things between its tokens.
func spread(n *numbers, s string) string {
	tokens, _, _ := lexis.Tokens(s)
	var b strings.Builder
	for i, x := range tokens {
		for range 1 + n.below(3) {
			b.WriteString(oneOf(n, []string{" ", "\t", "\r", "\n", "#\n", "# } ) ; \"\x00\xff\n"}))
		}
		end := len(s)
		if i+1 < len(tokens) {
			end = tokens[i+1].At
		}
		b.WriteString(strings.TrimRight(s[x.At:end], " \t\n"))
	}
	return b.String()
}

func TestWhatIsReadIsPrinted(t *testing.T) { // P14.2: texts with parentheses that need not stand, and with all that may stand between tokens
	n := numbers(32)
	deep := 0
	for i := range 4000 {
		x := newMaker(&n, i%60).module()
		s := spread(&n, model{loose: &n}.module(x))
		got, _, e := syntax.Parse(s)
		if e == api.ErrDeep {
			deep++
			continue
		}
		if e != api.OK || !syntax.Same(x, got) {
			t.Fatalf("%q: %v, %s, not %s", s, e, said(got), said(x))
		}
		wantModelModule(t, got)
	}
	if deep > 400 {
		t.Errorf("%d too deep", deep)
	}
}

func TestTextsThatAreLessDeep(t *testing.T) { // P14.2: parentheses that need not stand can make a text less deep
	half := "(a" + strings.Repeat(" + a", 40) + ")"
	s := half + strings.Repeat(" + a", 40)
	x, _, e := syntax.ParseTerm(s)
	if e != api.OK {
		t.Fatal(e)
	}
	wantNoTerm(t, x, api.ErrPrint)
	m, _, e := syntax.Parse(procHead + "return " + s + ";" + procTail)
	if e != api.OK {
		t.Fatal(e)
	}
	wantNoModule(t, m, api.ErrPrint)
}

func TestTextsThatAreShorter(t *testing.T) { // P14.2: a text may be shorter than what is printed of it
	long := strings.Repeat("a=f(a,a);", api.MaxText/9-10)
	m, _, e := syntax.Parse("proc p()int{" + long + "}")
	if e != api.OK {
		t.Fatal(e)
	}
	wantNoModule(t, m, api.ErrLong)
}

// smallTerms are all terms of so many parts out of a few sorts, by their sizes.
func smallTerms(most int) [][]api.Term {
	all := [][]api.Term{nil, {a, b, number(1), text("a"), call("a")}}
	for size := 2; size <= most; size++ {
		var l []api.Term
		for _, x := range all[size-1] {
			l = append(l, term(api.XNeg, x), term(api.XNot, x), term(api.XLen, x), call("a", x))
		}
		for first := 1; first < size-1; first++ {
			for _, x := range all[first] {
				for _, y := range all[size-1-first] {
					for _, op := range []int{api.XAdd, api.XSub, api.XMul, api.XLess, api.XEqual, api.XAnd, api.XOr, api.XPoint} {
						l = append(l, term(op, x, y))
					}
					l = append(l, call("a", x, y))
				}
			}
		}
		all = append(all, l)
	}
	return all
}

func TestSmallTerms(t *testing.T) { // P14.2, P14.3: all of them, each with a text that is its own
	is := map[string]bool{}
	many := 0
	for _, l := range smallTerms(5) {
		for _, x := range l {
			s, e := print.Term(x)
			want(t, s, e, x, model{}.term(x))
			again, _, e := syntax.ParseTerm(s)
			if e != api.OK || !sameTerm(x, again) {
				t.Fatalf("%s: %q, %v, %s", said(x), s, e, said(again))
			}
			is[s] = true
			many++
		}
	}
	if len(is) != many || many < 10000 {
		t.Errorf("%d texts of %d terms", len(is), many)
	}
}

func sameTerm(x, y api.Term) bool {
	inProc := func(x api.Term) api.Module {
		return api.Module{Procs: []api.Proc{procOf(api.Stmt{Op: api.SReturn, Args: terms(x)})}}
	}
	return syntax.Same(inProc(x), inProc(y))
}

// pairs are the places of parentheses in a text, two by two.
func pairs(s string) [][2]int {
	var all [][2]int
	var open []int
	tokens, _, _ := lexis.Tokens(s)
	for _, x := range tokens {
		switch x.Text {
		case "(":
			open = append(open, x.At)
		case ")":
			all = append(all, [2]int{open[len(open)-1], x.At})
			open = open[:len(open)-1]
		}
	}
	return all
}

// without is a text with blanks in the place of two bytes.
func without(s string, p [2]int) string {
	return s[:p[0]] + " " + s[p[0]+1:p[1]] + " " + s[p[1]+1:]
}

func TestNoParenthesesCanBeLeftOut(t *testing.T) { // P14.4
	for _, l := range smallTerms(4) {
		for _, x := range l {
			s, _ := print.Term(x)
			for _, p := range pairs(s) {
				if y, _, e := syntax.ParseTerm(without(s, p)); e == api.OK && sameTerm(x, y) {
					t.Fatalf("%q: %d", s, p)
				}
			}
		}
	}
	n := numbers(33)
	many := 0
	for i := range 1500 {
		x := newMaker(&n, i%60).module()
		s, _ := print.Module(x)
		for _, p := range pairs(s) {
			many++
			if y, _, e := syntax.Parse(without(s, p)); e == api.OK && syntax.Same(x, y) {
				t.Fatalf("%q: %d", s, p)
			}
		}
	}
	if many < 10000 {
		t.Error(many)
	}
}

// parts are all of a module, as they can be changed.
type parts struct {
	tables []*api.Table
	procs  []*api.Proc
	cols   []*api.Column
	stmts  []*api.Stmt
	terms  []*api.Term
}

func partsOf(m *api.Module) *parts {
	var p parts
	for i := range m.Tables {
		p.tables = append(p.tables, &m.Tables[i])
		p.addColumns(m.Tables[i].Key)
		p.addColumns(m.Tables[i].Val)
	}
	for i := range m.Procs {
		p.procs = append(p.procs, &m.Procs[i])
		p.addColumns(m.Procs[i].Params)
		p.addStmts(m.Procs[i].Body)
	}
	return &p
}

func (p *parts) addColumns(l []api.Column) {
	for i := range l {
		p.cols = append(p.cols, &l[i])
	}
}

func (p *parts) addStmts(l []api.Stmt) {
	for i := range l {
		p.stmts = append(p.stmts, &l[i])
		p.addTerms(l[i].Args)
		p.addTerms(l[i].Vals)
		p.addStmts(l[i].Body)
		p.addStmts(l[i].Else)
	}
}

func (p *parts) addTerms(l []api.Term) {
	for i := range l {
		p.terms = append(p.terms, &l[i])
		p.addTerms(l[i].Args)
	}
}

// change makes another thing of one that is there, or not; what becomes of it may be what no text says.
func (p *parts) change(n *numbers) {
	name := oneOf(n, []string{"a", "b", "other"})
	switch i := n.below(100); {
	case i < 10 && len(p.tables) > 0:
		x := oneOf(n, p.tables)
		switch n.below(3) {
		case 0:
			x.Name = name
		case 1:
			x.Key, x.Val = append(slices.Clone(x.Key), x.Val...), nil
		case 2:
			x.Val = append(slices.Clone(x.Val), api.Column{Name: name, Kind: api.KInt})
		}
	case i < 20 && len(p.procs) > 0:
		x := oneOf(n, p.procs)
		switch n.below(4) {
		case 0:
			x.Name = name
		case 1:
			x.Helper = !x.Helper
		case 2:
			x.Result = 1 + n.below(4)
		case 3:
			x.Body = append(slices.Clone(x.Body), aStmt())
		}
	case i < 30 && len(p.cols) > 0:
		*oneOf(n, p.cols) = api.Column{Name: name, Kind: 1 + n.below(4)}
	case i < 60 && len(p.stmts) > 0:
		p.changeStmt(n, oneOf(n, p.stmts), name)
	case len(p.terms) > 0:
		p.changeTerm(n, oneOf(n, p.terms), name)
	}
}

func (p *parts) changeStmt(n *numbers, x *api.Stmt, name string) {
	switch n.below(7) {
	case 0:
		x.Op = 1 + n.below(13)
	case 1:
		x.Names = append(slices.Clone(x.Names), name)
	case 2:
		x.Table = name
	case 3:
		x.Args, x.Vals = x.Vals, x.Args
	case 4:
		x.Body, x.Else = x.Else, x.Body
	case 5:
		x.Body = append(slices.Clone(x.Body), aStmt())
	case 6:
		x.Names = slices.Clone(x.Names[:len(x.Names)/2])
	}
}

func (p *parts) changeTerm(n *numbers, x *api.Term, name string) {
	switch n.below(6) {
	case 0:
		x.Op = 1 + n.below(20)
	case 1:
		x.Name = name
	case 2:
		x.Val = oneOf(n, []api.Value{{}, {Kind: api.KInt, Int: 3}, {Kind: api.KBool}, {Kind: api.KBytes, Bytes: "q"}})
	case 3:
		x.Args = append(slices.Clone(x.Args), a)
	case 4:
		x.Args = slices.Clone(x.Args)
		slices.Reverse(x.Args)
	case 5:
		if len(x.Args) > 0 { // one part less, or another one in its place
			*x = x.Args[n.below(len(x.Args))]
		}
	}
}

// moveAll gives each thing another place.
func (p *parts) moveAll(n *numbers) {
	for _, x := range p.tables {
		x.At = n.below(9) - 4
	}
	for _, x := range p.procs {
		x.At = n.below(9) - 4
	}
	for _, x := range p.stmts {
		x.At = n.below(9) - 4
	}
	for _, x := range p.terms {
		x.At = n.below(9) - 4
	}
}

func TestOneText(t *testing.T) { // P14.3: of what is the same, and of nothing else
	n := numbers(34)
	changed, none := 0, 0
	for i := range 12000 {
		x := newMaker(&n, 1+i%20).module()
		s, e := print.Module(x)
		if e != api.OK {
			continue
		}
		y := syntax.Strip(x)
		p := partsOf(&y)
		p.moveAll(&n)
		wantModule(t, y, s)
		for range 1 + n.below(2) {
			partsOf(&y).change(&n)
		}
		other, e := print.Module(y)
		if e != api.OK {
			none++
			continue
		}
		if same := syntax.Same(x, y); same != (s == other) {
			t.Fatalf("%q, %q: %v", s, other, same)
		} else if !same {
			changed++
		}
	}
	if changed < 2000 || none < 1000 {
		t.Error(changed, none)
	}
}
