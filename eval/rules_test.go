package eval_test

import (
	"fmt"
	"math"
	"reflect"
	"slices"
	"strings"
	"sync"
	"testing"

	"keystone/api"
	"keystone/eval"
	"keystone/syntax"
	"keystone/tuple"
	"keystone/types"
)

// parts are all of a module, as they can be changed.
type parts struct {
	names []*string
	kinds []*int
	lists []*[]api.Stmt
	stmts []*api.Stmt
	terms []*api.Term
}

func partsOf(m *api.Module) *parts {
	var p parts
	for i := range m.Tables {
		p.names = append(p.names, &m.Tables[i].Name)
		p.addColumns(m.Tables[i].Key)
		p.addColumns(m.Tables[i].Val)
	}
	for i := range m.Procs {
		p.names = append(p.names, &m.Procs[i].Name)
		p.kinds = append(p.kinds, &m.Procs[i].Result)
		p.addColumns(m.Procs[i].Params)
		p.addStmts(&m.Procs[i].Body)
	}
	return &p
}

func (p *parts) addColumns(l []api.Column) {
	for i := range l {
		p.names, p.kinds = append(p.names, &l[i].Name), append(p.kinds, &l[i].Kind)
	}
}

func (p *parts) addStmts(list *[]api.Stmt) {
	p.lists = append(p.lists, list)
	for i := range *list {
		s := &(*list)[i]
		p.stmts = append(p.stmts, s)
		for j := range s.Names {
			p.names = append(p.names, &s.Names[j])
		}
		p.addTerms(s.Args)
		p.addTerms(s.Vals)
		p.addStmts(&s.Body)
		p.addStmts(&s.Else)
	}
}

func (p *parts) addTerms(l []api.Term) {
	for i := range l {
		p.terms = append(p.terms, &l[i])
		p.addTerms(l[i].Args)
	}
}

// change makes something else of a part of a module; what comes of it may be anything.
func change(n *numbers, m *api.Module) {
	p := partsOf(m)
	copied := syntax.Strip(*m) // nothing is put into itself
	other := partsOf(&copied)
	switch i := n.below(20); {
	case i < 2:
		*oneOf(n, p.names) = *oneOf(n, p.names)
	case i < 3:
		*oneOf(n, p.kinds) = oneOf(n, kinds)
	case i < 8:
		l := oneOf(n, p.lists)
		if len(p.stmts) > 0 && n.below(2) == 0 {
			*l = append(slices.Clone(*l), *oneOf(n, other.stmts))
		}
		if len(*l) > 0 {
			*l = slices.Clone(*l)
			j, k := n.below(len(*l)), n.below(len(*l))
			(*l)[j], (*l)[k] = (*l)[k], (*l)[j]
			*l = (*l)[:len(*l)-n.below(2)]
		}
	case i < 12 && len(p.stmts) > 0:
		s := oneOf(n, p.stmts)
		switch n.below(4) {
		case 0:
			s.Op = 1 + n.below(13)
		case 1:
			s.Op = api.SPut + n.below(3)
		case 2:
			s.Body, s.Else = s.Else, s.Body
		case 3:
			s.Args, s.Vals = s.Vals, s.Args
		}
	case len(p.terms) > 0:
		x := oneOf(n, p.terms)
		switch n.below(3) {
		case 0:
			x.Op = 1 + n.below(20)
		case 1:
			*x = *oneOf(n, other.terms)
		case 2:
			x.Args = slices.Clone(x.Args)
			slices.Reverse(x.Args)
		}
	}
}

// spoil puts into a part of a module what no text says.
func spoil(n *numbers, m *api.Module) {
	p := partsOf(m)
	kind := oneOf(n, []int{0, -1, 5, 14, 21, math.MaxInt, math.MinInt})
	switch n.below(6) {
	case 0:
		*oneOf(n, p.names) = oneOf(n, []string{"", "let", "A", "a b", "1", strings.Repeat("a", 33), "\xff"})
	case 1:
		*oneOf(n, p.kinds) = kind
	case 2:
		*oneOf(n, p.lists) = []api.Stmt{{Op: kind}}
	case 3:
		if len(p.stmts) > 0 {
			s := oneOf(n, p.stmts)
			s.Op, s.Args = 1+n.below(13), nil
		}
	default:
		if len(p.terms) > 0 {
			x := oneOf(n, p.terms)
			x.Op, x.Val, x.Args = 1+n.below(22), oneOf(n, badOperands()[api.ErrKind]), x.Args[:n.below(len(x.Args)+1)]
		}
	}
}

// someThing is a value of any kind, or one that may not be.
func someThing(n *numbers) api.Value {
	if n.below(8) == 0 {
		return oneOf(n, badOperands()[oneOf(n, []api.Errno{api.ErrKind, api.ErrTuplePart})])
	}
	return someValue(n, oneOf(n, kinds))
}

// tryAll calls all that is there, and tells all answers; it looks at what stands beside an error.
func tryAll(t *testing.T, m api.Module, name string, args []api.Value, c []api.Content, fuel int) string {
	t.Helper()
	var b strings.Builder
	look := func(none bool, e api.Errno, l ...any) {
		t.Helper()
		if e != api.OK && !none {
			t.Fatal(e, said(l))
		}
		fmt.Fprintln(&b, e, said(l))
	}
	look(true, eval.Check(m, c))
	o, behind, spent, e := eval.Run(m, name, args, c, fuel)
	look(o == (api.Outcome{}) && len(behind) == 0 && spent == 0, e, o, behind, spent)
	names := []string{"a", "b", "c", "d", "e"}[:min(len(args), 5)]
	for i, x := range partsOf(&m).terms {
		if i < 6 {
			v, code, spent, e := eval.Term(m, *x, names, args, fuel)
			look(v == (api.Value{}) && code == 0 && spent == 0, e, v, code, spent)
			if len(args) > 0 {
				v, code, e := eval.Unary(x.Op, args[0])
				look(v == (api.Value{}) && code == 0, e, v, code)
				v, code, e = eval.Binary(x.Op, args[0], args[len(args)-1])
				look(v == (api.Value{}) && code == 0, e, v, code)
			}
		}
	}
	for _, x := range slices.Concat(c, []api.Content{{}}) {
		look(true, api.OK, eval.Rows(c, x.Table, args, nil), eval.Rows(c, x.Table, nil, args), eval.Rows(c, x.Table, nil, nil))
	}
	return b.String()
}

func TestChangedModules(t *testing.T) { // R1, P16.2: what may be by chance runs as the model says; nothing panics of what may not be
	n := numbers(169)
	count := map[api.Errno]int{}
	for i := range 2000 {
		m := read(t, made(&n, 2+i%10))
		for range n.below(4) {
			change(&n, &m)
		}
		if i%4 == 0 {
			spoil(&n, &m)
		}
		p := oneOf(&n, m.Procs)
		c, args := someContent(&n, m), someValues(&n, p.Params)
		if i%8 == 0 {
			c = spoilContent(&n, c)
			args = append(args, someThing(&n))[n.below(2):]
		}
		_, _, _, e := eval.Run(m, p.Name, args, c, 200)
		count[e]++
		if e == api.OK {
			wantModel(t, m, said(m), p.Name, args, c, 200)
		} else if _, typesE := types.Check(api.Module{}, m); (typesE != api.OK) != (e == api.ErrEvalModule) {
			t.Fatal(said(m), e, typesE)
		}
		tryAll(t, m, p.Name, args, c, oneOf(&n, []int{0, 5, 200, -1, math.MaxInt}))
	}
	if count[api.OK] < 200 || count[api.ErrEvalModule] < 200 {
		t.Error(count)
	}
}

func TestNothingPanics(t *testing.T) { // R1: what has itself in it, and what is bare
	l := make([]api.Term, 2)
	body := make([]api.Stmt, 2)
	for i := range l {
		l[i] = api.Term{Op: api.XAdd, Args: l}
		body[i] = api.Stmt{Op: api.SIf, Args: []api.Term{{Op: api.XLit, Val: tuple.Bool(true)}}, Body: body, Else: body}
	}
	for _, x := range [][]api.Stmt{body, {{Op: api.SReturn, Args: l[:1]}}, make([]api.Stmt, 3), {{Op: api.SFor, Table: "t"}}} {
		m := api.Module{Tables: []api.Table{{Name: "t", Key: []api.Column{{Name: "k", Kind: api.KInt}}}}, Procs: []api.Proc{{Name: "p", Result: api.KInt, Body: x}}}
		_, _, _, e := eval.Run(m, "p", nil, nil, 100)
		_, _, _, termE := eval.Term(m, l[0], nil, nil, 100)
		if checkE := eval.Check(m, nil); e != api.ErrEvalModule || termE != e || checkE != e {
			t.Fatal(e, termE, checkE)
		}
	}
	if _, _, _, e := eval.Term(api.Module{}, l[0], nil, nil, 100); e != api.ErrShape {
		t.Fatal(e)
	}
	x := api.Term{Op: api.XLit, Val: tuple.Bool(true)}
	for range 1<<16 - 3 {
		x = api.Term{Op: api.XNot, Args: []api.Term{x}}
	}
	if _, _, _, e := eval.Term(api.Module{}, x, nil, nil, 100); e != api.ErrShape {
		t.Fatal(e)
	}
	n := numbers(170)
	for _, m := range []api.Module{{}, {Tables: make([]api.Table, 3), Procs: make([]api.Proc, 3)}, {Procs: []api.Proc{{Body: make([]api.Stmt, 5)}}}} {
		for range 200 {
			c := []api.Content{{}, {Rows: make([]api.Row, 3)}, {Table: "t", Rows: []api.Row{{Key: []api.Value{someThing(&n)}, Val: []api.Value{someThing(&n)}}}}}
			tryAll(t, m, "", []api.Value{someThing(&n), someThing(&n)}, c[:n.below(4)], n.below(9)-3)
			op := n.below(30) - 5
			eval.Unary(op, someThing(&n))
			eval.Binary(op, someThing(&n), someThing(&n))
		}
	}
}

func TestGreatThings(t *testing.T) { // R1: many rows, arguments, names
	const many = 1 << 19
	m := read(t, "table t(k int; v int); proc p(a int, b int) int { put t(a) = (1); for k, v in t(a) to (a) { del t(k); } put t(b) = (2); return 1; } proc q() int { for k, v in t() to () { } return 1; }")
	var l []api.Row
	for i := range many {
		l = append(l, api.Row{Key: []api.Value{tuple.Int(int64(2 * i))}, Val: []api.Value{tuple.Int(int64(i))}})
	}
	c := []api.Content{{Table: "t", Rows: l}}
	if e := eval.Check(m, c); e != api.OK {
		t.Fatal(e)
	}
	o, behind, _, e := eval.Run(m, "p", vals(t, "1048574 7"), c, 100)
	if toldEnd(o) != "1" || len(behind[0].Rows) != many || behind[0].Rows[4].Val[0].Int != 2 || behind[0].Rows[many-1].Key[0].Int != 2*(many-2) || e != api.OK {
		t.Fatal(toldEnd(o), len(behind[0].Rows), e)
	}
	if o, _, spent, e := eval.Run(m, "q", nil, c, api.MaxFuel); toldEnd(o) != "1" || spent != many+4 || e != api.OK {
		t.Fatal(toldEnd(o), spent, e)
	}
	if l := eval.Rows(c, "t", vals(t, "7"), vals(t, "1000001")); len(l) != 500000-3 || l[0].Key[0].Int != 8 {
		t.Fatal(len(l))
	}
	l[many-1].Key[0].Int--
	l[many-1].Key[0].Int--
	if e := eval.Check(m, c); e != api.ErrEvalContent {
		t.Fatal(e)
	}
	args := make([]api.Value, many)
	names := make([]string, many)
	if _, _, _, e := eval.Run(m, "p", args, c, 1); e != api.ErrEvalArgs {
		t.Fatal(e)
	}
	if _, _, _, e := eval.Term(m, readTerm(t, "1"), names, args, 1); e != api.ErrEvalArgs {
		t.Fatal(e)
	}
	if e := eval.Check(m, make([]api.Content, many)); e != api.ErrEvalContent {
		t.Fatal(e)
	}
}

// whole tells a thing with what lies in the spare room of its lists.
func whole(v reflect.Value) any {
	var l []any
	switch v.Kind() {
	case reflect.Struct:
		for i := range v.NumField() {
			l = append(l, whole(v.Field(i)))
		}
	case reflect.Slice:
		for i := range v.Cap() {
			l = append(l, whole(v.Slice(0, v.Cap()).Index(i)))
		}
		l = append(l, v.Len())
	default:
		return v.Interface()
	}
	return l
}

// given is all that calls are given.
type given struct {
	m    api.Module
	args []api.Value
	c    []api.Content
}

func (g given) all() string {
	return said([]any{whole(reflect.ValueOf(g.m)), whole(reflect.ValueOf(g.args)), whole(reflect.ValueOf(g.c))})
}

// roomy gives lists room behind their ends, with something in it.
func roomy(g *given) {
	p := partsOf(&g.m)
	for _, x := range p.stmts {
		x.Names = append(x.Names, "behind")[:len(x.Names)]
		x.Args, x.Vals = append(x.Args, api.Term{Name: "behind"})[:len(x.Args)], append(x.Vals, api.Term{Name: "behind"})[:len(x.Vals)]
	}
	for _, x := range p.lists {
		*x = append(*x, api.Stmt{Table: "behind"})[:len(*x)]
	}
	g.args = append(g.args, tuple.Int(77))[:len(g.args)]
	g.c = append(g.c, api.Content{Table: "behind"})[:len(g.c)]
	for i := range g.c {
		for j := range g.c[i].Rows {
			row := &g.c[i].Rows[j]
			row.Key, row.Val = append(row.Key, tuple.Int(78))[:len(row.Key)], append(row.Val, tuple.Int(79))[:len(row.Val)]
		}
		g.c[i].Rows = append(g.c[i].Rows, api.Row{Key: []api.Value{tuple.Int(80)}})[:len(g.c[i].Rows)]
	}
}

func TestArgumentsStayAsTheyAre(t *testing.T) { // R3: nor what lies behind a list's end
	n := numbers(171)
	for i := range 600 {
		g := given{m: read(t, made(&n, 1+i%12))}
		p := oneOf(&n, procsOf(g.m))
		g.args, g.c = someValues(&n, p.Params), someContent(&n, g.m)
		roomy(&g)
		before := g.all()
		tryAll(t, g.m, p.Name, g.args, g.c, 300)
		if after := g.all(); after != before {
			t.Fatalf("%.3000s, not %.3000s", after, before)
		}
	}
}

// wantApart looks at the lists of some things, no two of which may share memory, in their spare room neither.
func wantApart(t *testing.T, l ...any) {
	t.Helper()
	type piece struct{ from, to uintptr }
	var all []piece
	var walk func(v reflect.Value)
	walk = func(v reflect.Value) {
		switch v.Kind() {
		case reflect.Struct:
			for i := range v.NumField() {
				walk(v.Field(i))
			}
		case reflect.Slice:
			if v.Cap() > 0 {
				all = append(all, piece{v.Pointer(), v.Pointer() + uintptr(v.Cap())*v.Type().Elem().Size()})
			}
			for i := range v.Len() {
				walk(v.Index(i))
			}
		}
	}
	for _, x := range l {
		walk(reflect.ValueOf(x))
	}
	slices.SortFunc(all, func(a, b piece) int { return int(a.from) - int(b.from) })
	for i := range all[min(1, len(all)):] {
		if all[i].to > all[i+1].from {
			t.Fatal("shared memory")
		}
	}
}

func TestAnswersShareNothing(t *testing.T) { // R3: with an argument, with one another, or within one
	n := numbers(172)
	ends := map[int]int{}
	for i := range 600 {
		g := given{m: read(t, made(&n, 1+i%12))}
		p := oneOf(&n, procsOf(g.m))
		g.args, g.c = someValues(&n, p.Params), someContent(&n, g.m)
		roomy(&g)
		o, behind, _, _ := eval.Run(g.m, p.Name, g.args, g.c, 300)
		_, again, _, _ := eval.Run(g.m, p.Name, g.args, g.c, 300)
		ends[o.End]++
		l := []any{g.m, g.args, g.c, behind, again}
		for _, x := range g.c {
			l = append(l, eval.Rows(g.c, x.Table, nil, nil), eval.Rows(g.c, x.Table, nil, nil))
		}
		wantApart(t, l...)
	}
	if ends[api.EndValue] < 100 || ends[api.EndFailed] < 100 {
		t.Error(ends)
	}
	// Lists that an argument has twice, and a row that is put where its values came from.
	key, val := vals(t, "1"), vals(t, "5")
	rows := []api.Row{{Key: key, Val: key}, {Key: vals(t, "2"), Val: val}, {Key: vals(t, "3"), Val: val}}
	c := []api.Content{{Table: "t", Rows: rows}, {Table: "u", Rows: rows}}
	m := read(t, "table t(k int; v int); table u(k int; v int); proc p(f bool) int { for k, v in t() to () { put u(k + 10) = (v); put t(k) = (v); } if f { return 1; } }")
	for _, f := range []bool{true, false} {
		_, behind, _, e := eval.Run(m, "p", []api.Value{tuple.Bool(f)}, c, 300)
		if e != api.OK {
			t.Fatal(e)
		}
		wantApart(t, key, val, behind)
	}
	wantApart(t, key, val, eval.Rows(c, "t", nil, nil), eval.Rows(c, "u", nil, nil), eval.Rows(c, "u", nil, nil))
}

func TestNilAndEmptyListsAreTheSame(t *testing.T) { // R3
	n := numbers(173)
	for i := range 400 {
		m := read(t, made(&n, 1+i%12))
		p := oneOf(&n, procsOf(m))
		args, c := someValues(&n, p.Params), someContent(&n, m)
		full := syntax.Strip(m)
		for _, x := range partsOf(&full).lists {
			*x = append([]api.Stmt{}, *x...)
		}
		for _, x := range partsOf(&full).stmts {
			x.Names, x.Args, x.Vals = append([]string{}, x.Names...), append([]api.Term{}, x.Args...), append([]api.Term{}, x.Vals...)
		}
		for _, x := range partsOf(&full).terms {
			x.Args = append([]api.Term{}, x.Args...)
		}
		var other []api.Content
		for _, x := range c {
			y := api.Content{Table: x.Table, Rows: append([]api.Row{}, x.Rows...)}
			for j := range y.Rows {
				y.Rows[j].Val = append([]api.Value{}, y.Rows[j].Val...)
			}
			other = append(other, y)
		}
		a, b := tryAll(t, m, p.Name, args, c, 200), tryAll(t, full, p.Name, append([]api.Value{}, args...), append([]api.Content{}, other...), 200)
		if a != b {
			t.Fatalf("%s, not %s", b, a)
		}
	}
	if l := eval.Rows([]api.Content{{Table: "t", Rows: []api.Row{{Key: []api.Value{}, Val: nil}}}}, "t", []api.Value{}, nil); len(l) != 1 {
		t.Error(l)
	}
	if v, code, _, e := eval.Term(api.Module{Tables: []api.Table{}, Procs: []api.Proc{}}, readTerm(t, "1"), []string{}, nil, 1); v != tuple.Int(1) || code != 0 || e != api.OK {
		t.Error(v, code, e)
	}
}

func TestPlacesDoNotMatter(t *testing.T) { // R4: what a module means does not hang on where it stands in a text
	n := numbers(174)
	for i := range 300 {
		m := read(t, made(&n, 1+i%12))
		p := oneOf(&n, procsOf(m))
		args, c := someValues(&n, p.Params), someContent(&n, m)
		if a, b := tryAll(t, m, p.Name, args, c, 200), tryAll(t, syntax.Strip(m), p.Name, args, c, 200); a != b {
			t.Fatalf("%s, not %s", b, a)
		}
	}
}

func TestSameArgumentsSameAnswers(t *testing.T) { // R4: whatever is done between, or beside it
	n := numbers(175)
	type call struct {
		given
		name string
	}
	var l []call
	var first []string
	for i := range 200 {
		m := read(t, made(&n, 1+i%12))
		p := oneOf(&n, procsOf(m))
		x := call{given{m: m, args: someValues(&n, p.Params), c: someContent(&n, m)}, p.Name}
		l, first = append(l, x), append(first, tryAll(t, x.m, x.name, x.args, x.c, 300))
	}
	var all sync.WaitGroup
	for range 4 {
		all.Add(1)
		go func() {
			defer all.Done()
			for i, x := range l {
				if s := tryAll(t, x.m, x.name, x.args, x.c, 300); s != first[i] {
					t.Errorf("%q, not %q", s, first[i])
				}
			}
		}()
	}
	all.Wait()
}
