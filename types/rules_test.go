package types_test

import (
	"fmt"
	"math"
	"reflect"
	"strings"
	"sync"
	"testing"

	"keystone/api"
	"keystone/syntax"
	"keystone/types"
)

// tryAll calls all that is there with two modules, and tells all answers; it looks at what stands beside an error.
func tryAll(t *testing.T, old, m api.Module, names []string) string {
	t.Helper()
	var b strings.Builder
	look := func(none bool, e api.Errno, l ...any) {
		t.Helper()
		if e != api.OK && !none || e != api.OK && e != api.ErrArg && e != api.ErrNone && (e < api.ErrTwice || e > api.ErrShape) {
			t.Fatalf("%v, %.500s", e, said(l))
		}
		fmt.Fprintln(&b, e, said(l))
	}
	at, e := types.Check(old, m)
	fmt.Fprintln(&b, at, e)
	all, e := types.Join(old, m)
	look(len(all.Tables)+len(all.Procs) == 0, e, all)
	for _, name := range names {
		l, e := types.Locals(m, name)
		look(len(l) == 0, e, l)
		calls, e := types.Calls(m, name)
		look(len(calls) == 0, e, calls)
		table, is := types.Table(m, name)
		fmt.Fprintln(&b, said(table), is)
		proc, is := types.Proc(m, name)
		fmt.Fprintln(&b, said(proc), is)
	}
	p := partsOf(&m)
	for i, x := range p.terms {
		if i == 10 {
			break
		}
		for _, p := range p.procs {
			kind, e := types.Kind(m, p.Params, *x)
			look(kind == 0, e, kind)
			kind, e = types.Kind(old, p.Params, *x)
			look(kind == 0, e, kind)
		}
	}
	return b.String()
}

// spoil puts into a part what no text says.
func spoil(n *numbers, p *parts) {
	name := oneOf(n, []string{"", "let", "A", "a b", "1", strings.Repeat("a", 33), "\xff", "len"})
	kind := oneOf(n, []int{0, -1, 5, math.MaxInt, math.MinInt})
	value := oneOf(n, []api.Value{{Kind: api.KPoint}, {Kind: api.KInt, Int: -1}, {Kind: 9}, {Int: 1}, {Point: complex(math.NaN(), math.Inf(1))}})
	switch i := n.below(6); {
	case i == 0 && len(p.tables) > 0:
		x := oneOf(n, p.tables)
		x.Name, x.Key = name, x.Key[:n.below(len(x.Key)+1)]
	case i == 1 && len(p.procs) > 0:
		x := oneOf(n, p.procs)
		x.Name, x.Result, x.At = name, kind, kind
	case i == 2 && len(p.cols) > 0:
		oneOf(n, p.cols).Kind = kind
	case i == 3 && len(p.stmts) > 0:
		x := oneOf(n, p.stmts)
		x.Names, x.Table, x.At = append(append([]string(nil), x.Names...), name), name, kind
	case i == 4 && len(p.stmts) > 0:
		oneOf(n, p.stmts).Op = kind
	case len(p.terms) > 0:
		x := oneOf(n, p.terms)
		x.Val, x.Op, x.At = value, 1+n.below(22), kind
	}
}

func TestNothingPanics(t *testing.T) { // R1: what may be, with changes that make anything of it
	n := numbers(31)
	for i := range 2500 {
		old, m := pair(&n, 1+i%6)
		for range n.below(5) {
			partsOf(&m).change(&n, partsOf(&old))
		}
		for range n.below(3) {
			spoil(&n, partsOf(&m))
		}
		if i%4 == 0 {
			spoil(&n, partsOf(&old))
		}
		tryAll(t, old, m, append([]string{"", "t"}, namesOfProcs(m)...))
	}
	bare := api.Module{Tables: make([]api.Table, 3), Procs: make([]api.Proc, 3)}
	tryAll(t, bare, bare, []string{""})
	tryAll(t, api.Module{}, api.Module{Procs: []api.Proc{{Body: make([]api.Stmt, 5)}}}, []string{""})
}

func TestThingsWithinOneAnother(t *testing.T) { // R1: as many as there may be
	const most = 1<<16 - 3
	right := read(t, world)
	for op := 0; op <= api.XIm+1; op++ {
		x := api.Term{Op: api.XVar, Name: "a"}
		for i := range most {
			args := []api.Term{x, x}[:1+i%2]
			if i%2 == 1 {
				args[1] = api.Term{Op: api.XVar, Name: "a"}
			}
			x = api.Term{Op: op, Args: args}
		}
		if kind, e := types.Kind(right, columns("a int"), x); kind != 0 || e != api.ErrShape {
			t.Fatal(op, kind, e)
		}
		m := module(nil, api.Proc{Name: "q", Result: api.KInt, Body: []api.Stmt{{Op: api.SReturn, Args: []api.Term{x}}}})
		wantDeep(t, right, m)
	}
	for op := api.SLet; op <= api.SReturn; op++ {
		var x, y []api.Stmt
		for range most {
			x = []api.Stmt{{Op: op, Args: []api.Term{{Op: api.XVar, Name: "a"}}, Body: x}}
			y = []api.Stmt{{Op: op, Names: []string{"a"}, Table: "t", Else: y}}
		}
		wantDeep(t, right, module(nil, api.Proc{Name: "q", Result: api.KInt, Body: x}))
		wantDeep(t, right, module(nil, api.Proc{Name: "q", Result: api.KInt, Body: y}))
	}
}

// wantDeep looks at a module with a procedure "q" that no text says.
func wantDeep(t *testing.T, right, m api.Module) {
	t.Helper()
	at, e := types.Check(right, m)
	_, joinE := types.Join(api.Module{}, m)
	_, localsE := types.Locals(m, "q")
	_, callsE := types.Calls(m, "q")
	_, kindE := types.Kind(m, nil, api.Term{})
	_, oldE := types.Check(m, right)
	if at != 0 || e != api.ErrShape || joinE != api.ErrShape || localsE != api.ErrArg || callsE != api.ErrArg || kindE != api.ErrArg || oldE != api.ErrArg {
		t.Fatal(at, e, joinE, localsE, callsE, kindE, oldE)
	}
	if p, is := types.Proc(m, "q"); !is || len(p.Body) != 1 || syntax.Nodes(module(nil, p)) != syntax.Nodes(m) {
		t.Fatal(is)
	}
	if x, is := types.Table(m, "q"); is || x.Name != "" {
		t.Fatal(is)
	}
}

func TestListsThatHaveThemselves(t *testing.T) { // R1
	l := make([]api.Term, 2)
	body := make([]api.Stmt, 2)
	for i := range l {
		l[i] = api.Term{Op: api.XAdd, Args: l}
		body[i] = api.Stmt{Op: api.SIf, Args: []api.Term{{Op: api.XVar, Name: "a"}}, Body: body, Else: body}
	}
	for _, x := range [][]api.Stmt{body, {{Op: api.SReturn, Args: l[:1]}}} {
		m := module(nil, api.Proc{Name: "q", Result: api.KInt, Body: x})
		at, e := types.Check(api.Module{}, m)
		_, localsE := types.Locals(m, "q")
		_, callsE := types.Calls(m, "q")
		if at != 0 || e != api.ErrShape || localsE != api.ErrArg || callsE != api.ErrArg {
			t.Fatal(at, e, localsE, callsE)
		}
	}
	if kind, e := types.Kind(api.Module{}, nil, l[0]); kind != 0 || e != api.ErrShape {
		t.Fatal(kind, e)
	}
}

func TestGreatThings(t *testing.T) { // R1
	const many = 1 << 20
	var m api.Module
	for i := range many {
		m.Tables = append(m.Tables, api.Table{Name: fmt.Sprintf("t%d", i), At: i, Key: columns("a int")})
		m.Procs = append(m.Procs, api.Proc{Name: fmt.Sprintf("p%d", i), At: i, Result: api.KInt})
	}
	wantE := func(at int, e, want api.Errno) {
		t.Helper()
		if at != 0 || e != want {
			t.Fatal(at, e)
		}
	}
	at, e := types.Check(api.Module{}, m)
	wantE(at, e, api.ErrShape)
	at, e = types.Check(m, m)
	wantE(at, e, api.ErrArg)
	_, e = types.Locals(m, "p7")
	wantE(0, e, api.ErrArg)
	x, is := types.Table(m, fmt.Sprintf("t%d", many-1))
	y, isToo := types.Proc(m, fmt.Sprintf("p%d", many-1))
	if !is || !isToo || x.At != many-1 || y.At != many-1 {
		t.Fatal(is, isToo)
	}
	var l []api.Column
	for i := range many {
		l = append(l, api.Column{Name: fmt.Sprintf("v%d", i), Kind: api.KInt})
	}
	sum := readTerm(t, "v0"+strings.Repeat("+v1048575-v7", 30))
	if kind, e := types.Kind(api.Module{}, l, sum); kind != api.KInt || e != api.OK {
		t.Fatal(kind, e)
	}
	l[many-1].Kind = 0
	if kind, e := types.Kind(api.Module{}, l, sum); kind != 0 || e != api.ErrArg {
		t.Fatal(kind, e)
	}
	long := strings.Repeat("a", 1<<22)
	if kind, e := types.Kind(api.Module{}, []api.Column{{Name: long, Kind: api.KInt}}, sum); kind != 0 || e != api.ErrArg {
		t.Fatal(kind, e)
	}
}

func TestTheWidestModules(t *testing.T) { // R1: as many statements, variables' scopes and calls as a text may have
	for _, x := range []struct {
		text string
		e    api.Errno
	}{
		{"proc p(o bool) int {\n" + lets(0, 63) + strings.Repeat("if o { }\n", 3500) + "}\n", api.OK},
		{"proc p(o bool) int {\n" + lets(0, 63) + strings.Repeat("if o { o = o; } else { o = o; }\n", 1000) + " return 1; }\n", api.OK},
		{helpers(63) + "helper g() int { return f0()" + strings.Repeat(" + f1()", 60) + ";" + strings.Repeat("raise f61() + f62();\n", 2000) + "}", api.OK},
		{chain(63, 63) + "helper g() int { " + strings.Repeat("raise f61() + f62();\n", 2000) + strings.Repeat("raise g();\n", 900) + "}", api.ErrRound},
	} {
		if _, e := types.Check(api.Module{}, read(t, x.text)); e != x.e {
			t.Fatalf("%.200s: %v", x.text, e)
		}
	}
}

// whole tells a thing with what lies in the spare room of its lists.
func whole(v reflect.Value) any {
	var l []any
	switch v.Kind() {
	case reflect.Struct:
		for i := range v.NumField() {
			l = append(l, whole(v.Field(i)))
		}
	case reflect.Slice:
		for i := range v.Cap() {
			l = append(l, whole(v.Slice(0, v.Cap()).Index(i)))
		}
		l = append(l, v.Len())
	default:
		return v.Interface()
	}
	return l
}

// roomy gives each list of a module room behind its end, with something in it.
func roomy(m *api.Module) {
	p := partsOf(m)
	m.Tables = append(m.Tables, api.Table{Name: "behind"})[:len(m.Tables)]
	m.Procs = append(m.Procs, api.Proc{Name: "behind"})[:len(m.Procs)]
	for _, x := range p.tables {
		x.Key, x.Val = append(x.Key, api.Column{Name: "behind"})[:len(x.Key)], append(x.Val, api.Column{Name: "behind"})[:len(x.Val)]
	}
	for _, x := range p.procs {
		x.Params = append(x.Params, api.Column{Name: "behind"})[:len(x.Params)]
	}
	for _, x := range p.stmts {
		x.Names = append(x.Names, "behind")[:len(x.Names)]
		x.Args, x.Vals = append(x.Args, api.Term{Name: "behind"})[:len(x.Args)], append(x.Vals, api.Term{Name: "behind"})[:len(x.Vals)]
	}
	for _, x := range p.lists {
		*x = append(*x, api.Stmt{Table: "behind"})[:len(*x)]
	}
}

func TestArgumentsStayAsTheyAre(t *testing.T) { // R3: nor what lies behind a list's end
	n := numbers(33)
	for i := range 1200 {
		old, m := pair(&n, 1+i%8)
		for range i % 2 {
			partsOf(&m).change(&n, partsOf(&old))
		}
		roomy(&old)
		roomy(&m)
		l := []api.Module{old, m}
		before := said(whole(reflect.ValueOf(l)))
		tryAll(t, old, m, namesOfProcs(m))
		if after := said(whole(reflect.ValueOf(l))); after != before {
			t.Fatalf("%.2000s, not %.2000s", after, before)
		}
	}
}

// lists are all lists within a thing, their spare room too, as where they begin and end.
func lists(v reflect.Value, tell func(from, to uintptr)) {
	switch v.Kind() {
	case reflect.Struct:
		for i := range v.NumField() {
			lists(v.Field(i), tell)
		}
	case reflect.Slice:
		if v.Cap() > 0 {
			tell(v.Pointer(), v.Pointer()+uintptr(v.Cap())*v.Type().Elem().Size())
		}
		for i := range v.Len() {
			lists(v.Index(i), tell)
		}
	}
}

// wantApart looks at the lists of some things, no two of which may share memory.
func wantApart(t *testing.T, l ...any) {
	t.Helper()
	type piece struct{ from, to uintptr }
	var all []piece
	for _, x := range l {
		lists(reflect.ValueOf(x), func(from, to uintptr) {
			for _, p := range all {
				if from < p.to && p.from < to {
					t.Fatal("shared memory")
				}
			}
			all = append(all, piece{from, to})
		})
	}
}

func TestAnswersShareNothing(t *testing.T) { // R3: with an argument, with one another, or within one
	n := numbers(34)
	for range 150 {
		old, m := pair(&n, 3)
		roomy(&old)
		roomy(&m)
		all, e := types.Join(old, m)
		again, e2 := types.Join(old, m)
		if e != api.OK || e2 != api.OK {
			t.Fatal(e, e2)
		}
		wantApart(t, old, m, all, again)
		alone, _ := types.Join(api.Module{}, old)
		behind, _ := types.Join(old, api.Module{})
		wantApart(t, old, alone, behind)
		for _, p := range all.Procs {
			l, _ := types.Locals(all, p.Name)
			l2, _ := types.Locals(all, p.Name)
			calls, _ := types.Calls(all, p.Name)
			p2, _ := types.Proc(all, p.Name)
			wantApart(t, all, l, l2, calls, p2)
		}
		for _, x := range all.Tables {
			x2, _ := types.Table(all, x.Name)
			x3, _ := types.Table(all, x.Name)
			wantApart(t, all, x2, x3)
		}
	}
	// Lists that one argument has twice.
	body := read(t, "proc p() int { if true { return -(1 + 2); } }").Procs[0].Body
	x := columns("a int, b bool")
	shared := module([]api.Table{{Name: "t", Key: x, Val: x}}, api.Proc{Name: "p", Params: x, Result: api.KInt, Body: body}, api.Proc{Name: "q", Params: x, Result: api.KInt, Body: body})
	table, _ := types.Table(shared, "t")
	proc, _ := types.Proc(shared, "p")
	wantApart(t, shared.Tables[0].Key, table, proc.Params)
	shared.Tables[0].Val = nil
	all, e := types.Join(api.Module{}, shared)
	if e != api.OK {
		t.Fatal(e)
	}
	wantApart(t, x, body, all)
}

func TestNilAndEmptyListsAreTheSame(t *testing.T) { // R3
	n := numbers(35)
	for i := range 600 {
		old, m := pair(&n, 1+i%8)
		for range i % 2 {
			partsOf(&m).change(&n, partsOf(&old))
		}
		full := []api.Module{cloned(old), cloned(m)}
		for i := range full {
			filled(&full[i])
		}
		names := append([]string{"nothing"}, namesOfProcs(m)...)
		if a, b := tryAll(t, old, m, names), tryAll(t, full[0], full[1], names); a != b {
			t.Fatalf("%s, not %s", b, a)
		}
	}
	none := api.Module{Tables: []api.Table{}, Procs: []api.Proc{}}
	wantCheck(t, none, none, 0, api.OK)
	wantCheck(t, none, api.Module{}, 0, api.OK)
	if kind, e := types.Kind(none, []api.Column{}, readTerm(t, "1")); kind != api.KInt || e != api.OK {
		t.Fatal(kind, e)
	}
}

// filled makes each nil list of a module an empty one.
func filled(m *api.Module) {
	m.Tables, m.Procs = append([]api.Table{}, m.Tables...), append([]api.Proc{}, m.Procs...)
	p := partsOf(m)
	for _, x := range p.terms {
		if x.Args == nil {
			x.Args = []api.Term{}
		}
	}
	for _, x := range p.stmts {
		if x.Args == nil {
			x.Args = []api.Term{}
		}
		if x.Vals == nil {
			x.Vals = []api.Term{}
		}
		x.Names = append([]string{}, x.Names...)
	}
	for _, x := range p.lists {
		if *x == nil {
			*x = []api.Stmt{}
		}
	}
	for _, x := range p.tables {
		x.Key, x.Val = append([]api.Column{}, x.Key...), append([]api.Column{}, x.Val...)
	}
	for _, x := range p.procs {
		x.Params = append([]api.Column{}, x.Params...)
	}
}

func TestSameModulesSameAnswers(t *testing.T) { // R4: whatever is done between, or beside it
	n := numbers(36)
	type both struct{ old, m api.Module }
	var l []both
	var first []string
	for i := range 200 {
		old, m := pair(&n, 1+i%8)
		for range i % 3 {
			partsOf(&m).change(&n, partsOf(&old))
		}
		l, first = append(l, both{old, m}), append(first, tryAll(t, old, m, namesOfProcs(m)))
	}
	var all sync.WaitGroup
	for range 4 {
		all.Add(1)
		go func() {
			defer all.Done()
			for i, x := range l {
				if s := tryAll(t, x.old, x.m, namesOfProcs(x.m)); s != first[i] {
					t.Errorf("%q, not %q", s, first[i])
				}
			}
		}()
	}
	all.Wait()
}
