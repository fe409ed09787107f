package types_test

import (
	"slices"
	"strings"
	"testing"

	"keystone/api"
	"keystone/print"
	"keystone/syntax"
	"keystone/types"
)

func TestJoin(t *testing.T) { // P15.2
	n := numbers(11)
	for i := range 3000 {
		old, m := pair(&n, 1+i%8)
		all, e := types.Join(old, m)
		if e != api.OK || said(all) != said(joined(old, m)) {
			t.Fatalf("%s, %v, not %s", said(all), e, said(joined(old, m)))
		}
		partsOf(&m).change(&n, partsOf(&old))
		f := modelCheck(old, m)
		all, e = types.Join(old, m)
		if e != f.why || e != api.OK && said(all) != said(api.Module{}) {
			t.Fatalf("%s\nbeside %s: %s, %v, not %v", shown(m), shown(old), said(all), e, f)
		}
	}
	all, e := types.Join(api.Module{}, api.Module{})
	if said(all) != said(api.Module{}) || e != api.OK {
		t.Error(said(all), e)
	}
	a, b := read(t, "proc q() int { del t(1); } table t(a int;);"), read(t, "  table u(a int;); proc p() int { del t(1); }")
	all, e = types.Join(a, b)
	if e != api.OK || len(all.Tables) != 2 || len(all.Procs) != 2 || all.Tables[0].At != 27 || all.Tables[1].At != 2 || all.Procs[0].Name != "q" || all.Procs[1].At != 19 || all.Procs[1].Body[0].At != 34 {
		t.Error(said(all), e)
	}
}

// wantLocals looks at what Locals answers, in a text as "a int, b bool".
func wantLocals(t *testing.T, m api.Module, proc, want string, e api.Errno) {
	t.Helper()
	l, got := types.Locals(m, proc)
	if said(l) != said(columns(want)) || got != e {
		t.Fatalf("%s: %s: %s, %v, not %q, %v", shown(m), proc, said(l), got, want, e)
	}
}

func TestLocals(t *testing.T) { // P15.2
	m := read(t, world+`
proc p(i int, o bool) int {
	let a = 1 + 2;
	if o { let b = point(1, 2); get c = t(1); if o { let d = o; } } else { let b = 1; while o { has c = t(b); } let d = "a"; }
	for e, f, g, h, j, k, l in wide() to () { let m = l; for n in none() to () { } let p = n0(); }
	get e, f, g, h = wide(1, o, "");
	get = none(true);
	a = 2; put t(1) = (""); del t(1);
	let t = text(o, ""); let r = yes(a); let q = num(); let s = spot(h, 1, h);
	return 1; let last = true; raise 1;
}
helper n0() int { let a = true; if a { let b = 1; } let b = a; return 1; }
proc bare() int { return 1; }
helper heads(x bool, y bytes, z point) point { return z; }
`)
	wantLocals(t, m, "p", "i int, o bool, a int, b point, c bytes, d bool, b int, c bool, d bytes, e int, f bool, g bytes, h int, j bool, k bytes, l point, m point, n bool, p int, e int, f bool, g bytes, h point, t bytes, r bool, q int, s point, last bool", api.OK)
	wantLocals(t, m, "n0", "a bool, b int, b bool", api.OK)
	wantLocals(t, m, "bare", "", api.OK)
	wantLocals(t, m, "heads", "x bool, y bytes, z point", api.OK)
	wantLocals(t, m, "spot", "a point, b int, c point", api.OK)
	for _, name := range []string{"", "t", "x", "P", "p ", "pp", "i", "nothing", strings.Repeat("p", 1000)} {
		wantLocals(t, m, name, "", api.ErrNone)
	}
	for _, bad := range notRight(t) {
		wantLocals(t, bad, "p", "", api.ErrArg)
		wantLocals(t, bad, "nothing", "", api.ErrArg)
	}
	wantLocals(t, api.Module{}, "p", "", api.ErrNone)
	wantLocals(t, read(t, "proc p() int { "+lets(0, 64)+" }"), "p", listed("v%d int", 0, 64), api.OK)
}

// notRight are modules, each with a procedure "p" or a helper of that name, that are not right.
func notRight(t *testing.T) []api.Module {
	l := []api.Module{
		read(t, "proc p() int { return x; }"), read(t, "proc p() int { } proc q() int { return true; }"), read(t, "proc p() int { } proc p() int { }"),
		read(t, "helper p() int { return p(); }"), read(t, "proc p() int { } table t(a point;);"), read(t, "proc p() int { } table p(a int;);"), read(t, "proc p() int { } "+tables(17)),
		{Procs: []api.Proc{{Name: "p"}}},
	}
	return append(l, module(nil, api.Proc{Name: "p", Result: api.KInt, Body: make([]api.Stmt, 1)}))
}

func TestLocalsAndCallsOfMadeModules(t *testing.T) { // P15.2
	n := numbers(12)
	for i := range 2000 {
		_, m := pair(&n, 1+i%8)
		all := m
		if i%2 == 0 {
			old, m := pair(&n, 1+i%8)
			all = joined(old, m)
		}
		for range i % 3 {
			partsOf(&all).change(&n, partsOf(&m))
		}
		for _, name := range append([]string{"", "nothing", "t"}, namesOfProcs(all)...) {
			l, e := types.Locals(all, name)
			want, wantE := modelLocals(all, name)
			if said(l) != said(want) || e != wantE {
				t.Fatalf("%s: %s: %s, %v, not %s, %v", shown(all), name, said(l), e, said(want), wantE)
			}
			calls, e := types.Calls(all, name)
			wantCalls, wantE := modelCalls(all, name)
			if said(calls) != said(wantCalls) || e != wantE {
				t.Fatalf("%s: %s: %q, %v, not %q, %v", shown(all), name, calls, e, wantCalls, wantE)
			}
		}
	}
}

func namesOfProcs(m api.Module) []string {
	return strings.Fields(namesOf(nil, m.Procs, nil))
}

func TestCalls(t *testing.T) { // P15.2
	m := read(t, world+`
helper a() int { return 1; } helper b() int { return 1; } helper c(x int, y int) int { return a(); } helper d() int { return c(b(), b()) + a(); }
proc p(o bool) int { return c(b(), a()) + b() + d(); }
proc q(o bool) int {
	if yes(1) { for x, y in t(d()) to (c(1, b())) { return num(); } } else { while text(o, "") == "" { let a = b(); } }
	put t(a()) = (text(yes(1), ""));
	return a();
}
proc r() int { let a = 1; return a; }
`)
	for name, want := range map[string]string{
		"p": "c b a d", "q": "yes d c b num text a", "r": "", "a": "", "c": "a", "d": "c b a", "num": "", "other": "",
	} {
		l, e := types.Calls(m, name)
		if said(l) != said(strings.Fields(want)) || e != api.OK {
			t.Fatalf("%s: %q, %v, not %q", name, l, e, want)
		}
	}
	for _, name := range []string{"", "t", "x", "nothing", "o", "yes "} {
		if l, e := types.Calls(m, name); len(l) > 0 || e != api.ErrNone {
			t.Fatal(name, l, e)
		}
	}
	for _, bad := range notRight(t) {
		for _, name := range []string{"p", "nothing"} {
			if l, e := types.Calls(bad, name); len(l) > 0 || e != api.ErrArg {
				t.Fatal(name, l, e)
			}
		}
	}
	if l, e := types.Calls(api.Module{}, "p"); len(l) > 0 || e != api.ErrNone {
		t.Fatal(l, e)
	}
}

func TestKind(t *testing.T) { // P15.2
	one := readTerm(t, "x + 1")
	for _, x := range []struct {
		locals string
		kind   int
		e      api.Errno
	}{
		{"x int", api.KInt, api.OK}, {"x bool, x int", api.KInt, api.OK}, {"x int, y bool, x bool", 0, api.ErrType}, {"x int, y bool", api.KInt, api.OK},
		{"", 0, api.ErrUnknown}, {"y int", 0, api.ErrUnknown}, {"x point", 0, api.ErrType},
		{"x int, y nothing", 0, api.ErrArg}, {"x nothing, x int", 0, api.ErrArg}, {"let int", 0, api.ErrArg}, {"x int, Y int", 0, api.ErrArg}, {" int", 0, api.ErrArg}, {"y-z int, x int", 0, api.ErrArg},
		{"x int, " + strings.Repeat("a", api.MaxName) + " int", api.KInt, api.OK}, {"x int, " + strings.Repeat("a", api.MaxName+1) + " int", 0, api.ErrArg},
		{listed("v%d int", 0, 1000) + ", x int", api.KInt, api.OK}, {listed("v%d int", 0, 1000), 0, api.ErrUnknown}, {same("x bool", 1000) + ", x int", api.KInt, api.OK},
		{"t int, num bool, other bool, x int", api.KInt, api.OK},
	} {
		if kind, e := types.Kind(read(t, world), columns(x.locals), one); kind != x.kind || e != x.e {
			t.Fatalf("%s: %d, %v", x.locals, kind, e)
		}
	}
	for _, kind := range []int{-1, 0, 5, 1 << 40} {
		if got, e := types.Kind(api.Module{}, []api.Column{{Name: "x", Kind: api.KInt}, {Name: "y", Kind: kind}}, one); got != 0 || e != api.ErrArg {
			t.Fatal(kind, got, e)
		}
	}
	for kind := api.KInt; kind <= api.KPoint; kind++ {
		if got, e := types.Kind(api.Module{}, []api.Column{{Name: "x", Kind: kind}}, one.Args[0]); got != kind || e != api.OK {
			t.Fatal(kind, got, e)
		}
	}
	for _, bad := range notRight(t) {
		for _, x := range []api.Term{one, {}} {
			if got, e := types.Kind(bad, columns("x int"), x); got != 0 || e != api.ErrArg {
				t.Fatal(got, e)
			}
		}
	}
}

func TestShapeOfATerm(t *testing.T) { // P15.2
	long := api.Term{Op: api.XCall, Name: "nothing"}
	for range api.MaxText / 4000 {
		long.Args = append(long.Args, api.Term{Op: api.XLit, Val: api.Value{Kind: api.KBytes, Bytes: strings.Repeat("a", 4096)}})
	}
	deep := readTerm(t, strings.Repeat("-", api.MaxDepth-1)+"x")
	if _, e := print.Term(deep); e != api.OK {
		t.Fatal(e)
	}
	for i, x := range []api.Term{
		{}, {Op: 21}, {Op: -1}, {Op: api.XVar}, {Op: api.XVar, Name: "let"}, {Op: api.XLit}, {Op: api.XLit, Val: api.Value{Kind: api.KInt, Int: -1}}, {Op: api.XLit, Val: api.Value{Kind: api.KPoint}},
		{Op: api.XNeg}, {Op: api.XAdd, Args: []api.Term{deep}}, {Op: api.XNeg, Args: []api.Term{deep}}, {Op: api.XNeg, Name: "a", Args: []api.Term{{Op: api.XVar, Name: "x"}}},
		{Op: api.XAdd, Args: []api.Term{{Op: api.XVar, Name: "nothing"}, {}}}, long,
	} {
		if _, e := print.Term(x); e == api.OK {
			t.Fatal(i)
		}
		if got, e := types.Kind(read(t, world), columns("x int"), x); got != 0 || e != api.ErrShape {
			t.Fatal(i, got, e)
		}
		if got, e := types.Kind(read(t, world), columns("x nothing"), x); got != 0 || e != api.ErrArg {
			t.Fatal(i, got, e)
		}
	}
	if got, e := types.Kind(read(t, world), columns("x int"), deep); got != api.KInt || e != api.OK {
		t.Fatal(got, e)
	}
}

func TestKindsOfMadeTerms(t *testing.T) { // P15.2
	n := numbers(13)
	count := map[api.Errno]int{}
	for i := range 6000 {
		old, m := pair(&n, 2)
		x := maker{n: &n, all: joined(old, m)}
		l := x.columns(n.below(6), kinds)
		x.k = knownOf(l)
		kind := oneOf(&n, kinds)
		y := x.term(kind, 4)
		if got, e := types.Kind(x.all, l, y); got != kind || e != api.OK {
			t.Fatalf("%s: %d, %v, not %d", said(y), got, e, kind)
		}
		in := module(nil, api.Proc{Body: []api.Stmt{{Args: []api.Term{y}}}})
		for range 1 + i%2 {
			p := partsOf(&in)
			p.changeTerm(&n, oneOf(&n, p.terms), *oneOf(&n, p.terms))
		}
		if len(l) > 0 && n.below(4) == 0 {
			l = append(l, api.Column{Name: oneOf(&n, l).Name, Kind: oneOf(&n, kinds)})
		}
		y = in.Procs[0].Body[0].Args[0]
		want, wantE := modelKind(x.all, l, y)
		if got, e := types.Kind(x.all, l, y); got != want || e != wantE {
			t.Fatalf("%s: %d, %v, not %d, %v", said(y), got, e, want, wantE)
		}
		count[wantE]++
	}
	if count[api.OK] < 1000 || count[api.ErrUnknown] < 100 || count[api.ErrType] < 200 || count[api.ErrCount] < 10 || count[api.ErrShape] < 1000 {
		t.Error(count)
	}
}

func TestTableAndProc(t *testing.T) { // P15.2: the first of a name, whatever the module is
	m := module([]api.Table{
		{Name: "t", At: 1, Key: columns("a int"), Val: columns("b bool, c point")}, {Name: "u", At: 2}, {Name: "t", At: 3}, {Name: "", At: 4, Key: columns("k point")}, {Name: "", At: 5},
	}, api.Proc{Name: "p", At: 1, Helper: true, Result: 9}, api.Proc{Name: "q", At: 2, Params: columns("a int"), Result: 1, Body: read(t, "proc p() int { if x { let a = -1; } else { put t(1) = (2 + 3); } }").Procs[0].Body}, api.Proc{Name: "p", At: 3}, api.Proc{Name: "t", At: 4}, api.Proc{Name: "LET", At: 5})
	for name, at := range map[string]int{"t": 1, "u": 2, "": 4, "p": 0, "T": 0, "tt": 0, "nothing": 0} {
		i := slices.IndexFunc(m.Tables, func(x api.Table) bool { return x.At == at })
		x, is := types.Table(m, name)
		if is != (at > 0) || is && said(x) != said(m.Tables[i]) || !is && said(x) != said(api.Table{}) {
			t.Errorf("%q: %s, %v", name, said(x), is)
		}
	}
	for name, at := range map[string]int{"p": 1, "q": 2, "t": 4, "LET": 5, "": 0, "u": 0, "P": 0, "nothing": 0} {
		i := slices.IndexFunc(m.Procs, func(x api.Proc) bool { return x.At == at })
		x, is := types.Proc(m, name)
		if is != (at > 0) || is && said(x) != said(m.Procs[i]) || !is && said(x) != said(api.Proc{}) {
			t.Errorf("%q: %s, %v", name, said(x), is)
		}
	}
	n := numbers(14)
	for i := range 500 {
		_, m := pair(&n, 1+i%8)
		for _, x := range m.Tables {
			if got, is := types.Table(m, x.Name); !is || said(got) != said(x) {
				t.Fatal(said(got), is)
			}
		}
		for _, x := range m.Procs {
			if got, is := types.Proc(m, x.Name); !is || said(got) != said(x) || !syntax.Same(module(nil, got), module(nil, x)) {
				t.Fatal(said(got), is)
			}
		}
	}
	if x, is := types.Table(api.Module{}, ""); is || said(x) != said(api.Table{}) {
		t.Error(said(x))
	}
	if x, is := types.Proc(api.Module{}, ""); is || said(x) != said(api.Proc{}) {
		t.Error(said(x))
	}
}
