package types_test

import (
	"fmt"
	"strings"
	"testing"

	"keystone/api"
	"keystone/print"
	"keystone/types"
)

func TestExamples(t *testing.T) { // P15.1
	wantText(t, "proc p(a int) int { ^let a = 1; return a; }", api.ErrTwice)
	wantText(t, "^helper f(x int) int { return g(x); } helper g(x int) int { return f(x); }", api.ErrRound)
	wantText(t, "proc p() int { return ^true; }", api.ErrType)
	wantText(t, "table t(a int;); helper f() int { ^del t(1); return 0; }", api.ErrHelper)
	wantText(t, "helper f() int { ^del t(1); return 0; }", api.ErrHelper)
}

func TestOldModulesThatAreNotRight(t *testing.T) { // P15.1
	const right = "table t(a int;); proc p() int { return 1; }"
	for _, old := range []string{
		"proc q() int { return x; }",
		"table s(a point;);",
		"table s(a int;); table s(a int;);",
		"helper f() int { return f(); }",
		"proc q() int { return true; }",
	} {
		_, e := types.Check(api.Module{}, read(t, old))
		if e == api.OK {
			t.Fatal(old)
		}
		for _, m := range []string{"", right, old, "proc q() int { return 1 + true; }"} {
			wantTexts(t, old, m, api.ErrArg)
		}
		bad := api.Module{Procs: make([]api.Proc, 1)} // which no text says
		wantCheck(t, read(t, old), bad, 0, api.ErrArg)
		wantCheck(t, bad, read(t, right), 0, api.ErrArg)
		wantCheck(t, api.Module{Tables: make([]api.Table, 1)}, api.Module{}, 0, api.ErrArg)
		if e := errorOf(t, right, old); e != errorOf(t, "", old) { // what is wrong with it alone is wrong beside another one, too
			t.Fatal(old, e)
		}
	}
	wantTexts(t, right, "", api.OK)
	wantTexts(t, "", "", api.OK)
	// What an old module needs of another one it does not have.
	wantTexts(t, "proc q() int { return f(); }", "helper f() int { return 1; }", api.ErrArg)
	wantTexts(t, "proc q() int { del t(1); }", "table t(a int;);", api.ErrArg)
}

// errorOf is an error that Check tells; its place is one that is marked in no text, and held against 0 then.
func errorOf(t *testing.T, old, m string) api.Errno {
	t.Helper()
	x := read(t, m)
	for _, at := range partsOf(&x).places() {
		*at = 0
	}
	at, e := types.Check(read(t, old), x)
	if at != 0 || e == api.OK {
		t.Fatal(m, at, e)
	}
	wantCheck(t, read(t, old), x, 0, e)
	for _, at := range partsOf(&x).places() {
		*at = 77
	}
	wantCheck(t, read(t, old), x, 77, e)
	return e
}

func TestShape(t *testing.T) { // P15.1: what print.Module refuses, whatever else is wrong
	wrong := read(t, "table t(a point;); table t(a int;); proc p() int { return x; }")
	for i, spoil := range []func(m *api.Module){
		func(m *api.Module) { m.Tables[1].Name = "Let" },
		func(m *api.Module) { m.Tables[0].Key = nil },
		func(m *api.Module) { m.Tables[0].Key[0].Kind = api.KNone },
		func(m *api.Module) { m.Procs[0].Result = 5 },
		func(m *api.Module) { m.Procs[0].Body[0].Op = 0 },
		func(m *api.Module) { m.Procs[0].Body[0].Table = "t" },
		func(m *api.Module) { m.Procs[0].Body[0].Args = nil },
		func(m *api.Module) { m.Procs[0].Body[0].Args[0].Val.Kind = api.KInt },
		func(m *api.Module) {
			m.Procs[0].Body[0].Args[0] = api.Term{Op: api.XLit, Val: api.Value{Kind: api.KInt, Int: -1}}
		},
		func(m *api.Module) {
			for range api.MaxDepth {
				m.Procs[0].Body = []api.Stmt{{Op: api.SWhile, Args: m.Procs[0].Body[0].Args, Body: m.Procs[0].Body}}
			}
		},
		func(m *api.Module) {
			for range api.MaxText / 10 {
				m.Procs[0].Body = append(m.Procs[0].Body, m.Procs[0].Body[0]) // each of eleven bytes
			}
		},
	} {
		x := cloned(wrong)
		spoil(&x)
		for _, at := range partsOf(&x).places() {
			*at = 9
		}
		if _, e := print.Module(x); e == api.OK {
			t.Fatal(i, shown(x))
		}
		wantCheck(t, api.Module{}, x, 0, api.ErrShape)
		wantCheck(t, read(t, world), x, 0, api.ErrShape)
		wantCheck(t, wrong, x, 0, api.ErrArg)
		wantCheck(t, x, wrong, 0, api.ErrArg)
		wantCheck(t, x, api.Module{}, 0, api.ErrArg)
	}
}

func TestTheLongestModule(t *testing.T) { // P15.1: as long as a text may be, and one byte more
	const head, line, tail = "proc p() int {\n", "\treturn 1;\n", "}\n" // the longest one ends by as many digits as are needed
	left := api.MaxText - len(head) - len(tail)
	text := head + strings.Repeat(line, left/len(line)-2) + "\treturn 1 + 1;\n" + tail
	m := read(t, text)
	last := &m.Procs[0].Body[len(m.Procs[0].Body)-1].Args[0].Args[1]
	room := api.MaxText - len(text)
	if room < 1 || room > 18 {
		t.Fatal(room)
	}
	for range room {
		last.Val.Int = last.Val.Int*10 + 1 // one digit more
	}
	s, e := print.Module(m)
	if len(s) != api.MaxText || e != api.OK {
		t.Fatal(len(s), e)
	}
	wantCheck(t, api.Module{}, m, 0, api.OK)
	wantCheck(t, read(t, "table t(a int;);"), m, 0, api.OK)
	last.Val.Int = last.Val.Int*10 + 1
	wantCheck(t, api.Module{}, m, 0, api.ErrShape)
	wantCheck(t, m, api.Module{}, 0, api.ErrArg)
}

func TestTables(t *testing.T) { // P15.1, the first step
	wantText(t, "table t(a int;); table u(a int;);", api.OK)
	wantText(t, "table t(a int;); ^table t(a int;);", api.ErrTwice)
	wantText(t, "table t(a int;); table u(a int;); ^table t(b bool;);", api.ErrTwice)
	wantTexts(t, "table t(a int;);", "table u(a int;); ^table t(a int;);", api.ErrTwice)
	wantTexts(t, "proc t() int {}", "^table t(a int;);", api.ErrTwice)
	wantTexts(t, "helper t() int {}", "^table t(a int;);", api.ErrTwice)
	wantText(t, "table t(t int; u int);", api.OK)

	wantText(t, "table t("+listed("k%d int", 0, 8)+"; "+listed("v%d int", 0, 8)+");", api.OK)
	wantText(t, "table u(a int;); ^table t("+listed("k%d int", 0, 9)+";);", api.ErrMany)
	wantText(t, "table u(a int;); ^table t(a int; "+listed("v%d int", 0, 9)+");", api.ErrMany)
	wantText(t, "table u(a int;); ^table t(a int, a int;);", api.ErrTwice)
	wantText(t, "table u(a int;); ^table t(a int, b int, a bool;);", api.ErrTwice)
	wantText(t, "table u(a int;); ^table t(a int; a bool);", api.ErrTwice)
	wantText(t, "table u(a int;); ^table t(a int; b bool, b bool);", api.ErrTwice)
	wantText(t, "^table t(a point;);", api.ErrType)
	wantText(t, "^table t(a int, b bool, c bytes, d point;);", api.ErrType)
	wantText(t, "table t(a int, b bool, c bytes; d point);", api.OK)
}

func TestOrderOfATable(t *testing.T) { // P15.1: what is named first
	const twice = "table t(a int;); "
	manyTwicePoint := "(" + same("k point", 9) + ";);" // many, of one name, and points
	twicePoint := "(a point, a int;);"
	wantText(t, twice+"^table t"+manyTwicePoint, api.ErrTwice)
	wantText(t, twice+"^table u"+manyTwicePoint, api.ErrMany)
	wantText(t, twice+"^table u"+twicePoint, api.ErrTwice)
	wantText(t, twice+"^table u(a point;); table t"+manyTwicePoint, api.ErrType) // table by table
	wantTexts(t, tables(16), "^table t3"+manyTwicePoint, api.ErrMany)
	x := read(t, "table t"+manyTwicePoint)
	if len(x.Tables[0].Key) != 9 || x.Tables[0].Key[8] != (api.Column{Name: "k", Kind: api.KPoint}) {
		t.Fatal(said(x))
	}
}

// tables are so many, t0 and so on.
func tables(many int) string {
	return strings.ReplaceAll(listed("table t%d(a int;);", 0, many), ", ", "\n")
}

func TestManyTables(t *testing.T) { // P15.1
	wantText(t, tables(16), api.OK)
	wantText(t, tables(16)+" ^table x(a int;);", api.ErrMany)
	wantText(t, tables(16)+" ^table x(a int;); table y(a int;);", api.ErrMany)
	wantTexts(t, tables(16), "", api.OK)
	wantTexts(t, tables(16), "^table x(a int;);", api.ErrMany)
	wantTexts(t, tables(15), "table x(a int;); ^table y(a int;);", api.ErrMany)
	wantTexts(t, tables(15), "table x(a int;);", api.OK)
	wantTexts(t, tables(1), strings.ReplaceAll(tables(15), " t", " x")+"^table y(a int;);", api.ErrMany)
	wantTexts(t, tables(16), "proc p() int {}", api.OK)
	wantTexts(t, tables(17), "", api.ErrArg)
}

func TestHeads(t *testing.T) { // P15.1, the second step
	wantText(t, "proc p() int {} helper q() int {}", api.OK)
	wantText(t, "proc p() int {} ^proc p() int {}", api.ErrTwice)
	wantText(t, "helper p() int {} ^proc p() int {}", api.ErrTwice)
	wantText(t, "helper p() int {} proc q() int {} ^helper p(a int) bool {}", api.ErrTwice)
	wantText(t, "table p(a int;); ^proc p() int {}", api.ErrTwice)
	wantText(t, "^proc p() int {} table p(a int;);", api.ErrTwice)
	wantTexts(t, "table p(a int;);", "table q(a int;); ^helper p() int {}", api.ErrTwice)
	wantTexts(t, "proc p() int {}", "proc q() int {} ^helper p() int {}", api.ErrTwice)
	wantText(t, "proc p(p int) int {}", api.OK)

	wantText(t, "proc p("+listed("a%d int", 0, 8)+") int {}", api.OK)
	wantText(t, "proc q() int {} ^proc p("+listed("a%d int", 0, 9)+") int {}", api.ErrMany)
	wantText(t, "proc q() int {} ^helper p("+listed("a%d point", 0, 9)+") int {}", api.ErrMany)
	wantText(t, "proc q() int {} ^proc p(a int, a int) int {}", api.ErrTwice)
	wantText(t, "proc q() int {} ^helper p(a int, b int, c int, b point) int {}", api.ErrTwice)
}

// helpers are so many, f0 and so on.
func helpers(many int) string {
	return strings.ReplaceAll(listed("helper f%d() int {}", 0, many), ", ", " ")
}

func TestManyProcedures(t *testing.T) { // P15.1
	wantText(t, helpers(64), api.OK)
	wantText(t, helpers(64)+" ^proc x() int {}", api.ErrMany)
	wantText(t, helpers(64)+" ^helper x() int {} proc y() int {}", api.ErrMany)
	wantTexts(t, helpers(64), "^proc x() int {}", api.ErrMany)
	wantTexts(t, helpers(64), "table x(a int;);", api.OK)
	wantTexts(t, helpers(63), "proc x() int {} ^proc y() int {}", api.ErrMany)
	wantTexts(t, helpers(63), "proc x() int {}", api.OK)
	wantTexts(t, helpers(65), "", api.ErrArg)
}

func TestOrderOfAHead(t *testing.T) { // P15.1: what is named first
	manyTwice := "(" + same("a int", 9) + ") int {}"
	wantText(t, "proc p() int {} ^proc p"+manyTwice, api.ErrTwice)
	wantText(t, "proc p() int {} ^proc q"+manyTwice, api.ErrMany)
	wantText(t, "proc p() int {} ^proc q(a int, a int) int {} proc p"+manyTwice, api.ErrTwice) // procedure by procedure
	wantTexts(t, helpers(64), "^proc f3"+manyTwice, api.ErrMany)
	x := read(t, "proc p"+manyTwice)
	if len(x.Procs[0].Params) != 9 || x.Procs[0].Params[8] != (api.Column{Name: "a", Kind: api.KInt}) {
		t.Fatal(said(x))
	}
}

func TestOrderOfSteps(t *testing.T) { // P15.1: all tables, all heads, all rounds, and then all statements
	const (
		bad    = "proc bad() int { return ^x; }"
		round  = "^helper f() int { return f(); }"
		head   = "^proc h(a int, a int) int { return 1; }"
		head2  = "^helper h(a int, a int) int { return h(x); }"
		tabled = "^table t(a point;);"
	)
	unmarked := func(text string) string { return strings.ReplaceAll(text, "^", "") }
	wantText(t, bad, api.ErrUnknown)
	wantText(t, unmarked(bad)+round, api.ErrRound)
	wantText(t, unmarked(bad)+unmarked(round)+head, api.ErrTwice)
	wantText(t, unmarked(bad)+unmarked(round)+head2, api.ErrTwice)
	wantText(t, unmarked(bad)+unmarked(round)+unmarked(head)+tabled, api.ErrType)
	wantText(t, tabled+unmarked(head)+unmarked(round)+unmarked(bad), api.ErrType)
}

func TestRounds(t *testing.T) { // P15.1, the third step
	wantText(t, "helper g() int { return 1; } ^helper f() int { return f(); }", api.ErrRound)
	wantText(t, "helper g() int { return f(); } ^helper f() int { return f(); }", api.ErrRound) // g calls itself by no way
	wantText(t, "helper g() int { return f(); } ^helper f() int { return h(); } helper h() int { return f(); }", api.ErrRound)
	wantText(t, "helper f() int { return g() + g(); } helper g() int { return h(); } helper h() int { return 1; }", api.OK)
	wantText(t, "helper f() int { return g() + h(); } helper g() int { return h(); } helper h() int { return 1; }", api.OK)
	wantText(t, "proc p() int { return ^p(); }", api.ErrHelper)                                // which is no helper
	wantText(t, "proc p() int { return f(); } helper f() int { return ^p(); }", api.ErrHelper) // nor is p a helper that is called
	wantTexts(t, "helper f() int { return 1; }", "helper g() int { return f(); }", api.OK)
	wantTexts(t, "helper f() int { return 1; }", "helper g() int { return f(); } ^helper h() int { return g() + h(); }", api.ErrRound)
	wantText(t, "helper f() int { return ^nothing(); }", api.ErrUnknown)
}

func TestPlacesOfCalls(t *testing.T) { // P15.1: a call is one wherever it stands, of as many terms as there are, whatever else is wrong with it
	for _, body := range []string{
		"let a = f();", "a = f();", "if f() { }", "if x { return f(); }", "if x { } else { return f(); }", "while f() { }", "while x { raise f(); }",
		"get a = t(f());", "has a = t(1, f());", "put t(f()) = (1);", "put t(1) = (1, f());", "add t(1) = (f());", "change t(1) = (f());", "del t(f());",
		"for a in t(f()) to () { }", "for a in t() to (f()) { }", "for a in t() to () { return f(); }",
		"raise f();", "return f();", "return -f();", "return 1 + f();", "return f() * 1;", "return g(f());", "return g(1, f());", "return nothing(f());",
		"return p(f());", "return len(f());", "return re(im(f()));", "return point(1, f());", "return !f() || f(1, 2);",
		"if x { if x { } else { while x { let a = 1 + (2 * (3 - f())); } } }", "return 1; return f();",
	} {
		wantText(t, "proc p() int { return 1; } helper g(a int) int { return 1; } ^helper f() int { "+body+" }", api.ErrRound)
		wantText(t, "proc p() int { return 1; } ^helper g() int { return f(); } helper f() int { "+strings.ReplaceAll(body, "f(", "g(")+" }", api.ErrRound)
		wantTexts(t, "proc p() int { return 1; }", "^helper f() int { "+body+" }", api.ErrRound)
	}
}

// chain are so many helpers, each of which calls the next one, in an order that begins in the middle; the last one calls one of them, or none.
func chain(many, back int) string {
	var l []string
	for i := range many {
		next := "1"
		if i < many-1 {
			next = fmt.Sprintf("f%d()", i+1)
		} else if back < many {
			next = fmt.Sprintf("f%d()", back)
		}
		l = append(l, fmt.Sprintf("helper f%d() int { return %s; }", i, next))
	}
	return strings.Join(append(l[many/2:], l[:many/2]...), "\n")
}

func TestLongRounds(t *testing.T) { // P15.1
	for many := 1; many <= api.MaxProcs; many++ {
		wantText(t, chain(many, many), api.OK)
		for back := range many {
			text := chain(many, back)
			first := strings.Index(text, fmt.Sprintf("helper f%d()", max(back, many/2)))
			wantCheck(t, api.Module{}, read(t, text), first, api.ErrRound)
		}
	}
}

func TestGraphsOfCalls(t *testing.T) { // P15.1: helpers that call one another in any way
	n := numbers(2)
	count := map[api.Errno]int{}
	for range 6000 {
		many := 1 + n.below(8)
		dense := 1 + n.below(12)
		var m api.Module
		for i := range many {
			p := api.Proc{Name: fmt.Sprintf("f%d", i), Helper: n.below(8) > 0, Result: api.KInt}
			for j := range many {
				if n.below(dense) == 0 && (i < j || n.below(3) == 0) {
					p.Body = append(p.Body, api.Stmt{Op: api.SReturn, Args: []api.Term{{Op: api.XCall, Name: fmt.Sprintf("f%d", j)}}})
				}
			}
			m.Procs = append(m.Procs, p)
		}
		shuffled(&n, m.Procs)
		scatter(&n, &m)
		f := modelCheck(api.Module{}, m)
		wantCheck(t, api.Module{}, m, f.at, f.why)
		count[f.why]++
	}
	if count[api.OK] < 1000 || count[api.ErrRound] < 1000 || count[api.ErrHelper] < 300 {
		t.Error(count)
	}
}

// wantModel holds Check of two modules against the model.
func wantModel(t *testing.T, old, m api.Module) api.Errno {
	t.Helper()
	f := modelCheck(old, m)
	at, e := types.Check(old, m)
	if at != f.at || e != f.why {
		t.Fatalf("%s\nbeside %s: %d, %v, not %+v", shown(m), shown(old), at, e, f)
	}
	return e
}

func TestMadeModules(t *testing.T) { // P15.1: what is right, and what comes of it by changes
	n := numbers(3)
	count := map[api.Errno]int{}
	for i := range 12000 {
		old, m := pair(&n, 1+i%8)
		wantCheck(t, api.Module{}, old, 0, api.OK)
		wantCheck(t, old, m, 0, api.OK)
		wantModel(t, old, m)
		for range 1 + n.below(3) {
			partsOf(&m).change(&n, partsOf(&old))
			count[wantModel(t, old, m)]++
		}
		wantModel(t, api.Module{}, m)
		wantModel(t, m, old)
	}
	for _, e := range []api.Errno{api.OK, api.ErrTwice, api.ErrUnknown, api.ErrType, api.ErrCount, api.ErrHelper, api.ErrShape} {
		if count[e] < 300 {
			t.Error(count)
		}
	}
}
