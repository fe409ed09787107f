package print_test

import (
	"math"
	"reflect"
	"strings"
	"sync"
	"testing"
	"unsafe"

	"keystone/api"
	"keystone/print"
	"keystone/syntax"
)

// tryAll calls all that is there with a module and its parts, and looks at what stands beside an error.
func tryAll(t *testing.T, m api.Module, deep int) {
	t.Helper()
	look := func(s string, e api.Errno) {
		t.Helper()
		if e != api.OK && s != "" || e != api.OK && e != api.ErrPrint && e != api.ErrLong && e != api.ErrArg || len(s) > api.MaxText {
			t.Fatalf("%.300q, %v", s, e)
		}
	}
	look(print.Module(m))
	for _, x := range m.Tables {
		look(print.Table(x))
		for _, c := range x.Key {
			print.Kind(c.Kind)
		}
	}
	for _, x := range m.Procs {
		look(print.Proc(x))
		for _, s := range x.Body {
			look(print.Stmt(s, deep))
			for _, x := range append(append(terms(), s.Args...), s.Vals...) {
				look(print.Term(x))
			}
		}
	}
}

func TestNothingPanics(t *testing.T) { // R1: what may be, with changes that make anything of it
	n := numbers(41)
	for i := range 6000 {
		m := newMaker(&n, 1+i%30).module()
		for range n.below(4) {
			partsOf(&m).change(&n)
		}
		for range n.below(3) {
			spoil(&n, partsOf(&m))
		}
		tryAll(t, m, n.below(70)-3)
	}
	tryAll(t, api.Module{Tables: make([]api.Table, 3), Procs: make([]api.Proc, 3)}, 1)
	tryAll(t, api.Module{Procs: []api.Proc{{Body: make([]api.Stmt, 5)}}}, math.MinInt)
}

// spoil puts into a part what no text says.
func spoil(n *numbers, p *parts) bool {
	name := oneOf(n, notNames())
	kind := oneOf(n, badKinds())
	value := oneOf(n, []api.Value{{Kind: api.KPoint}, {Kind: api.KInt, Int: -1}, {Kind: 9}, {Int: 1}, {Point: complex(math.NaN(), math.Inf(1))}})
	switch i := n.below(5); {
	case i == 0 && len(p.tables) > 0:
		oneOf(n, p.tables).Name = name
	case i == 1 && len(p.procs) > 0:
		oneOf(n, p.procs).Result = kind
	case i == 2 && len(p.cols) > 0:
		oneOf(n, p.cols).Kind = kind
	case i == 3 && len(p.stmts) > 0:
		x := oneOf(n, p.stmts)
		x.Names = append(append([]string(nil), x.Names...), name)
	case i == 4 && len(p.terms) > 0:
		oneOf(n, p.terms).Val = value
	default:
		return false
	}
	return true
}

func TestSpoiltModules(t *testing.T) { // P14.1: one thing that no text says, wherever it stands
	n := numbers(42)
	spoilt := 0
	for i := range 5000 {
		m := newMaker(&n, 1+i%40).module()
		if spoil(&n, partsOf(&m)) {
			wantNoModule(t, m, api.ErrPrint)
			spoilt++
		}
	}
	if spoilt < 3000 {
		t.Error(spoilt)
	}
}

func TestThingsWithinOneAnother(t *testing.T) { // R1: as many as there may be
	const most = 1<<16 - 3
	for op := 0; op <= api.XIm+1; op++ {
		for place := range 2 {
			x := a
			for range most {
				args := terms(b, b)
				args[place] = x
				switch op {
				case api.XCall:
					x = call("f", args...)
				case api.XNeg, api.XNot, api.XLen, api.XRe, api.XIm:
					x = term(op, x)
				default:
					x = term(op, args...)
				}
			}
			wantTooDeep(t, x)
		}
	}
	for op := api.SLet; op <= api.SReturn; op++ {
		x, y := aStmt(), aStmt()
		for range most {
			x = api.Stmt{Op: op, Args: terms(a), Body: stmts(x)}
			y = api.Stmt{Op: op, Names: names("a"), Table: "t", Else: stmts(y)}
		}
		if s, e := print.Stmt(x, 1); s != "" || e != api.ErrPrint {
			t.Error(op, e)
		}
		if s, e := print.Stmt(y, 1); s != "" || e != api.ErrPrint {
			t.Error(op, e)
		}
	}
}

func wantTooDeep(t *testing.T, x api.Term) {
	t.Helper()
	if s, e := print.Term(x); s != "" || e != api.ErrPrint {
		t.Error(x.Op, e)
	}
}

func TestListsThatHaveThemselves(t *testing.T) { // R1
	for op := api.XCall; op <= api.XIm; op++ {
		for many := range 3 {
			l := make([]api.Term, many)
			for i := range l {
				l[i] = api.Term{Op: op, Args: l}
				if op == api.XCall {
					l[i].Name = "f"
				}
			}
			for _, x := range l {
				wantTooDeep(t, x)
			}
		}
	}
	l := make([]api.Stmt, 2)
	for i := range l {
		l[i] = api.Stmt{Op: api.SIf, Args: terms(a), Body: l, Else: l}
	}
	if s, e := print.Proc(procOf(l...)); s != "" || e != api.ErrPrint {
		t.Error(e)
	}
}

func TestGreatThings(t *testing.T) { // R1
	const many = 1 << 20
	args := make([]api.Term, many)
	for i := range args {
		args[i] = a
	}
	wide := api.Stmt{Op: api.SPut, Table: "t", Args: args, Vals: args}
	manyNames := make([]string, many)
	for i := range manyNames {
		manyNames[i] = "a"
	}
	body := make([]api.Stmt, many)
	for i := range body {
		body[i] = aStmt()
	}
	for _, x := range []api.Stmt{wide, {Op: api.SGet, Names: manyNames, Table: "t", Args: terms(a)}, {Op: api.SWhile, Args: terms(a), Body: body}} {
		if s, e := print.Stmt(x, 1); s != "" || e != api.ErrLong {
			t.Error(x.Op, e)
		}
	}
	args[many-1] = number(-1)
	if s, e := print.Stmt(wide, 1); s != "" || e != api.ErrPrint {
		t.Error(e)
	}
	long := strings.Repeat("a", 1<<22)
	for _, x := range []api.Term{variable(long), call(long), text(long), {Op: api.XNeg, Name: long, Args: terms(a)}} {
		if s, e := print.Term(x); s != "" || e != api.ErrPrint {
			t.Error(x.Op, e)
		}
	}
}

// whole tells a thing with what lies in the spare room of its lists.
func whole(v reflect.Value) any {
	var l []any
	switch v.Kind() {
	case reflect.Struct:
		for i := range v.NumField() {
			l = append(l, whole(v.Field(i)))
		}
	case reflect.Slice:
		for i := range v.Cap() {
			l = append(l, whole(v.Slice(0, v.Cap()).Index(i)))
		}
		l = append(l, v.Len())
	default:
		return v.Interface()
	}
	return l
}

func TestArgumentsStayAsTheyAre(t *testing.T) { // R3: nor what lies behind a list's end
	n := numbers(43)
	for i := range 1500 {
		m := newMaker(&n, i%60).module()
		before := said(whole(reflect.ValueOf(m)))
		tryAll(t, m, 1+n.below(64))
		if after := said(whole(reflect.ValueOf(m))); after != before {
			t.Fatalf("%.2000s, not %.2000s", after, before)
		}
	}
}

func TestAnswersShareNothingWithArguments(t *testing.T) { // R3
	bytes := []byte("abcdefgh")
	s := unsafe.String(&bytes[0], len(bytes))
	stmt := api.Stmt{Op: api.SGet, Names: []string{s}, Table: s, Args: terms(variable(s), call(s, text(s)))}
	table := api.Table{Name: s, Key: []api.Column{{Name: s, Kind: api.KInt}}}
	proc := api.Proc{Name: s, Params: table.Key, Result: api.KInt, Body: stmts(stmt)}
	t1, _ := print.Term(variable(s))
	t2, _ := print.Term(text(s))
	t3, _ := print.Stmt(stmt, 1)
	t4, _ := print.Table(table)
	t5, _ := print.Proc(proc)
	t6, _ := print.Module(api.Module{Tables: []api.Table{table}, Procs: []api.Proc{proc}})
	for i := range bytes {
		bytes[i] = '?'
	}
	const line = "\tget abcdefgh = abcdefgh(abcdefgh, abcdefgh(\"abcdefgh\"));\n"
	const tableLine, procLines = "table abcdefgh(abcdefgh int;);\n", "proc abcdefgh(abcdefgh int) int {\n" + line + "}\n"
	for i, got := range []string{t1, t2, t3, t4, t5, t6} {
		if want := []string{"abcdefgh", `"abcdefgh"`, line, tableLine, procLines, tableLine + procLines}[i]; got != want {
			t.Errorf("%d: %q, not %q", i, got, want)
		}
	}
}

func TestNilAndEmptyListsAreTheSame(t *testing.T) { // R3
	n := numbers(44)
	for i := range 1500 {
		m := newMaker(&n, i%40).module()
		s, e := print.Module(m)
		full := syntax.Strip(m)
		p := partsOf(&full)
		for _, x := range p.terms {
			if x.Args == nil {
				x.Args = []api.Term{}
			}
		}
		for _, x := range p.stmts {
			x.Names, x.Args, x.Vals = append([]string{}, x.Names...), append([]api.Term{}, x.Args...), append([]api.Term{}, x.Vals...)
			x.Body, x.Else = append([]api.Stmt{}, x.Body...), append([]api.Stmt{}, x.Else...)
		}
		for _, x := range p.tables {
			x.Key, x.Val = append([]api.Column{}, x.Key...), append([]api.Column{}, x.Val...)
		}
		for _, x := range p.procs {
			x.Params, x.Body = append([]api.Column{}, x.Params...), append([]api.Stmt{}, x.Body...)
		}
		if again, f := print.Module(full); again != s || e != f {
			t.Fatalf("%q, %v, not %q, %v", again, f, s, e)
		}
	}
}

func TestSameThingSameText(t *testing.T) { // R4: whatever is done between, or beside it
	n := numbers(45)
	var l []api.Module
	var first []string
	for i := range 300 {
		m := newMaker(&n, i%40).module()
		s, _ := print.Module(m)
		l, first = append(l, m), append(first, s)
	}
	var all sync.WaitGroup
	for range 4 {
		all.Add(1)
		go func() {
			defer all.Done()
			for i, m := range l {
				print.Term(term(api.XNeg))
				if s, _ := print.Module(m); s != first[i] {
					t.Errorf("%q, not %q", s, first[i])
				}
			}
		}()
	}
	all.Wait()
}
