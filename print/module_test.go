package print_test

import (
	"math"
	"strings"
	"testing"

	"keystone/api"
	"keystone/print"
)

func TestKind(t *testing.T) { // P14.1
	for kind := -10; kind < 20; kind++ {
		want := ""
		if kind > 0 && kind < 5 {
			want = strings.Fields("int bool bytes point")[kind-1]
		}
		if got := print.Kind(kind); got != want {
			t.Errorf("Kind(%d): %q", kind, got)
		}
	}
	if print.Kind(math.MinInt)+print.Kind(math.MaxInt) != "" {
		t.Error("Kind of the least or the greatest number")
	}
}

func wantTable(t *testing.T, x api.Table, text string) {
	t.Helper()
	s, e := print.Table(x)
	want(t, s, e, x, text)
	wantModule(t, api.Module{Tables: []api.Table{x}}, text)
}

func wantNoTable(t *testing.T, x api.Table) {
	t.Helper()
	s, e := print.Table(x)
	wantNone(t, s, e, x, api.ErrPrint)
	wantNoModule(t, api.Module{Tables: []api.Table{{Name: "u", Key: columns("a int")}, x}}, api.ErrPrint)
}

func wantProc(t *testing.T, x api.Proc, text string) {
	t.Helper()
	s, e := print.Proc(x)
	want(t, s, e, x, text)
	wantModule(t, api.Module{Procs: []api.Proc{x}}, text)
}

func wantNoProc(t *testing.T, x api.Proc) {
	t.Helper()
	s, e := print.Proc(x)
	wantNone(t, s, e, x, api.ErrPrint)
	wantNoModule(t, api.Module{Procs: []api.Proc{procOf(), x}}, api.ErrPrint)
}

func TestTables(t *testing.T) { // P14.1
	wantTable(t, api.Table{Name: "t", Key: columns("a int")}, "table t(a int;);\n")
	wantTable(t, api.Table{Name: "t", Key: columns("a int"), Val: columns("b int")}, "table t(a int; b int);\n")
	wantTable(t, api.Table{Name: "t", Key: columns("a int, b bool, c bytes, d point"), Val: columns("e point, f bytes, g bool, h int"), At: 9}, "table t(a int, b bool, c bytes, d point; e point, f bytes, g bool, h int);\n")
	wantTable(t, api.Table{Name: "t", Key: columns("a int, a int"), Val: columns("a int, t int")}, "table t(a int, a int; a int, t int);\n")
	many := columns(strings.Repeat("a int, ", 2*api.MaxColumns) + "b bool") // how many there may be is not asked here
	wantTable(t, api.Table{Name: "t", Key: many, Val: many}, "table t("+strings.Repeat("a int, ", 16)+"b bool; "+strings.Repeat("a int, ", 16)+"b bool);\n")
	for _, s := range []string{"lets", strings.Repeat("a", api.MaxName)} {
		wantTable(t, api.Table{Name: s, Key: []api.Column{{Name: s, Kind: api.KInt}}}, "table "+s+"("+s+" int;);\n")
	}
}

func TestTablesThatNoTextSays(t *testing.T) { // P14.1
	wantNoTable(t, api.Table{})
	wantNoTable(t, api.Table{Name: "t"})
	wantNoTable(t, api.Table{Name: "t", Val: columns("a int")})
	for _, s := range notNames() {
		wantNoTable(t, api.Table{Name: s, Key: columns("a int")})
	}
	for _, bad := range badColumns() {
		wantNoTable(t, api.Table{Name: "t", Key: []api.Column{bad}})
		wantNoTable(t, api.Table{Name: "t", Key: append(columns("a int"), bad)})
		wantNoTable(t, api.Table{Name: "t", Key: columns("a int"), Val: []api.Column{bad}})
		wantNoTable(t, api.Table{Name: "t", Key: columns("a int"), Val: append(columns("a int"), bad)})
	}
}

// badColumns are those that no text says.
func badColumns() []api.Column {
	var l []api.Column
	for _, s := range notNames() {
		l = append(l, api.Column{Name: s, Kind: api.KInt})
	}
	for _, kind := range badKinds() {
		l = append(l, api.Column{Name: "b", Kind: kind})
	}
	return l
}

func badKinds() []int { return []int{0, -1, 5, 99, math.MinInt, math.MaxInt} }

func TestProcs(t *testing.T) { // P14.1
	wantProc(t, procOf(), "proc p() int {\n}\n")
	wantProc(t, api.Proc{Name: "h", Helper: true, Result: api.KPoint, At: 3}, "helper h() point {\n}\n")
	wantProc(t, api.Proc{Name: "p", Params: columns("a int"), Result: api.KBool}, "proc p(a int) bool {\n}\n")
	wantProc(t, api.Proc{Name: "h", Helper: true, Params: columns("a int, b bool, a bytes, d point"), Result: api.KBytes, Body: stmts(aStmt(), aStmt())}, "helper h(a int, b bool, a bytes, d point) bytes {\n\treturn 1;\n\treturn 1;\n}\n")
	many := columns(strings.Repeat("a int, ", 2*api.MaxParams) + "b bool") // how many there may be is not asked here
	wantProc(t, api.Proc{Name: "p", Params: many, Result: api.KInt}, "proc p("+strings.Repeat("a int, ", 16)+"b bool) int {\n}\n")
	x := procOf(eachSort()...)
	var b strings.Builder
	for _, s := range eachSort() {
		text, e := print.Stmt(s, 1)
		if e != api.OK {
			t.Fatal(s, e)
		}
		b.WriteString(text)
	}
	wantProc(t, x, procHead+b.String()+procTail)
	x.Helper = true // what a helper may do is not asked here
	wantProc(t, x, "helper"+procHead[len("proc"):]+b.String()+procTail)
}

func TestProcsThatNoTextSays(t *testing.T) { // P14.1
	wantNoProc(t, api.Proc{})
	for _, s := range notNames() {
		wantNoProc(t, api.Proc{Name: s, Result: api.KInt})
	}
	for _, kind := range badKinds() {
		wantNoProc(t, api.Proc{Name: "p", Result: kind})
	}
	for _, bad := range badColumns() {
		wantNoProc(t, api.Proc{Name: "p", Params: []api.Column{bad}, Result: api.KInt})
		wantNoProc(t, api.Proc{Name: "p", Params: append(columns("a int"), bad), Result: api.KInt})
	}
	for _, bad := range []api.Stmt{{}, {Op: api.SReturn}, {Op: api.SLet, Names: names("in"), Args: terms(a)}} {
		wantNoProc(t, procOf(bad))
		wantNoProc(t, procOf(aStmt(), bad))
	}
}

func TestModules(t *testing.T) { // P14.1
	wantModule(t, api.Module{}, "")
	t1, t2 := api.Table{Name: "t", Key: columns("a int")}, api.Table{Name: "s", Key: columns("a bool"), Val: columns("b int")}
	p1, p2 := procOf(aStmt()), api.Proc{Name: "a", Helper: true, Result: api.KInt}
	const s1, s2 = "table t(a int;);\n", "table s(a bool; b int);\n"
	const r1, r2 = "proc p() int {\n\treturn 1;\n}\n", "helper a() int {\n}\n"
	wantModule(t, api.Module{Tables: []api.Table{t1, t2}, Procs: []api.Proc{p1, p2}}, s1+s2+r1+r2)
	wantModule(t, api.Module{Tables: []api.Table{t2, t1}, Procs: []api.Proc{p2, p1}}, s2+s1+r2+r1)
	wantModule(t, api.Module{Tables: []api.Table{t1, t1}, Procs: []api.Proc{p1, p1, p1}}, s1+s1+r1+r1+r1)
	t1.At, p1.At = 100, 50 // where they have stood says nothing
	wantModule(t, api.Module{Tables: []api.Table{t1}, Procs: []api.Proc{p1}}, s1+r1)
}
