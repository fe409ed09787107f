package print_test

import (
	"strings"
	"testing"

	"keystone/api"
	"keystone/print"
)

// filled is a term whose text has so many bytes (some tens at least).
func filled(size int) api.Term {
	x := call("f")
	left := size - len("f()")
	for left > 0 {
		part := min(left, api.MaxBytes/2)
		if left-part < len(`, ""`) {
			part = left // no less can stand behind it
		}
		s := `""`
		if len(x.Args) > 0 {
			s = `, ""`
		}
		x.Args = append(x.Args, text(strings.Repeat("a", part-len(s))))
		left -= part
	}
	return x
}

func TestLongTerms(t *testing.T) { // P14.1
	wantTerm(t, filled(10), `f("aaaaa")`)
	s, e := print.Term(filled(api.MaxText))
	if len(s) != api.MaxText || e != api.OK {
		t.Error(len(s), e)
	}
	want(t, s, e, "the longest one", model{}.term(filled(api.MaxText)))
	for _, size := range []int{api.MaxText + 1, api.MaxText + 2, api.MaxText + 5000, 10 * api.MaxText} {
		wantNoTerm(t, filled(size), api.ErrLong)
	}
	sum := term(api.XAdd, filled(api.MaxText/2), filled(api.MaxText/2-3))
	s, e = print.Term(sum)
	want(t, s, e, "a sum", model{}.term(sum))
	wantNoTerm(t, term(api.XNeg, sum), api.ErrLong) // for the parentheses, too
	wantNoTerm(t, term(api.XNeg, filled(api.MaxText)), api.ErrLong)
}

func TestLongStatements(t *testing.T) { // P14.1
	for _, deep := range []int{1, 3, 62} {
		rest := deep + len("raise ;\n") // what stands around the term
		x := api.Stmt{Op: api.SRaise, Args: terms(filled(api.MaxText - rest))}
		s, e := print.Stmt(x, deep)
		want(t, s, e, "the longest one", model{}.stmt(x, deep))
		if len(s) != api.MaxText {
			t.Error(len(s))
		}
		x.Args = terms(filled(api.MaxText - rest + 1))
		s, e = print.Stmt(x, deep)
		wantNone(t, s, e, deep, api.ErrLong)
	}
	rest := 2*len("\t\traise ;\n") + len("\tif a {\n\t} else {\n\t}\n")
	x := api.Stmt{Op: api.SRaise, Args: terms(filled(1000))}
	y := api.Stmt{Op: api.SIf, Args: terms(a), Body: stmts(x), Else: stmts(api.Stmt{Op: api.SRaise, Args: terms(filled(api.MaxText - rest - 1000))})}
	s, e := print.Stmt(y, 1)
	want(t, s, e, "the longest one", model{}.stmt(y, 1))
	s, e = print.Stmt(y, 2)
	wantNone(t, s, e, "one byte more a line", api.ErrLong)
}

// named is a column whose text has so many bytes, at most 36.
func named(size int) api.Column {
	return api.Column{Name: strings.Repeat("n", size-len(" int")), Kind: api.KInt}
}

// wide are columns whose text has so many bytes.
func wide(size int) []api.Column {
	l := []api.Column{named(10)}
	left := size - 10
	for left > 0 {
		part := min(left, 30)
		if left-part < 10 && left > 30 {
			part = left - 10
		}
		l = append(l, named(part-len(", ")))
		left -= part
	}
	return l
}

func TestLongTables(t *testing.T) { // P14.1
	const rest = len("table t(;);\n")
	for _, key := range []int{10, 1000, api.MaxText - rest} {
		x := api.Table{Name: "t", Key: wide(key)}
		if left := api.MaxText - rest - key; left > 0 {
			x.Val = wide(left - len(" "))
		}
		s, e := print.Table(x)
		want(t, s, e, "the longest one", model{}.module(api.Module{Tables: []api.Table{x}}))
		if len(s) != api.MaxText {
			t.Error(len(s))
		}
		x.Name = "tt"
		s, e = print.Table(x)
		wantNone(t, s, e, key, api.ErrLong)
	}
}

func TestLongProcsAndModules(t *testing.T) { // P14.1
	const rest = len(procHead + "\treturn ;\n" + procTail)
	p := procOf(api.Stmt{Op: api.SReturn, Args: terms(filled(api.MaxText - rest))})
	s, e := print.Proc(p)
	want(t, s, e, "the longest one", model{}.module(api.Module{Procs: []api.Proc{p}}))
	if len(s) != api.MaxText {
		t.Error(len(s))
	}
	wantModule(t, api.Module{Procs: []api.Proc{p}}, s)
	p.Name = "pp"
	s, e = print.Proc(p)
	wantNone(t, s, e, "a byte more", api.ErrLong)
	wantNoModule(t, api.Module{Procs: []api.Proc{p}}, api.ErrLong)

	half := procOf(api.Stmt{Op: api.SReturn, Args: terms(filled(api.MaxText/2 - rest))})
	twice := api.Module{Procs: []api.Proc{half, half}}
	wantModule(t, twice, model{}.module(twice))
	twice.Tables = []api.Table{{Name: "t", Key: columns("a int")}} // all together
	wantNoModule(t, twice, api.ErrLong)
	half.Params = columns("a int")
	wantNoModule(t, api.Module{Procs: []api.Proc{half, half}}, api.ErrLong)
	many := make([]api.Table, 10000)
	for i := range many {
		many[i] = api.Table{Name: "t", Key: columns("a int")}
	}
	wantNoModule(t, api.Module{Tables: many}, api.ErrLong)
}

func TestWhatNoTextSaysComesFirst(t *testing.T) { // P14.1: ahead of ErrLong, wherever it stands
	for _, bad := range []api.Term{{}, number(-1), variable("put"), term(api.XAdd, a), grown(64, func(x api.Term, i int) api.Term { return term(api.XNeg, x) })} {
		for _, size := range []int{api.MaxText, 3 * api.MaxText} {
			x := call("g", filled(size), bad)
			wantNoTerm(t, x, api.ErrPrint)
			wantNoTerm(t, call("g", bad, filled(size)), api.ErrPrint)
			wantNoTerm(t, term(api.XLess, filled(size), bad), api.ErrPrint)
			wantNoStmt(t, api.Stmt{Op: api.SRaise, Args: terms(x)}, 1, api.ErrPrint)
			long := api.Stmt{Op: api.SRaise, Args: terms(filled(size))}
			wantNoStmt(t, api.Stmt{Op: api.SIf, Args: terms(a), Body: stmts(long), Else: stmts(aStmt(), api.Stmt{Op: api.SReturn, Args: terms(bad)})}, 1, api.ErrPrint)
			wantNoModule(t, api.Module{Procs: []api.Proc{procOf(long), procOf(aStmt()), procOf(api.Stmt{Op: api.SReturn, Args: terms(bad)})}}, api.ErrPrint)
		}
	}
	long := api.Table{Name: "t", Key: wide(2 * api.MaxText)}
	wantNoModule(t, api.Module{Tables: []api.Table{long}}, api.ErrLong)
	wantNoModule(t, api.Module{Tables: []api.Table{long, {Name: "t"}}}, api.ErrPrint)
	wantNoModule(t, api.Module{Tables: []api.Table{long}, Procs: []api.Proc{{Name: "p"}}}, api.ErrPrint)
	long.Val = []api.Column{{Name: "v"}}
	s, e := print.Table(long)
	wantNone(t, s, e, "a column of no kind", api.ErrPrint)
	p := api.Proc{Name: "p", Params: wide(2 * api.MaxText), Result: 5}
	s, e = print.Proc(p)
	wantNone(t, s, e, "no such result", api.ErrPrint)
	p.Result = api.KInt
	s, e = print.Proc(p)
	wantNone(t, s, e, "too long", api.ErrLong)
	deep := around(aStmt(), api.MaxDepth)
	p.Body = stmts(deep)
	s, e = print.Proc(p)
	wantNone(t, s, e, "too deep", api.ErrPrint)
}
