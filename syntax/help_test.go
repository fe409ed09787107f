package syntax_test

import (
	"fmt"
	"slices"
	"strings"
	"testing"

	"keystone/api"
	"keystone/syntax"
)

// numbers tells one number behind the other, always the same ones.
type numbers uint64

func (n *numbers) below(most int) int {
	*n = *n*6364136223846793005 + 1442695040888963407
	return int(uint64(*n)>>33) % most
}

// oneOf is one of some things.
func oneOf[T any](n *numbers, l []T) T {
	return l[n.below(len(l))]
}

func number(n int64, at int) api.Term {
	return api.Term{Op: api.XLit, Val: api.Value{Kind: api.KInt, Int: n}, At: at}
}

func truth(yes bool, at int) api.Term {
	return api.Term{Op: api.XLit, Val: api.Value{Kind: api.KBool, Yes: yes}, At: at}
}

func text(s string, at int) api.Term {
	return api.Term{Op: api.XLit, Val: api.Value{Kind: api.KBytes, Bytes: s}, At: at}
}

func variable(name string, at int) api.Term {
	return api.Term{Op: api.XVar, Name: name, At: at}
}

func call(name string, at int, args ...api.Term) api.Term {
	return api.Term{Op: api.XCall, Name: name, Args: args, At: at}
}

func term(op, at int, args ...api.Term) api.Term {
	return api.Term{Op: op, Args: args, At: at}
}

func terms(l ...api.Term) []api.Term { return l }

func names(s string) []string { return strings.Fields(s) }

func column(name string, kind int) api.Column { return api.Column{Name: name, Kind: kind} }

// procHead is what stands ahead of the statements of a text that says but one procedure, whose end is procTail.
const (
	procHead = "proc p() int {"
	procTail = "}"
)

// inProc is a module of one procedure with some statements.
func inProc(body ...api.Stmt) api.Module {
	return api.Module{Procs: []api.Proc{{Name: "p", Result: api.KInt, Body: body}}}
}

// said tells all of a thing, places too; nil and empty lists alike.
func said(x any) string { return fmt.Sprintf("%+v", x) }

// wantModule looks at what Parse makes of a text, places too.
func wantModule(t *testing.T, s string, want api.Module) {
	t.Helper()
	if m, at, e := syntax.Parse(s); at != 0 || e != api.OK || said(m) != said(want) {
		t.Fatalf("Parse(%.300q): %.2000v, %d, %v, not %.2000v", s, said(m), at, e, said(want))
	}
}

// wantBody looks at what Parse makes of the statements of a procedure; their places are counted from 0 where the first one could stand.
func wantBody(t *testing.T, s string, want ...api.Stmt) {
	t.Helper()
	wantModule(t, procHead+s+procTail, inProc(movedStmts(want, len(procHead))...))
}

func wantTerm(t *testing.T, s string, want api.Term) {
	t.Helper()
	if x, at, e := syntax.ParseTerm(s); at != 0 || e != api.OK || said(x) != said(want) {
		t.Fatalf("ParseTerm(%.300q): %.2000v, %d, %v, not %.2000v", s, said(x), at, e, said(want))
	}
}

// wantFault looks at how Parse refuses a text.
func wantFault(t *testing.T, s string, place int, why api.Errno) {
	t.Helper()
	if m, at, e := syntax.Parse(s); at != place || e != why || said(m) != said(api.Module{}) {
		t.Fatalf("Parse(%.300q): %.300v, %d, %v, not %d, %v", s, said(m), at, e, place, why)
	}
}

func wantTermFault(t *testing.T, s string, place int, why api.Errno) {
	t.Helper()
	if x, at, e := syntax.ParseTerm(s); at != place || e != why || said(x) != said(api.Term{}) {
		t.Fatalf("ParseTerm(%.300q): %.300v, %d, %v, not %d, %v", s, said(x), at, e, place, why)
	}
}

// moved are statements whose places are so many bytes further on.
func movedStmts(l []api.Stmt, by int) []api.Stmt {
	l = slices.Clone(l)
	for i := range l {
		l[i].At += by
		l[i].Args, l[i].Vals = movedTerms(l[i].Args, by), movedTerms(l[i].Vals, by)
		l[i].Body, l[i].Else = movedStmts(l[i].Body, by), movedStmts(l[i].Else, by)
	}
	return l
}

func movedTerms(l []api.Term, by int) []api.Term {
	l = slices.Clone(l)
	for i := range l {
		l[i].At += by
		l[i].Args = movedTerms(l[i].Args, by)
	}
	return l
}
