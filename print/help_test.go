package print_test

import (
	"fmt"
	"strings"
	"testing"

	"keystone/api"
	"keystone/print"
)

// numbers tells one number behind the other, always the same ones.
type numbers uint64

func (n *numbers) below(most int) int {
	*n = *n*6364136223846793005 + 1442695040888963407
	return int(uint64(*n)>>33) % most
}

// oneOf is one of some things.
func oneOf[T any](n *numbers, l []T) T {
	return l[n.below(len(l))]
}

func value(v api.Value) api.Term { return api.Term{Op: api.XLit, Val: v} }

func number(n int64) api.Term { return value(api.Value{Kind: api.KInt, Int: n}) }

func truth(yes bool) api.Term { return value(api.Value{Kind: api.KBool, Yes: yes}) }

func text(s string) api.Term { return value(api.Value{Kind: api.KBytes, Bytes: s}) }

func variable(name string) api.Term { return api.Term{Op: api.XVar, Name: name} }

func call(name string, args ...api.Term) api.Term {
	return api.Term{Op: api.XCall, Name: name, Args: args}
}

func term(op int, args ...api.Term) api.Term { return api.Term{Op: op, Args: args} }

func terms(l ...api.Term) []api.Term { return l }

func stmts(l ...api.Stmt) []api.Stmt { return l }

func names(s string) []string { return strings.Fields(s) }

// columns are read from a text as "a int, b bool".
func columns(s string) []api.Column {
	kinds := map[string]int{"int": api.KInt, "bool": api.KBool, "bytes": api.KBytes, "point": api.KPoint}
	var l []api.Column
	for _, c := range strings.Split(s, ", ") {
		if name, kind, is := strings.Cut(c, " "); is {
			l = append(l, api.Column{Name: name, Kind: kinds[kind]})
		}
	}
	return l
}

var a, b, c = variable("a"), variable("b"), variable("c")

// procOf is a procedure with some statements, and its text without them.
func procOf(body ...api.Stmt) api.Proc {
	return api.Proc{Name: "p", Result: api.KInt, Body: body}
}

const (
	procHead = "proc p() int {\n"
	procTail = "}\n"
)

// said tells all of a thing; nil and empty lists alike.
func said(x any) string { return fmt.Sprintf("%+v", x) }

// want looks at a text that is answered, with a word on whose it is.
func want(t *testing.T, got string, e api.Errno, whose any, text string) {
	t.Helper()
	if got != text || e != api.OK {
		t.Fatalf("%.2000s: %.2000q, %v, not %.2000q", said(whose), got, e, text)
	}
}

// wantNone looks at how it is told that there is no text.
func wantNone(t *testing.T, got string, e api.Errno, whose any, why api.Errno) {
	t.Helper()
	if got != "" || e != why {
		t.Fatalf("%.2000s: %.2000q, %v, not %v", said(whose), got, e, why)
	}
}

func wantTerm(t *testing.T, x api.Term, text string) {
	t.Helper()
	s, e := print.Term(x)
	want(t, s, e, x, text)
}

func wantNoTerm(t *testing.T, x api.Term, why api.Errno) {
	t.Helper()
	s, e := print.Term(x)
	wantNone(t, s, e, x, why)
}

// wantStmt looks at the lines of a statement, alone and in a procedure; they are told as at depth 1.
func wantStmt(t *testing.T, x api.Stmt, text string) {
	t.Helper()
	s, e := print.Stmt(x, 1)
	want(t, s, e, x, text)
	s, e = print.Proc(procOf(x))
	want(t, s, e, x, procHead+text+procTail)
	s, e = print.Stmt(x, 3)
	want(t, s, e, x, moved(text, 2))
}

// moved are lines with so many bytes 9 more ahead of each.
func moved(text string, by int) string {
	var l []string
	for _, line := range strings.SplitAfter(text, "\n") {
		if line != "" {
			line = strings.Repeat("\t", by) + line
		}
		l = append(l, line)
	}
	return strings.Join(l, "")
}

func wantNoStmt(t *testing.T, x api.Stmt, deep int, why api.Errno) {
	t.Helper()
	s, e := print.Stmt(x, deep)
	wantNone(t, s, e, x, why)
	if deep == 1 {
		s, e = print.Proc(procOf(x))
		wantNone(t, s, e, x, why)
	}
}

func wantModule(t *testing.T, m api.Module, text string) {
	t.Helper()
	s, e := print.Module(m)
	want(t, s, e, m, text)
}

func wantNoModule(t *testing.T, m api.Module, why api.Errno) {
	t.Helper()
	s, e := print.Module(m)
	wantNone(t, s, e, m, why)
}
