package syntax

import (
	"slices"

	"keystone/api"
)

// Strip is a module without its places.
func Strip(m api.Module) api.Module {
	var bare api.Module
	for _, t := range m.Tables {
		t.Key, t.Val, t.At = copied(t.Key), copied(t.Val), 0
		bare.Tables = append(bare.Tables, t)
	}
	for _, p := range m.Procs {
		p.Params, p.Body, p.At = copied(p.Params), bareStmts(p.Body), 0
		bare.Procs = append(bare.Procs, p)
	}
	return bare
}

func copied[T any](l []T) []T {
	return append([]T(nil), l...)
}

func bareStmts(l []api.Stmt) []api.Stmt {
	l = copied(l)
	for i, s := range l {
		s.Names = copied(s.Names)
		s.Args, s.Vals = bareTerms(s.Args), bareTerms(s.Vals)
		s.Body, s.Else = bareStmts(s.Body), bareStmts(s.Else)
		s.At = 0
		l[i] = s
	}
	return l
}

func bareTerms(l []api.Term) []api.Term {
	l = copied(l)
	for i, t := range l {
		t.Args, t.At = bareTerms(t.Args), 0
		l[i] = t
	}
	return l
}

// Nodes is how many statements and terms a module has, those within others too.
func Nodes(m api.Module) int {
	n := 0
	for _, p := range m.Procs {
		n += stmtNodes(p.Body)
	}
	return n
}

func stmtNodes(l []api.Stmt) int {
	n := len(l)
	for _, s := range l {
		n += termNodes(s.Args) + termNodes(s.Vals) + stmtNodes(s.Body) + stmtNodes(s.Else)
	}
	return n
}

func termNodes(l []api.Term) int {
	n := len(l)
	for _, t := range l {
		n += termNodes(t.Args)
	}
	return n
}

// Same tells whether two modules are one but for their places.
func Same(a, b api.Module) bool {
	return slices.EqualFunc(a.Tables, b.Tables, sameTable) && slices.EqualFunc(a.Procs, b.Procs, sameProc)
}

func sameTable(a, b api.Table) bool {
	return a.Name == b.Name && slices.Equal(a.Key, b.Key) && slices.Equal(a.Val, b.Val)
}

func sameProc(a, b api.Proc) bool {
	return a.Name == b.Name && a.Helper == b.Helper && a.Result == b.Result &&
		slices.Equal(a.Params, b.Params) && sameStmts(a.Body, b.Body)
}

func sameStmts(a, b []api.Stmt) bool {
	return slices.EqualFunc(a, b, sameStmt)
}

func sameStmt(a, b api.Stmt) bool {
	return a.Op == b.Op && a.Table == b.Table && slices.Equal(a.Names, b.Names) &&
		sameTerms(a.Args, b.Args) && sameTerms(a.Vals, b.Vals) &&
		sameStmts(a.Body, b.Body) && sameStmts(a.Else, b.Else)
}

func sameTerms(a, b []api.Term) bool {
	return slices.EqualFunc(a, b, sameTerm)
}

func sameTerm(a, b api.Term) bool {
	return a.Op == b.Op && a.Name == b.Name && a.Val == b.Val && sameTerms(a.Args, b.Args)
}
