package types

import "keystone/api"

// copied is a list of its own, as long as another one.
func copied[T any](l []T) []T {
	return append([]T(nil), l...)
}

// copyTable is a table that shares no list with what it was made of; likewise those below.
func copyTable(t api.Table) api.Table {
	t.Key, t.Val = copied(t.Key), copied(t.Val)
	return t
}

func copyProc(p api.Proc) api.Proc {
	p.Params, p.Body = copied(p.Params), copyStmts(p.Body)
	return p
}

func copyStmts(l []api.Stmt) []api.Stmt {
	l = copied(l)
	for i := range l {
		s := &l[i]
		s.Names = copied(s.Names)
		s.Args, s.Vals = copyTerms(s.Args), copyTerms(s.Vals)
		s.Body, s.Else = copyStmts(s.Body), copyStmts(s.Else)
	}
	return l
}

func copyTerms(l []api.Term) []api.Term {
	l = copied(l)
	for i := range l {
		l[i].Args = copyTerms(l[i].Args)
	}
	return l
}
