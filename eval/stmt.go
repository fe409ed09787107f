package eval

import (
	"slices"

	"keystone/api"
	"keystone/tuple"
)

// stmts runs statements, one behind the other: what they answer, if one of them returns.
func (f frame) stmts(l []api.Stmt) (api.Value, bool) {
	for _, s := range l {
		if v, over := f.stmt(s); over {
			return v, true
		}
	}
	return api.Value{}, false
}

func (f frame) stmt(s api.Stmt) (api.Value, bool) {
	f.run.spend()
	switch s.Op {
	case api.SLet, api.SAssign:
		f.vars[s.Names[0]] = f.term(s.Args[0])
	case api.SIf:
		if f.term(s.Args[0]).Yes {
			return f.stmts(s.Body)
		}
		return f.stmts(s.Else)
	case api.SWhile:
		for f.term(s.Args[0]).Yes {
			if v, over := f.stmts(s.Body); over {
				return v, true
			}
		}
	case api.SFor:
		return f.rounds(s)
	case api.SRaise:
		code := f.term(s.Args[0]).Int
		must(code >= 0, api.FailOver)
		fail(code)
	case api.SReturn:
		return f.term(s.Args[0]), true
	default:
		f.onRow(s)
	}
	return api.Value{}, false
}

// onRow runs a statement on one row of a table.
func (f frame) onRow(s api.Stmt) {
	t := f.run.tables[s.Table]
	row := api.Row{Key: f.terms(s.Args), Val: f.terms(s.Vals)}
	at, is := t.find(row.Key)
	switch s.Op {
	case api.SGet, api.SChange, api.SDel:
		must(is, api.FailMissing)
	case api.SAdd:
		must(!is, api.FailThere)
	}
	switch s.Op {
	case api.SGet:
		f.set(s.Names, t.row(at).Val)
	case api.SHas:
		f.vars[s.Names[0]] = tuple.Bool(is)
	case api.SDel:
		t.remove(at)
	default:
		t.put(at, is, row)
	}
}

// set gives variables values.
func (f frame) set(names []string, vals []api.Value) {
	for i, name := range names {
		f.vars[name] = vals[i]
	}
}

// rounds runs a for, whose next row is looked for at each round anew, as the one ahead may have changed what is there.
func (f frame) rounds(s api.Stmt) (api.Value, bool) {
	t := f.run.tables[s.Table]
	from, to := f.terms(s.Args), f.terms(s.Vals)
	var last []api.Value // which no key is
	for {
		f.run.spend()
		at := t.first(func(key []api.Value) bool {
			return held(key, from) >= 0 && (last == nil || held(key, last) > 0)
		})
		if t.isEnd(at) || held(t.row(at).Key, to) > 0 {
			return api.Value{}, false
		}
		row := t.row(at)
		last = row.Key
		f.set(s.Names, slices.Concat(row.Key, row.Val))
		if v, over := f.stmts(s.Body); over {
			return v, true
		}
	}
}
