package eval_test

import (
	"slices"
	"strings"

	"keystone/api"
	"keystone/tuple"
)

// machine does what the chapter tells, word by word: variables are those that are visible where a statement stands, and rows are looked through from the first to the last.
type machine struct {
	all  api.Module
	rows map[string][]api.Row
	fuel int
}

// stop is why a run goes no further: it has failed, or it returns a value.
type stop struct {
	failed bool
	code   int64
	v      api.Value
}

// scope is the last variable that is visible, and those ahead of it.
type scope struct {
	name  string
	v     *api.Value
	ahead *scope
}

func (s *scope) with(name string, v api.Value) *scope { return &scope{name, &v, s} }

func (s *scope) withAll(names []string, l []api.Value) *scope {
	for i, name := range names {
		s = s.with(name, l[i])
	}
	return s
}

func (s *scope) find(name string) *api.Value {
	for s.name != name {
		s = s.ahead
	}
	return s.v
}

func failedBy(code int64) *stop { return &stop{failed: true, code: code} }

func (x *machine) spend() *stop {
	if x.fuel == 0 {
		return failedBy(api.FailFuel)
	}
	x.fuel--
	return nil
}

// orderOf is how two keys, or beginnings of as many values, stand.
func orderOf(a, b []api.Value) int {
	for i := range a {
		if i == len(b) {
			return 1
		}
		if c := order(a[i], b[i]); c != 0 {
			return c
		}
	}
	return len(a) - len(b)
}

func (x *machine) procOf(name string) api.Proc {
	i := slices.IndexFunc(x.all.Procs, func(p api.Proc) bool { return p.Name == name })
	return x.all.Procs[i]
}

func (x *machine) call(p api.Proc, args []api.Value) (api.Value, *stop) {
	var s *scope
	for i, c := range p.Params {
		s = s.with(c.Name, args[i])
	}
	over := x.list(p.Body, s)
	if over == nil {
		return api.Value{}, failedBy(api.FailEnd)
	}
	if over.failed {
		return api.Value{}, over
	}
	return over.v, nil
}

func (x *machine) list(l []api.Stmt, s *scope) *stop {
	for _, y := range l {
		next, over := x.stmt(y, s)
		if over != nil {
			return over
		}
		s = next
	}
	return nil
}

// stmt runs a statement: the variables that are visible behind it.
func (x *machine) stmt(y api.Stmt, s *scope) (*scope, *stop) {
	if over := x.spend(); over != nil {
		return s, over
	}
	if y.Op == api.SWhile {
		for {
			v, over := x.term(y.Args[0], s)
			if over != nil || !v.Yes {
				return s, over
			}
			if over := x.list(y.Body, s); over != nil {
				return s, over
			}
		}
	}
	args, over := x.terms(y.Args, s)
	if over != nil {
		return s, over
	}
	last, over := x.terms(y.Vals, s)
	if over != nil {
		return s, over
	}
	switch y.Op {
	case api.SLet:
		return s.with(y.Names[0], args[0]), nil
	case api.SAssign:
		*s.find(y.Names[0]) = args[0]
	case api.SIf:
		if args[0].Yes {
			return s, x.list(y.Body, s)
		}
		return s, x.list(y.Else, s)
	case api.SRaise:
		if args[0].Int < 0 {
			return s, failedBy(api.FailOver)
		}
		return s, failedBy(args[0].Int)
	case api.SReturn:
		return s, &stop{v: args[0]}
	case api.SFor:
		return s, x.rounds(y, args, last, s)
	default:
		return x.onRow(y, args, last, s)
	}
	return s, nil
}

func (x *machine) onRow(y api.Stmt, key, val []api.Value, s *scope) (*scope, *stop) {
	var ahead, behind []api.Row
	var there *api.Row
	for _, row := range x.rows[y.Table] {
		switch c := orderOf(row.Key, key); {
		case c < 0:
			ahead = append(ahead, row)
		case c > 0:
			behind = append(behind, row)
		default:
			there = &row
		}
	}
	row := []api.Row{{Key: key, Val: val}}
	switch y.Op {
	case api.SGet:
		if there == nil {
			return s, failedBy(api.FailMissing)
		}
		return s.withAll(y.Names, there.Val), nil
	case api.SHas:
		return s.with(y.Names[0], tuple.Bool(there != nil)), nil
	case api.SAdd:
		if there != nil {
			return s, failedBy(api.FailThere)
		}
	case api.SChange:
		if there == nil {
			return s, failedBy(api.FailMissing)
		}
	case api.SDel:
		if there == nil {
			return s, failedBy(api.FailMissing)
		}
		row = nil
	}
	x.rows[y.Table] = slices.Concat(ahead, row, behind)
	return s, nil
}

func (x *machine) rounds(y api.Stmt, from, to []api.Value, s *scope) *stop {
	var ahead []api.Value
	for first := true; ; first = false {
		if over := x.spend(); over != nil {
			return over
		}
		var next *api.Row
		for _, row := range x.rows[y.Table] {
			if orderOf(row.Key[:len(from)], from) >= 0 && orderOf(row.Key[:len(to)], to) <= 0 && (first || orderOf(row.Key, ahead) > 0) && (next == nil || orderOf(row.Key, next.Key) < 0) {
				next = &row
			}
		}
		if next == nil {
			return nil
		}
		ahead = next.Key
		if over := x.list(y.Body, s.withAll(y.Names, slices.Concat(next.Key, next.Val))); over != nil {
			return over
		}
	}
}

func (x *machine) terms(l []api.Term, s *scope) ([]api.Value, *stop) {
	var out []api.Value
	for _, t := range l {
		v, over := x.term(t, s)
		if over != nil {
			return nil, over
		}
		out = append(out, v)
	}
	return out, nil
}

func (x *machine) term(t api.Term, s *scope) (api.Value, *stop) {
	if over := x.spend(); over != nil {
		return api.Value{}, over
	}
	if t.Op == api.XLit {
		return t.Val, nil
	}
	if t.Op == api.XVar {
		return *s.find(t.Name), nil
	}
	if t.Op == api.XAnd || t.Op == api.XOr {
		v, over := x.term(t.Args[0], s)
		if over != nil || t.Op == api.XAnd && !v.Yes || t.Op == api.XOr && v.Yes {
			return v, over
		}
		return x.term(t.Args[1], s)
	}
	args, over := x.terms(t.Args, s)
	if over != nil {
		return api.Value{}, over
	}
	if t.Op == api.XCall {
		return x.call(x.procOf(t.Name), args)
	}
	v, code := modelOf(t.Op, args[0], args[len(args)-1])
	if code != 0 {
		return v, failedBy(code)
	}
	return v, nil
}

// content are all rows, table by table.
func (x *machine) content() []api.Content {
	var l []api.Content
	for _, t := range x.all.Tables {
		l = append(l, api.Content{Table: t.Name, Rows: x.rows[t.Name]})
	}
	return l
}

// modelRun is what Run answers, if nothing is wrong with what it is given.
func modelRun(m api.Module, name string, args []api.Value, c []api.Content, fuel int) (api.Outcome, []api.Content, int) {
	x := machine{m, map[string][]api.Row{}, fuel}
	for _, y := range c {
		x.rows[y.Table] = y.Rows
	}
	was := x.content()
	v, over := x.call(x.procOf(name), args)
	if over != nil {
		return api.Outcome{End: api.EndFailed, Code: over.code}, was, fuel - x.fuel
	}
	return api.Outcome{End: api.EndValue, Value: v}, x.content(), fuel - x.fuel
}

// modelFits tells whether a value fits a column.
func modelFits(v api.Value, c api.Column) bool {
	return tuple.Check(v) == api.OK && v.Kind == c.Kind
}

// modelContent tells whether content may be for a module that may be.
func modelContent(m api.Module, c []api.Content) bool {
	names := " "
	for _, x := range c {
		i := slices.IndexFunc(m.Tables, func(t api.Table) bool { return t.Name == x.Table })
		if i < 0 || strings.Contains(names, " "+x.Table+" ") {
			return false
		}
		names += x.Table + " "
		for j, row := range x.Rows {
			all := slices.Concat(row.Key, row.Val)
			columns := slices.Concat(m.Tables[i].Key, m.Tables[i].Val)
			if len(row.Key) != len(m.Tables[i].Key) || len(all) != len(columns) {
				return false
			}
			for k, v := range all {
				if !modelFits(v, columns[k]) {
					return false
				}
			}
			if j > 0 && orderOf(x.Rows[j-1].Key, row.Key) >= 0 {
				return false
			}
		}
	}
	return true
}
