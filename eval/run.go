package eval

import "keystone/api"

// failure is thrown where a run fails: its code.
type failure int64

func fail(code int64) {
	panic(failure(code))
}

// must has the run fail by a code, unless a thing is as it must be.
func must(is bool, code int64) {
	if !is {
		fail(code)
	}
}

// caught does what comes to a value, or catches the code by which it fails.
func caught(do func() api.Value) (v api.Value, code int64, failed bool) {
	defer func() {
		if thrown := recover(); thrown != nil {
			code, failed = int64(thrown.(failure)), true // nothing else is thrown
		}
	}()
	return do(), 0, false
}

// run is a procedure's run, with those of the helpers that it calls.
type run struct {
	module api.Module
	procs  map[string]api.Proc
	tables map[string]*table
	left   int // steps
}

// newRun stands at the beginning, over rows that the module's tables take.
func newRun(m api.Module, c []api.Content, fuel int) *run {
	r := &run{m, map[string]api.Proc{}, map[string]*table{}, fuel}
	for _, p := range m.Procs {
		r.procs[p.Name] = p
	}
	for _, t := range m.Tables {
		r.tables[t.Name] = &table{}
	}
	for _, x := range c {
		r.tables[x.Table] = newTable(x.Rows)
	}
	return r
}

// content are the rows of all tables, as they are now.
func (r *run) content() []api.Content {
	var l []api.Content
	for _, t := range r.module.Tables {
		l = append(l, api.Content{Table: t.Name, Rows: r.tables[t.Name].all()})
	}
	return l
}

func (r *run) spend() {
	must(r.left > 0, api.FailFuel)
	r.left--
}

// call runs a procedure or a helper: what it answers.
func (r *run) call(p api.Proc, args []api.Value) api.Value {
	f := frame{r, map[string]api.Value{}}
	for i, c := range p.Params {
		f.vars[c.Name] = args[i]
	}
	v, over := f.stmts(p.Body)
	must(over, api.FailEnd)
	return v
}

// frame is where terms and statements of one procedure or helper are: the variables' values. A name that is declared anew, where the one ahead is no more visible, takes its place.
type frame struct {
	run  *run
	vars map[string]api.Value
}

// terms are the values of terms, from the left.
func (f frame) terms(l []api.Term) []api.Value {
	var vals []api.Value
	for _, t := range l {
		vals = append(vals, f.term(t))
	}
	return vals
}

func (f frame) term(t api.Term) api.Value {
	f.run.spend()
	switch t.Op {
	case api.XLit:
		return t.Val
	case api.XVar:
		return f.vars[t.Name]
	case api.XAnd, api.XOr:
		v := f.term(t.Args[0])
		if v.Yes == (t.Op == api.XOr) {
			return v
		}
		return f.term(t.Args[1])
	}
	args := f.terms(t.Args)
	if t.Op == api.XCall {
		return f.run.call(f.run.procs[t.Name], args)
	}
	if len(args) == 1 {
		return unary(t.Op, args[0])
	}
	return binary(t.Op, args[0], args[1])
}
