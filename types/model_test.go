package types_test

import (
	"strings"

	"keystone/api"
	"keystone/lexis"
	"keystone/print"
)

// found is what a model has found wrong: nothing, as long as why is OK.
type found struct {
	at  int
	why api.Errno
}

var fine = found{}

// known are the variables that are visible at a place: the last one, and those ahead of it.
type known struct {
	name  string
	kind  int
	ahead *known
}

func (k *known) kindOf(name string) int {
	for ; k != nil; k = k.ahead {
		if k.name == name {
			return k.kind
		}
	}
	return api.KNone
}

func knownOf(l []api.Column) *known {
	var k *known
	for _, c := range l {
		k = &known{c.Name, c.Kind, k}
	}
	return k
}

// model does what the chapter tells, with one module beside an old one.
type model struct {
	all      api.Module
	now      api.Proc
	declared []api.Column // of the procedure that is looked at
}

// modelCheck is what Check answers.
func modelCheck(old, m api.Module) found {
	if len(old.Tables)+len(old.Procs) > 0 && modelCheck(api.Module{}, old) != fine {
		return found{0, api.ErrArg}
	}
	if _, e := print.Module(m); e != api.OK {
		return found{0, api.ErrShape}
	}
	x := model{all: joined(old, m)}
	for step := 1; step <= 4; step++ {
		for i, t := range m.Tables {
			if f := x.table(step, t, old, m.Tables[:i]); f != fine {
				return f
			}
		}
		for i, p := range m.Procs {
			if f := x.proc(step, p, old, m.Procs[:i]); f != fine {
				return f
			}
		}
	}
	return fine
}

func joined(old, m api.Module) api.Module {
	var all api.Module
	all.Tables = append(append(all.Tables, old.Tables...), m.Tables...)
	all.Procs = append(append(all.Procs, old.Procs...), m.Procs...)
	return all
}

// namesOf are the names of tables, procedures or columns, with a blank on either side.
func namesOf(tables []api.Table, procs []api.Proc, columns []api.Column) string {
	s := " "
	for _, t := range tables {
		s += t.Name + " "
	}
	for _, p := range procs {
		s += p.Name + " "
	}
	for _, c := range columns {
		s += c.Name + " "
	}
	return s
}

func has(names, name string) bool { return strings.Contains(names, " "+name+" ") }

// twice tells whether a name stands twice among some.
func twice(names string) bool {
	seen := map[string]int{}
	for _, name := range strings.Fields(names) {
		seen[name]++
	}
	return len(seen) < len(strings.Fields(names))
}

// table is what is wrong with a table at the first step.
func (x *model) table(step int, t api.Table, old api.Module, ahead []api.Table) found {
	pointed := false
	for _, c := range t.Key {
		pointed = pointed || c.Kind == api.KPoint
	}
	switch {
	case step != 1:
	case len(old.Tables)+len(ahead) >= 16:
		return found{t.At, api.ErrMany}
	case has(namesOf(old.Tables, old.Procs, nil)+namesOf(ahead, nil, nil), t.Name):
		return found{t.At, api.ErrTwice}
	case len(t.Key) > 8, len(t.Val) > 8:
		return found{t.At, api.ErrMany}
	case twice(namesOf(nil, nil, t.Key) + namesOf(nil, nil, t.Val)):
		return found{t.At, api.ErrTwice}
	case pointed:
		return found{t.At, api.ErrType}
	}
	return fine
}

// proc is what is wrong with a procedure at one of the steps behind the first.
func (x *model) proc(step int, p api.Proc, old api.Module, ahead []api.Proc) found {
	switch {
	case step == 2 && len(old.Procs)+len(ahead) >= 64:
		return found{p.At, api.ErrMany}
	case step == 2 && has(namesOf(x.all.Tables, old.Procs, nil)+namesOf(nil, ahead, nil), p.Name):
		return found{p.At, api.ErrTwice}
	case step == 2 && len(p.Params) > 8:
		return found{p.At, api.ErrMany}
	case step == 2 && twice(namesOf(nil, nil, p.Params)):
		return found{p.At, api.ErrTwice}
	case step == 3 && p.Helper && has(x.reached(p.Name), p.Name):
		return found{p.At, api.ErrRound}
	case step == 4:
		x.now, x.declared = p, append([]api.Column(nil), p.Params...)
		return x.stmts(p.Body, knownOf(p.Params))
	}
	return fine
}

// calls are the names of the helpers that some statements call, in order, each as often as it stands there, with a blank on either side.
func (x *model) calls(l []api.Stmt) string {
	s := " "
	for _, y := range l {
		s += x.termCalls(y.Args) + x.termCalls(y.Vals) + x.calls(y.Body) + x.calls(y.Else)
	}
	return s
}

func (x *model) termCalls(l []api.Term) string {
	s := " "
	for _, t := range l {
		if p := x.procOf(t.Name); t.Op == api.XCall && p != nil && p.Helper {
			s += t.Name + " "
		}
		s += x.termCalls(t.Args)
	}
	return s
}

// reached are the helpers that one comes to by calls: so many rounds, until there are no more of them.
func (x *model) reached(name string) string {
	s := x.calls(x.procOf(name).Body)
	for range x.all.Procs {
		for _, next := range strings.Fields(s) {
			for _, name := range strings.Fields(x.calls(x.procOf(next).Body)) {
				if !has(s, name) {
					s += " " + name + " "
				}
			}
		}
	}
	return s
}

func (x *model) tableOf(name string) *api.Table {
	for i, t := range x.all.Tables {
		if t.Name == name {
			return &x.all.Tables[i]
		}
	}
	return nil
}

func (x *model) procOf(name string) *api.Proc {
	for i, p := range x.all.Procs {
		if p.Name == name {
			return &x.all.Procs[i]
		}
	}
	return nil
}

func (x *model) stmts(l []api.Stmt, k *known) found {
	for _, s := range l {
		f, more := x.stmt(s, k)
		if f != fine {
			return f
		}
		if s.Op != api.SFor {
			k = more
		}
	}
	return fine
}

// stmt is what is wrong with a statement, and what is visible behind it, or, of a for, within it.
func (x *model) stmt(s api.Stmt, k *known) (found, *known) {
	var args, vals, names []api.Column
	if s.Op >= api.SGet && s.Op <= api.SFor {
		t := x.tableOf(s.Table)
		switch {
		case x.now.Helper:
			return found{s.At, api.ErrHelper}, nil
		case t == nil:
			return found{s.At, api.ErrUnknown}, nil
		case !counted(s, *t):
			return found{s.At, api.ErrCount}, nil
		}
		args, vals, names = t.Key, t.Val, t.Val
		switch s.Op {
		case api.SFor:
			vals, names = t.Key, append(append([]api.Column(nil), t.Key...), t.Val...)
		case api.SHas:
			names = []api.Column{{Kind: api.KBool}}
		}
	}
	switch s.Op {
	case api.SAssign:
		if k.kindOf(s.Names[0]) == api.KNone {
			return found{s.At, api.ErrUnknown}, nil
		}
		args = []api.Column{{Kind: k.kindOf(s.Names[0])}}
	case api.SIf, api.SWhile:
		args = []api.Column{{Kind: api.KBool}}
	case api.SRaise:
		args = []api.Column{{Kind: api.KInt}}
	case api.SReturn:
		args = []api.Column{{Kind: x.now.Result}}
	case api.SLet:
		kind, f := x.term(s.Args[0], k)
		if f != fine {
			return f, nil
		}
		args, names = []api.Column{{Kind: kind}}, []api.Column{{Kind: kind}}
	}
	if f := x.termsOf(s.Args, args, k); f != fine {
		return f, nil
	}
	if f := x.termsOf(s.Vals, vals, k); f != fine {
		return f, nil
	}
	if s.Op != api.SAssign {
		for i, name := range s.Names {
			x.declared = append(x.declared, api.Column{Name: name, Kind: names[i].Kind})
			switch {
			case k.kindOf(name) != api.KNone:
				return found{s.At, api.ErrTwice}, nil
			case len(x.declared) > 64:
				return found{s.At, api.ErrMany}, nil
			}
			k = &known{name, names[i].Kind, k}
		}
	}
	if f := x.stmts(s.Body, k); f != fine {
		return f, nil
	}
	return x.stmts(s.Else, k), k
}

func counted(s api.Stmt, t api.Table) bool {
	key, val := len(t.Key), len(t.Val)
	switch s.Op {
	case api.SFor:
		return len(s.Args) <= key && len(s.Vals) <= key && len(s.Names) == key+val
	case api.SHas, api.SDel:
		return len(s.Args) == key
	}
	return len(s.Args) == key && len(s.Names)+len(s.Vals) == val
}

func (x *model) termsOf(l []api.Term, like []api.Column, k *known) found {
	for i, t := range l {
		kind, f := x.term(t, k)
		if f == fine && kind != like[i].Kind {
			f = found{t.At, api.ErrType}
		}
		if f != fine {
			return f
		}
	}
	return fine
}

// signatures are the kinds of an operator's operands, and that of what it makes of them.
func signatures(op int) string {
	switch op {
	case api.XNeg:
		return "int:int point:point"
	case api.XNot:
		return "bool:bool"
	case api.XAdd:
		return "int,int:int bytes,bytes:bytes point,point:point"
	case api.XSub, api.XMul:
		return "int,int:int point,point:point"
	case api.XDiv, api.XMod:
		return "int,int:int"
	case api.XLess, api.XLessEq:
		return "int,int:bool bytes,bytes:bool"
	case api.XEqual, api.XUnlike:
		return "int,int:bool bool,bool:bool bytes,bytes:bool point,point:bool"
	case api.XAnd, api.XOr:
		return "bool,bool:bool"
	case api.XLen:
		return "bytes:int"
	case api.XPoint:
		return "int,int:point"
	case api.XRe, api.XIm:
		return "point:int"
	}
	return ""
}

// term is a term's kind, or what is wrong with it.
func (x *model) term(t api.Term, k *known) (int, found) {
	switch t.Op {
	case api.XLit:
		return t.Val.Kind, fine
	case api.XVar:
		if kind := k.kindOf(t.Name); kind != api.KNone {
			return kind, fine
		}
		return 0, found{t.At, api.ErrUnknown}
	case api.XCall:
		p := x.procOf(t.Name)
		switch {
		case p == nil:
			return 0, found{t.At, api.ErrUnknown}
		case !p.Helper:
			return 0, found{t.At, api.ErrHelper}
		case len(p.Params) != len(t.Args):
			return 0, found{t.At, api.ErrCount}
		}
		return p.Result, x.termsOf(t.Args, p.Params, k)
	}
	var l []string
	for _, y := range t.Args {
		kind, f := x.term(y, k)
		if f != fine {
			return 0, f
		}
		l = append(l, print.Kind(kind))
	}
	for _, s := range strings.Fields(signatures(t.Op)) {
		if takes, makes, _ := strings.Cut(s, ":"); takes == strings.Join(l, ",") {
			return kindOf(makes), fine
		}
	}
	return 0, found{t.At, api.ErrType}
}

// modelLocals is what Locals answers.
func modelLocals(m api.Module, proc string) ([]api.Column, api.Errno) {
	x := model{all: m}
	p := x.procOf(proc)
	if modelCheck(api.Module{}, m) != fine {
		return nil, api.ErrArg
	} else if p == nil {
		return nil, api.ErrNone
	}
	x.proc(4, *p, m, nil)
	return x.declared, api.OK
}

// modelCalls is what Calls answers.
func modelCalls(m api.Module, proc string) ([]string, api.Errno) {
	x := model{all: m}
	p := x.procOf(proc)
	if modelCheck(api.Module{}, m) != fine {
		return nil, api.ErrArg
	} else if p == nil {
		return nil, api.ErrNone
	}
	var l []string
	seen := " "
	for _, name := range strings.Fields(x.calls(p.Body)) {
		if !has(seen, name) {
			l = append(l, name)
			seen += name + " "
		}
	}
	return l, api.OK
}

// modelKind is what Kind answers.
func modelKind(m api.Module, locals []api.Column, t api.Term) (int, api.Errno) {
	bad := modelCheck(api.Module{}, m) != fine
	for _, c := range locals {
		bad = bad || !lexis.Name(c.Name) || c.Kind < api.KInt || c.Kind > api.KPoint
	}
	if bad {
		return 0, api.ErrArg
	}
	if _, e := print.Term(t); e != api.OK {
		return 0, api.ErrShape
	}
	x := model{all: m}
	kind, f := x.term(t, knownOf(locals))
	if f != fine {
		return 0, f.why
	}
	return kind, api.OK
}
