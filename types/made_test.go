package types_test

import (
	"fmt"
	"slices"
	"strings"

	"keystone/api"
)

// maker makes modules that are right.
type maker struct {
	n       *numbers
	all     api.Module // what is made already
	k       *known     // what is visible
	many    int        // of variables that the procedure has
	helper  bool
	result  int
	nothing int // how many names were made that nothing else has
}

var kinds = []int{api.KInt, api.KBool, api.KBytes, api.KPoint}

// fresh is a name that is not among some.
func (m *maker) fresh(names string) string {
	for range 4 {
		if name := oneOf(m.n, []string{"a", "b", "c", "d", "e", "f", "g", "t", "u"}); !has(names, name) {
			return name
		}
	}
	m.nothing++
	return fmt.Sprintf("x%d", m.nothing)
}

func (m *maker) columns(many int, kinds []int) []api.Column {
	var l []api.Column
	for range many {
		l = append(l, api.Column{Name: m.fresh(namesOf(nil, nil, l)), Kind: oneOf(m.n, kinds)})
	}
	return l
}

func (m *maker) table() api.Table {
	l := m.columns(1+m.n.below(3)+m.n.below(3), kinds)
	key := 0
	for key < len(l) && key < 3 && l[key].Kind != api.KPoint {
		key++
	}
	if key == 0 {
		l[0].Kind, key = api.KInt, 1
	}
	if m.n.below(2) == 0 {
		key = 1
	}
	return api.Table{Name: m.fresh(namesOf(m.all.Tables, m.all.Procs, nil)), Key: slices.Clone(l[:key]), Val: slices.Clone(l[key:])}
}

func (m *maker) proc(size int) api.Proc {
	p := api.Proc{Name: m.fresh(namesOf(m.all.Tables, m.all.Procs, nil)), Helper: m.n.below(2) == 0, Params: m.columns(m.n.below(4), kinds), Result: oneOf(m.n, kinds)}
	m.k, m.many, m.helper, m.result = knownOf(p.Params), len(p.Params), p.Helper, p.Result
	p.Body = m.stmts(1+m.n.below(size), 3)
	return p
}

// shuffled puts things in another order.
func shuffled[T any](n *numbers, l []T) {
	for i := range l {
		j := n.below(i + 1)
		l[i], l[j] = l[j], l[i]
	}
}

// pair is two modules, the second of which is right beside the first.
func pair(n *numbers, size int) (old, m api.Module) {
	x := maker{n: n}
	for part := range 2 {
		was := x.all
		x.all.Tables, x.all.Procs = slices.Clone(was.Tables), slices.Clone(was.Procs)
		for range n.below(3) + part {
			x.all.Tables = append(x.all.Tables, x.table())
		}
		for range n.below(3) + part {
			x.all.Procs = append(x.all.Procs, x.proc(size))
		}
		made := api.Module{Tables: x.all.Tables[len(was.Tables):], Procs: x.all.Procs[len(was.Procs):]}
		shuffled(n, made.Tables)
		shuffled(n, made.Procs)
		made = cloned(made)
		scatter(n, &made)
		old, m = m, made
	}
	return old, m
}

func (m *maker) stmts(many, deep int) []api.Stmt {
	was := m.k
	defer func() { m.k = was }()
	var l []api.Stmt
	for range many {
		l = append(l, m.stmt(deep))
	}
	return l
}

func (m *maker) stmt(deep int) api.Stmt {
	switch i := m.n.below(14); {
	case i == 0:
		return api.Stmt{Op: api.SRaise, Args: []api.Term{m.term(api.KInt, 2)}}
	case i < 2:
		return api.Stmt{Op: api.SReturn, Args: []api.Term{m.term(m.result, 3)}}
	case i < 4 && deep > 0:
		s := api.Stmt{Op: api.SIf, Args: []api.Term{m.term(api.KBool, 2)}, Body: m.stmts(m.n.below(4), deep-1)}
		s.Else = m.stmts(m.n.below(4), deep-1)
		return s
	case i < 5 && deep > 0:
		return api.Stmt{Op: api.SWhile, Args: []api.Term{m.term(api.KBool, 2)}, Body: m.stmts(m.n.below(4), deep-1)}
	case i < 10 && !m.helper && len(m.all.Tables) > 0:
		return m.onTable(oneOf(m.n, m.all.Tables), deep)
	case i < 12:
		if k := m.some(func(*known) bool { return true }); k != nil {
			return api.Stmt{Op: api.SAssign, Names: []string{k.name}, Args: []api.Term{m.term(k.kind, 3)}}
		}
	}
	if m.many == api.MaxLocals {
		return api.Stmt{Op: api.SIf, Args: []api.Term{m.term(api.KBool, 2)}}
	}
	kind := oneOf(m.n, kinds)
	s := api.Stmt{Op: api.SLet, Args: []api.Term{m.term(kind, 3)}}
	s.Names = m.declare([]api.Column{{Kind: kind}})
	return s
}

// some is a variable that is visible and such as is asked for, if there is one.
func (m *maker) some(such func(*known) bool) *known {
	var l []*known
	for k := m.k; k != nil; k = k.ahead {
		if such(k) {
			l = append(l, k)
		}
	}
	if len(l) == 0 {
		return nil
	}
	return oneOf(m.n, l)
}

func (m *maker) declare(like []api.Column) []string {
	var l []string
	for _, c := range like {
		names := " "
		for k := m.k; k != nil; k = k.ahead {
			names += k.name + " "
		}
		name := m.fresh(names)
		l = append(l, name)
		m.k = &known{name, c.Kind, m.k}
		m.many++
	}
	return l
}

func (m *maker) onTable(t api.Table, deep int) api.Stmt {
	s := api.Stmt{Op: api.SGet + m.n.below(7), Table: t.Name}
	if m.many+len(t.Key)+len(t.Val) > api.MaxLocals || deep == 0 && s.Op == api.SFor {
		s.Op = api.SDel
	}
	if s.Op == api.SFor {
		was := m.k
		defer func() { m.k = was }()
		s.Args, s.Vals = m.terms(t.Key[:m.n.below(len(t.Key)+1)]), m.terms(t.Key[:m.n.below(len(t.Key)+1)])
		s.Names = m.declare(slices.Concat(t.Key, t.Val))
		s.Body = m.stmts(m.n.below(4), deep-1)
		return s
	}
	s.Args = m.terms(t.Key)
	switch s.Op {
	case api.SGet:
		s.Names = m.declare(t.Val)
	case api.SHas:
		s.Names = m.declare([]api.Column{{Kind: api.KBool}})
	case api.SPut, api.SAdd, api.SChange:
		s.Vals = m.terms(t.Val)
	}
	return s
}

func (m *maker) terms(like []api.Column) []api.Term {
	var l []api.Term
	for _, c := range like {
		l = append(l, m.term(c.Kind, 2))
	}
	return l
}

// term is a term of a kind.
func (m *maker) term(kind, deep int) api.Term {
	i := m.n.below(10)
	if k := m.some(func(k *known) bool { return k.kind == kind }); k != nil && (i < 4 || deep <= 0) {
		return api.Term{Op: api.XVar, Name: k.name}
	}
	if i < 7 || deep <= 0 {
		switch kind {
		case api.KPoint:
			return api.Term{Op: api.XPoint, Args: []api.Term{m.term(api.KInt, deep-1), m.term(api.KInt, deep-1)}}
		case api.KBytes:
			return api.Term{Op: api.XLit, Val: api.Value{Kind: kind, Bytes: oneOf(m.n, []string{"", "a", "b\x00"})}}
		case api.KBool:
			return api.Term{Op: api.XLit, Val: api.Value{Kind: kind, Yes: m.n.below(2) == 0}}
		}
		return api.Term{Op: api.XLit, Val: api.Value{Kind: kind, Int: oneOf(m.n, []int64{0, 1, 2, 3, 1 << 26, 1<<63 - 1})}}
	}
	if i < 8 {
		var l []api.Proc
		for _, p := range m.all.Procs {
			if p.Helper && p.Result == kind {
				l = append(l, p)
			}
		}
		if len(l) > 0 {
			p := oneOf(m.n, l)
			return api.Term{Op: api.XCall, Name: p.Name, Args: m.terms(p.Params)}
		}
	}
	return m.operator(kind, deep)
}

// operator is a term with an operator that makes a kind.
func (m *maker) operator(kind, deep int) api.Term {
	for {
		op := api.XNeg + m.n.below(api.XIm-api.XNeg+1)
		s := oneOf(m.n, append(strings.Fields(signatures(op)), "none:none"))
		takes, makes, _ := strings.Cut(s, ":")
		if kindOf(makes) != kind {
			continue
		}
		t := api.Term{Op: op}
		for _, word := range strings.Split(takes, ",") {
			t.Args = append(t.Args, m.term(kindOf(word), deep-1))
		}
		return t
	}
}

// change makes something else of a part, out of what the module and another one have, or puts it elsewhere; what comes of it may be anything.
func (p *parts) change(n *numbers, other *parts) {
	switch i := n.below(100); {
	case i < 8:
		p.changeTable(n)
	case i < 20:
		p.changeProc(n)
	case i < 30 && len(p.cols) > 0:
		c := oneOf(n, p.cols)
		*c = oneOf(n, []api.Column{{Name: c.Name, Kind: oneOf(n, kinds)}, {Name: oneOf(n, p.names()), Kind: c.Kind}, {Name: oneOf(n, p.cols).Name, Kind: c.Kind}})
	case i < 40:
		l := oneOf(n, p.lists)
		s := append(slices.Clone(*l), api.Stmt{Op: api.SReturn, Args: []api.Term{{Op: api.XVar, Name: oneOf(n, p.names())}}, At: n.below(1000)})
		if len(p.stmts) > 0 {
			s[len(*l)] = cloned(module(nil, api.Proc{Body: []api.Stmt{*oneOf(n, p.stmts)}})).Procs[0].Body[0]
		}
		shuffled(n, s[n.below(len(s)):])
		*l = s[:len(s)-n.below(2)]
	case i < 65 && len(p.stmts) > 0:
		p.changeStmt(n, oneOf(n, p.stmts))
	case len(p.terms) > 0:
		from := p.terms
		if n.below(3) == 0 && len(other.terms) > 0 {
			from = other.terms
		}
		p.changeTerm(n, oneOf(n, p.terms), *oneOf(n, from))
	}
}

// names are names that something has, or nothing.
func (p *parts) names() []string {
	l := []string{"nothing", "a", "b"}
	for _, x := range p.tables {
		l = append(l, x.Name)
	}
	for _, x := range p.procs {
		l = append(l, x.Name)
	}
	for _, x := range p.stmts {
		l = append(l, x.Names...)
	}
	return l
}

func (p *parts) changeTable(n *numbers) {
	if len(p.tables) == 0 {
		return
	}
	x := oneOf(n, p.tables)
	switch n.below(4) {
	case 0:
		x.Name = oneOf(n, p.names())
	case 1:
		x.Key, x.Val = slices.Concat(x.Key, x.Val), nil
	case 2:
		x.Val = append(slices.Clone(x.Val), *oneOf(n, p.cols))
	case 3:
		x.Key, x.Val = slices.Clone(x.Key[:1]), slices.Concat(x.Key[1:], x.Val)
	}
}

func (p *parts) changeProc(n *numbers) {
	if len(p.procs) == 0 {
		return
	}
	x := oneOf(n, p.procs)
	switch n.below(4) {
	case 0:
		x.Name = oneOf(n, p.names())
	case 1:
		x.Helper = !x.Helper
	case 2:
		x.Result = oneOf(n, kinds)
	case 3:
		if len(p.cols) > 0 {
			x.Params = append(slices.Clone(x.Params), *oneOf(n, p.cols))
		}
	}
}

func (p *parts) changeStmt(n *numbers, x *api.Stmt) {
	switch n.below(9) {
	case 0:
		x.Op = 1 + n.below(13)
	case 1:
		x.Op = api.SPut + n.below(3)
	case 2, 3:
		if len(x.Names) > 0 {
			x.Names = slices.Clone(x.Names)
			x.Names[n.below(len(x.Names))] = oneOf(n, p.names())
		}
	case 4:
		if len(p.tables) > 0 && x.Table != "" {
			x.Table = oneOf(n, p.tables).Name
		}
	case 5:
		x.Body, x.Else = x.Else, x.Body
	case 6:
		x.Names = append(slices.Clone(x.Names), oneOf(n, p.names()))
	case 7:
		x.Vals = append(slices.Clone(x.Vals), api.Term{Op: api.XVar, Name: oneOf(n, p.names()), At: n.below(1000)})
	case 8:
		if len(x.Args) > 0 {
			x.Args = slices.Clone(x.Args[:len(x.Args)-1])
		}
	}
}

func (p *parts) changeTerm(n *numbers, x *api.Term, other api.Term) {
	switch n.below(6) {
	case 0:
		x.Op = 1 + n.below(20)
	case 1:
		if x.Name != "" {
			x.Name = oneOf(n, p.names())
		}
	case 2, 3:
		*x = cloned(module(nil, api.Proc{Body: []api.Stmt{{Args: []api.Term{other}}}})).Procs[0].Body[0].Args[0]
	case 4:
		x.Args = slices.Clone(x.Args)
		slices.Reverse(x.Args)
	case 5:
		x.Args = append(slices.Clone(x.Args), api.Term{Op: api.XVar, Name: oneOf(n, p.names()), At: n.below(1000)})
	}
}
