package types

import (
	"maps"
	"slices"

	"keystone/api"
)

// checker looks at a procedure's statements, one behind the other.
type checker struct {
	all      api.Module     // whose tables and helpers there are
	helper   bool           // the procedure is one
	result   int            // the kind of what it returns
	visible  map[string]int // the variables that may be named where it is, with their kinds
	declared []api.Column   // all variables up to there
}

// newChecker looks at what stands where some variables are visible, of one name the last one.
func newChecker(all api.Module, variables []api.Column) *checker {
	c := &checker{all: all, visible: map[string]int{}, declared: copied(variables)}
	for _, v := range variables {
		c.visible[v.Name] = v.Kind
	}
	return c
}

// proc looks at all statements of the procedure whose parameters are visible.
func (c *checker) proc(p api.Proc) {
	c.helper, c.result = p.Helper, p.Result
	c.stmts(p.Body)
}

func (c *checker) stmts(l []api.Stmt) {
	for _, s := range l {
		c.stmt(s)
	}
}

// scope has statements looked at behind which just those variables are visible that were so ahead of them.
func (c *checker) scope(look func()) {
	was := maps.Clone(c.visible)
	defer func() { c.visible = was }()
	look()
}

func (c *checker) stmt(s api.Stmt) {
	switch s.Op {
	case api.SLet:
		c.declare(s, []int{c.term(s.Args[0])})
	case api.SAssign:
		kind, is := c.visible[s.Names[0]]
		must(is, s.At, api.ErrUnknown)
		c.termOf(s.Args[0], kind)
	case api.SIf, api.SWhile:
		c.termOf(s.Args[0], api.KBool)
		c.scope(func() { c.stmts(s.Body) })
		c.scope(func() { c.stmts(s.Else) })
	case api.SRaise:
		c.termOf(s.Args[0], api.KInt)
	case api.SReturn:
		c.termOf(s.Args[0], c.result)
	default:
		c.onTable(s)
	}
}

// onTable looks at a statement on a table.
func (c *checker) onTable(s api.Stmt) {
	must(!c.helper, s.At, api.ErrHelper)
	i := tableNumber(c.all.Tables, s.Table)
	must(i >= 0, s.At, api.ErrUnknown)
	key, val := kindsOf(c.all.Tables[i].Key), kindsOf(c.all.Tables[i].Val)
	must(counts(s, len(key), len(val)), s.At, api.ErrCount)
	c.terms(s.Args, key)
	switch s.Op {
	case api.SGet:
		c.declare(s, val)
	case api.SHas:
		c.declare(s, []int{api.KBool})
	case api.SPut, api.SAdd, api.SChange:
		c.terms(s.Vals, val)
	case api.SFor:
		c.terms(s.Vals, key)
		c.scope(func() {
			c.declare(s, slices.Concat(key, val))
			c.stmts(s.Body)
		})
	}
}

// counts tells whether a statement has as many things as its table has columns, in the key and behind it.
func counts(s api.Stmt, key, val int) bool {
	switch s.Op {
	case api.SFor: // whose keys are beginnings of keys
		return len(s.Args) <= key && len(s.Vals) <= key && len(s.Names) == key+val
	case api.SPut, api.SAdd, api.SChange:
		return len(s.Args) == key && len(s.Vals) == val
	case api.SGet:
		return len(s.Args) == key && len(s.Names) == val
	}
	return len(s.Args) == key
}

// declare makes a statement's names variables of some kinds, visible from there on.
func (c *checker) declare(s api.Stmt, kinds []int) {
	for i, name := range s.Names {
		_, is := c.visible[name]
		must(!is, s.At, api.ErrTwice)
		must(len(c.declared) < api.MaxLocals, s.At, api.ErrMany)
		c.visible[name] = kinds[i]
		c.declared = append(c.declared, api.Column{Name: name, Kind: kinds[i]})
	}
}

func kindsOf(l []api.Column) []int {
	var kinds []int
	for _, c := range l {
		kinds = append(kinds, c.Kind)
	}
	return kinds
}
