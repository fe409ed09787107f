package types_test

import (
	"fmt"
	"strings"
	"testing"

	"keystone/api"
	"keystone/print"
	"keystone/syntax"
	"keystone/types"
)

// numbers tells one number behind the other, always the same ones.
type numbers uint64

func (n *numbers) below(most int) int {
	*n = *n*6364136223846793005 + 1442695040888963407
	return int(uint64(*n)>>33) % most
}

// oneOf is one of some things.
func oneOf[T any](n *numbers, l []T) T {
	return l[n.below(len(l))]
}

// said tells all of a thing; nil and empty lists alike.
func said(x any) string { return fmt.Sprintf("%+v", x) }

// shown is a module as a text, or all of it, if there is no text.
func shown(m api.Module) string {
	s, e := print.Module(m)
	if e != api.OK {
		return said(m)
	}
	return s
}

// read is the module that a text says.
func read(t *testing.T, text string) api.Module {
	t.Helper()
	m, at, e := syntax.Parse(text)
	if e != api.OK {
		t.Fatalf("%.500q: %d, %v", text, at, e)
	}
	return m
}

// readTerm is the term that a text says.
func readTerm(t *testing.T, text string) api.Term {
	t.Helper()
	x, at, e := syntax.ParseTerm(text)
	if e != api.OK {
		t.Fatalf("%.500q: %d, %v", text, at, e)
	}
	return x
}

// columns are read from a text as "a int, b bool".
func columns(text string) []api.Column {
	var l []api.Column
	for _, c := range strings.Split(text, ", ") {
		if name, word, is := strings.Cut(c, " "); is {
			l = append(l, api.Column{Name: name, Kind: kindOf(word)})
		}
	}
	return l
}

// kindOf is the kind of a word; 0: there is none.
func kindOf(word string) int {
	for kind := api.KInt; kind <= api.KPoint; kind++ {
		if print.Kind(kind) == word {
			return kind
		}
	}
	return api.KNone
}

// listed are so many columns, or other things, with names of their own.
func listed(form string, from, many int) string {
	var l []string
	for i := range many {
		l = append(l, fmt.Sprintf(form, from+i))
	}
	return strings.Join(l, ", ")
}

// same are so many columns, or other things, that are one.
func same(thing string, many int) string {
	return strings.TrimSuffix(strings.Repeat(thing+", ", many), ", ")
}

// wantCheck looks at what Check and Join of two modules answer.
func wantCheck(t *testing.T, old, m api.Module, at int, e api.Errno) {
	t.Helper()
	gotAt, got := types.Check(old, m)
	if gotAt != at || got != e {
		t.Fatalf("%.3000s\nbeside %.3000s: %d, %v, not %d, %v", shown(m), shown(old), gotAt, got, at, e)
	}
	all, got := types.Join(old, m)
	if got != e || e != api.OK && said(all) != said(api.Module{}) {
		t.Fatalf("%.3000s\nbeside %.3000s: %v, not %v; %.3000s", shown(m), shown(old), got, e, said(all))
	}
}

// wantTexts looks at what Check of two texts answers. In the second one the byte ^ marks the place of what is wrong; without one it is OK, or, where there is an error, 0.
func wantTexts(t *testing.T, old, text string, e api.Errno) {
	t.Helper()
	ahead, behind, marked := strings.Cut(text, "^")
	at := len(ahead)
	if !marked {
		at = 0
	}
	wantCheck(t, read(t, old), read(t, ahead+behind), at, e)
}

// wantText does so beside nothing.
func wantText(t *testing.T, text string, e api.Errno) {
	t.Helper()
	wantTexts(t, "", text, e)
}

// wantBody looks at statements of a procedure "p", beside some helpers and tables; the procedure returns an int, and has a parameter of each kind.
func wantBody(t *testing.T, body string, e api.Errno) {
	t.Helper()
	wantTexts(t, world, "proc p(i int, o bool, s bytes, z point) int { "+body+" }", e)
}

// wantHelper does so of a helper.
func wantHelper(t *testing.T, body string, e api.Errno) {
	t.Helper()
	wantTexts(t, world, "helper p(i int, o bool, s bytes, z point) int { "+body+" }", e)
}

// world is what statements may speak of: tables with keys and other columns of all kinds; helpers that return each kind.
const world = `table t(a int; b bytes);
table none(a bool;);
table wide(a int, b bool, c bytes; d int, e bool, f bytes, g point);
helper num() int { return 1; }
helper yes(a int) bool { return true; }
helper text(a bool, b bytes) bytes { return b; }
helper spot(a point, b int, c point) point { return a + c; }
proc other(a int) int { return a; }
`

func module(tables []api.Table, procs ...api.Proc) api.Module {
	return api.Module{Tables: tables, Procs: procs}
}

// parts are all of a module, as they can be changed.
type parts struct {
	tables []*api.Table
	procs  []*api.Proc
	cols   []*api.Column
	lists  []*[]api.Stmt
	stmts  []*api.Stmt
	terms  []*api.Term
}

func partsOf(m *api.Module) *parts {
	var p parts
	for i := range m.Tables {
		p.tables = append(p.tables, &m.Tables[i])
		p.addColumns(m.Tables[i].Key)
		p.addColumns(m.Tables[i].Val)
	}
	for i := range m.Procs {
		p.procs = append(p.procs, &m.Procs[i])
		p.addColumns(m.Procs[i].Params)
		p.addStmts(&m.Procs[i].Body)
	}
	return &p
}

func (p *parts) addColumns(l []api.Column) {
	for i := range l {
		p.cols = append(p.cols, &l[i])
	}
}

func (p *parts) addStmts(list *[]api.Stmt) {
	p.lists = append(p.lists, list)
	for i := range *list {
		s := &(*list)[i]
		p.stmts = append(p.stmts, s)
		p.addTerms(s.Args)
		p.addTerms(s.Vals)
		p.addStmts(&s.Body)
		p.addStmts(&s.Else)
	}
}

func (p *parts) addTerms(l []api.Term) {
	for i := range l {
		p.terms = append(p.terms, &l[i])
		p.addTerms(l[i].Args)
	}
}

// places are all places of a module, as they can be changed.
func (p *parts) places() []*int {
	var l []*int
	for _, x := range p.tables {
		l = append(l, &x.At)
	}
	for _, x := range p.procs {
		l = append(l, &x.At)
	}
	for _, x := range p.stmts {
		l = append(l, &x.At)
	}
	for _, x := range p.terms {
		l = append(l, &x.At)
	}
	return l
}

// scatter gives each thing a place of its own, in no order.
func scatter(n *numbers, m *api.Module) {
	l := partsOf(m).places()
	for i := range l {
		*l[i] = i - len(l)/3
		j := n.below(i + 1)
		*l[i], *l[j] = *l[j], *l[i]
	}
}

// cloned is a module that shares nothing with another one.
func cloned(m api.Module) api.Module {
	c := syntax.Strip(m)
	from, to := partsOf(&m).places(), partsOf(&c).places()
	for i := range from {
		*to[i] = *from[i]
	}
	return c
}
