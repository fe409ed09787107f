package print

import (
	"strings"

	"keystone/api"
)

// How many things of a sort a statement has.
const (
	none = iota
	one
	some // one or more
	many // any number of them
)

// shape is what a statement has, by its Op.
type shape struct {
	word        string // by which it begins
	names       int
	table       bool
	args, vals  int
	body, other int
}

// shapeOf is the shape of statements; false: there is no such Op.
func shapeOf(op int) (shape, bool) {
	switch op {
	case api.SLet:
		return shape{word: "let ", names: one, args: one}, true
	case api.SAssign: // which begins by its name
		return shape{names: one, args: one}, true
	case api.SIf:
		return shape{word: "if ", args: one, body: many, other: many}, true
	case api.SWhile:
		return shape{word: "while ", args: one, body: many}, true
	case api.SGet:
		return shape{word: "get ", names: many, table: true, args: some}, true
	case api.SHas:
		return shape{word: "has ", names: one, table: true, args: some}, true
	case api.SPut:
		return shape{word: "put ", table: true, args: some, vals: many}, true
	case api.SAdd:
		return shape{word: "add ", table: true, args: some, vals: many}, true
	case api.SChange:
		return shape{word: "change ", table: true, args: some, vals: many}, true
	case api.SDel:
		return shape{word: "del ", table: true, args: some}, true
	case api.SFor:
		return shape{word: "for ", names: some, table: true, args: many, vals: many, body: many}, true
	case api.SRaise:
		return shape{word: "raise ", args: one}, true
	case api.SReturn:
		return shape{word: "return ", args: one}, true
	}
	return shape{}, false
}

// fits tells whether a statement has as many things of each sort as its shape says; what they are is seen when they are written.
func (x shape) fits(s api.Stmt) bool {
	return isSo(len(s.Names), x.names) && (x.table || s.Table == "") &&
		isSo(len(s.Args), x.args) && isSo(len(s.Vals), x.vals) &&
		isSo(len(s.Body), x.body) && isSo(len(s.Else), x.other)
}

func isSo(n, rule int) bool {
	switch rule {
	case none:
		return n == 0
	case one:
		return n == 1
	case some:
		return n > 0
	}
	return true
}

func (w *writer) stmts(l []api.Stmt, depth int) {
	for _, s := range l {
		w.stmt(s, depth)
	}
}

func (w *writer) stmt(s api.Stmt, depth int) {
	x, ok := shapeOf(s.Op)
	must(ok && x.fits(s) && depth <= api.MaxDepth)
	w.indent(depth)
	w.add(x.word)
	w.head(s, depth+1)
	switch s.Op {
	case api.SPut, api.SAdd, api.SChange:
		w.add(" = ")
		w.terms(s.Vals, depth+1)
	case api.SFor:
		w.add(" to ")
		w.terms(s.Vals, depth+1)
	}
	if x.body == none {
		w.add(";\n")
		return
	}
	w.blocks(s, depth)
}

func (w *writer) indent(depth int) {
	w.add(strings.Repeat("\t", depth))
}

// head writes what stands behind a statement's word, up to its first terms, which are at a depth. Statements on a table name it; of these, and of the others, some have names ahead.
func (w *writer) head(s api.Stmt, depth int) {
	switch s.Op {
	case api.SLet, api.SAssign:
		w.names(s.Names)
		w.add(" = ")
		fallthrough
	case api.SIf, api.SWhile, api.SRaise, api.SReturn:
		w.term(s.Args[0], depth)
	case api.SGet, api.SHas, api.SFor:
		w.rowNames(s)
		fallthrough
	default:
		w.name(s.Table)
		w.terms(s.Args, depth)
	}
}

// rowNames writes the names that a row's values get; a get may do without.
func (w *writer) rowNames(s api.Stmt) {
	w.names(s.Names)
	if len(s.Names) > 0 {
		w.add(" ")
	}
	if s.Op == api.SFor {
		w.add("in ")
	} else {
		w.add("= ")
	}
}

// blocks writes the statements within one at a depth, and the signs around them.
func (w *writer) blocks(s api.Stmt, depth int) {
	w.add(" {\n")
	w.stmts(s.Body, depth+1)
	if len(s.Else) > 0 {
		w.indent(depth)
		w.add("} else {\n")
		w.stmts(s.Else, depth+1)
	}
	w.indent(depth)
	w.add("}\n")
}
