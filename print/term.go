package print

import (
	"strconv"

	"keystone/api"
	"keystone/lexis"
	"keystone/tuple"
)

// The levels of terms, the loosest one first.
const (
	levelOr = iota + 1
	levelAnd
	levelComp
	levelSum
	levelProd
	levelSign
	levelSole
)

// operator is the sign of a term, if it has one, and the term's level.
func operator(op int) (sign string, level int) {
	switch op {
	case api.XOr:
		return "||", levelOr
	case api.XAnd:
		return "&&", levelAnd
	case api.XLess:
		return "<", levelComp
	case api.XLessEq:
		return "<=", levelComp
	case api.XEqual:
		return "==", levelComp
	case api.XUnlike:
		return "!=", levelComp
	case api.XAdd:
		return "+", levelSum
	case api.XSub:
		return "-", levelSum
	case api.XMul:
		return "*", levelProd
	case api.XDiv:
		return "/", levelProd
	case api.XMod:
		return "%", levelProd
	case api.XNeg:
		return "-", levelSign
	case api.XNot:
		return "!", levelSign
	}
	return "", levelSole
}

func levelOf(t api.Term) int {
	_, level := operator(t.Op)
	return level
}

// fits tells whether a term has what its Op asks for, and nothing else; what its operands are is seen when they are written.
func fits(t api.Term) bool {
	named := t.Op == api.XVar || t.Op == api.XCall
	if !named && t.Name != "" || t.Op != api.XLit && t.Val != (api.Value{}) {
		return false
	}
	switch t.Op {
	case api.XLit, api.XVar:
		return len(t.Args) == 0
	case api.XCall:
		return true
	case api.XNeg, api.XNot, api.XLen, api.XRe, api.XIm:
		return len(t.Args) == 1
	case api.XPoint:
		return len(t.Args) == 2
	}
	return len(t.Args) == 2 && levelOf(t) < levelSign // all others are no terms
}

// term writes a term, or an operand, at a depth.
func (w *writer) term(t api.Term, depth int) {
	must(depth <= api.MaxDepth && fits(t))
	switch sign, level := operator(t.Op); level {
	case levelSole:
		w.sole(t, depth)
	case levelSign:
		w.add(sign)
		w.operand(t.Args[0], level, depth+1)
	default:
		w.line(t, depth, 0)
	}
}

// line writes a term with a sign between its two operands, and tells the number of that sign among those of one line of the grammar, in which so many more stand behind it. The operand behind a sign is as much deeper than the line as that sign's number says.
func (w *writer) line(t api.Term, depth, more int) int {
	// Asked ahead of all: so no line goes on without end, whatever its lists are.
	must(fits(t) && depth+more < api.MaxDepth)
	sign, level := operator(t.Op)
	first, second := t.Args[0], t.Args[1]
	number := 1
	if levelOf(first) == level && level != levelComp { // of comparisons a line has one at most
		number += w.line(first, depth, more+1)
	} else {
		w.operand(first, level+1, depth)
	}
	w.add(" ", sign, " ")
	w.operand(second, level+1, depth+number)
	return number
}

// operand writes a term at a depth where one of a level stands, or of a higher one: any other one in parentheses.
func (w *writer) operand(t api.Term, level, depth int) {
	if levelOf(t) >= level {
		w.term(t, depth)
		return
	}
	w.add("(")
	w.term(t, depth+1)
	w.add(")")
}

// sole writes a term that has no sign.
func (w *writer) sole(t api.Term, depth int) {
	switch t.Op {
	case api.XLit:
		w.literal(t.Val)
		return
	case api.XVar:
		w.name(t.Name)
		return
	case api.XCall:
		w.name(t.Name)
	case api.XLen:
		w.add("len")
	case api.XPoint:
		w.add("point")
	case api.XRe:
		w.add("re")
	case api.XIm:
		w.add("im")
	}
	w.terms(t.Args, depth+1)
}

func (w *writer) literal(v api.Value) {
	must(tuple.Check(v) == api.OK)
	switch v.Kind {
	case api.KInt:
		must(v.Int >= 0) // the sign ahead of digits is a term's
		w.add(strconv.FormatInt(v.Int, 10))
	case api.KBool:
		w.add(strconv.FormatBool(v.Yes))
	case api.KBytes:
		quoted, e := lexis.Quote(v.Bytes)
		must(e == api.OK)
		w.add(quoted)
	default:
		must(false) // a point has no text of its own
	}
}
