package types

import "keystone/api"

// terms looks at terms in whose places some kinds must stand, or more of them.
func (c *checker) terms(l []api.Term, kinds []int) {
	for i, t := range l {
		c.termOf(t, kinds[i])
	}
}

// termOf looks at a term that must be of a kind.
func (c *checker) termOf(t api.Term, kind int) {
	must(c.term(t) == kind, t.At, api.ErrType)
}

// term looks at a term, and tells its kind.
func (c *checker) term(t api.Term) int {
	switch t.Op {
	case api.XLit:
		return t.Val.Kind
	case api.XVar:
		kind, is := c.visible[t.Name]
		must(is, t.At, api.ErrUnknown)
		return kind
	case api.XCall:
		return c.call(t)
	}
	return c.operator(t)
}

func (c *checker) call(t api.Term) int {
	i := procNumber(c.all.Procs, t.Name)
	must(i >= 0, t.At, api.ErrUnknown)
	p := c.all.Procs[i]
	must(p.Helper, t.At, api.ErrHelper)
	must(len(t.Args) == len(p.Params), t.At, api.ErrCount)
	c.terms(t.Args, kindsOf(p.Params))
	return p.Result
}

// operator looks at a term of one operand or of two, which must be of one kind.
func (c *checker) operator(t api.Term) int {
	kind := c.term(t.Args[0])
	alike := true
	for _, x := range t.Args[1:] {
		alike = c.term(x) == kind
	}
	must(alike && takes(t.Op, kind), t.At, api.ErrType)
	return makes(t.Op, kind)
}

// takes tells whether an operator's operands may be of a kind.
func takes(op, kind int) bool {
	switch op {
	case api.XEqual, api.XUnlike:
		return true
	case api.XNot, api.XAnd, api.XOr:
		return kind == api.KBool
	case api.XLen:
		return kind == api.KBytes
	case api.XRe, api.XIm:
		return kind == api.KPoint
	case api.XLess, api.XLessEq:
		return kind == api.KInt || kind == api.KBytes
	case api.XNeg, api.XSub, api.XMul:
		return kind == api.KInt || kind == api.KPoint
	case api.XAdd:
		return kind != api.KBool
	}
	return kind == api.KInt
}

// makes is the kind of what an operator makes of operands of a kind.
func makes(op, kind int) int {
	switch op {
	case api.XNot, api.XLess, api.XLessEq, api.XEqual, api.XUnlike, api.XAnd, api.XOr:
		return api.KBool
	case api.XLen, api.XRe, api.XIm:
		return api.KInt
	case api.XPoint:
		return api.KPoint
	}
	return kind
}
