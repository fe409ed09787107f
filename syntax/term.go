package syntax

import "keystone/api"

// The lines of the grammar whose operators stand between two operands, the loosest one first.
const (
	lineNone = iota
	lineOr
	lineAnd
	lineComp
	lineSum
	lineProd
)

// operator is what a sign makes of the two operands beside it, and the line in which it stands.
func operator(sign string) (op, line int) {
	switch sign {
	case "||":
		return api.XOr, lineOr
	case "&&":
		return api.XAnd, lineAnd
	case "<":
		return api.XLess, lineComp
	case "<=":
		return api.XLessEq, lineComp
	case "==":
		return api.XEqual, lineComp
	case "!=":
		return api.XUnlike, lineComp
	case "+":
		return api.XAdd, lineSum
	case "-":
		return api.XSub, lineSum
	case "*":
		return api.XMul, lineProd
	case "/":
		return api.XDiv, lineProd
	case "%":
		return api.XMod, lineProd
	}
	return 0, lineNone
}

func (p *parser) term(depth int) api.Term {
	return p.operation(lineOr, depth)
}

// operation reads what one line of the grammar says, at a depth.
func (p *parser) operation(line, depth int) api.Term {
	if line > lineProd {
		return p.sole(depth)
	}
	t := p.operation(line+1, depth)
	for k := 1; ; k++ {
		op, its := operator(p.look().Text)
		if its != line || line == lineComp && k > 1 { // of comparisons there is one at most
			return t
		}
		at := p.next().At
		t = api.Term{Op: op, Args: []api.Term{t, p.operation(line+1, depth+k)}, At: at}
	}
}

// sole reads a term with nothing but signs ahead of it. All terms and operands begin with one, so that here alone their depth is asked.
func (p *parser) sole(depth int) api.Term {
	p.within(depth)
	op := 0
	switch p.look().Text {
	case "-":
		op = api.XNeg
	case "!":
		op = api.XNot
	default:
		return p.prime(depth)
	}
	at := p.next().At
	return api.Term{Op: op, Args: []api.Term{p.sole(depth + 1)}, At: at}
}

func (p *parser) prime(depth int) api.Term {
	first := p.look()
	if first.Kind == api.TInt || first.Kind == api.TText {
		return api.Term{Op: api.XLit, Val: p.next().Val, At: first.At}
	}
	switch first.Text {
	case "true", "false":
		p.next()
		return api.Term{Op: api.XLit, Val: api.Value{Kind: api.KBool, Yes: first.Text == "true"}, At: first.At}
	case "len":
		return p.built(api.XLen, 1, depth+1)
	case "re":
		return p.built(api.XRe, 1, depth+1)
	case "im":
		return p.built(api.XIm, 1, depth+1)
	case "point":
		return p.built(api.XPoint, 2, depth+1)
	case "(":
		p.next()
		t := p.term(depth + 1)
		p.must(")")
		return t
	}
	return p.named(depth)
}

// built reads a call of what the language has: of so many terms at a depth.
func (p *parser) built(op, many, depth int) api.Term {
	t := api.Term{Op: op, At: p.next().At}
	p.must("(")
	for i := range many {
		if i > 0 {
			p.must(",")
		}
		t.Args = append(t.Args, p.term(depth))
	}
	p.must(")")
	return t
}

// named reads a variable, or a call of a helper.
func (p *parser) named(depth int) api.Term {
	t := api.Term{Op: api.XVar, At: p.look().At}
	t.Name = p.name()
	if p.is("(") {
		t.Op = api.XCall
		t.Args = p.anyTerms(depth + 1)
	}
	return t
}

// terms reads one term or more.
func (p *parser) terms(depth int) []api.Term {
	l := []api.Term{p.term(depth)}
	for p.has(",") {
		l = append(l, p.term(depth))
	}
	return l
}

// anyTerms reads any number of terms, and the parentheses around them.
func (p *parser) anyTerms(depth int) []api.Term {
	p.must("(")
	if p.has(")") {
		return nil
	}
	l := p.terms(depth)
	p.must(")")
	return l
}
