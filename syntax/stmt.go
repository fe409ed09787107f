package syntax

import "keystone/api"

// block reads statements at a depth, with the signs around them.
func (p *parser) block(depth int) []api.Stmt {
	var l []api.Stmt
	p.must("{")
	for !p.has("}") {
		l = append(l, p.stmt(depth))
	}
	return l
}

func (p *parser) stmt(depth int) api.Stmt {
	p.within(depth)
	first := p.look()
	s := api.Stmt{Op: stmtOf(first.Text), At: first.At}
	if s.Op != api.SAssign { // which begins with its name
		p.next()
	}
	switch s.Op {
	case api.SLet, api.SAssign:
		p.setting(&s, depth+1)
	case api.SIf, api.SWhile:
		p.choice(&s, depth+1)
	case api.SFor:
		p.scan(&s, depth+1)
	case api.SRaise, api.SReturn:
		p.leaving(&s, depth+1)
	default:
		p.access(&s, depth+1)
	}
	return s
}

// stmtOf is what a statement is by its first token; one that begins with none of these words must begin with a name.
func stmtOf(word string) int {
	switch word {
	case "let":
		return api.SLet
	case "if":
		return api.SIf
	case "while":
		return api.SWhile
	case "get":
		return api.SGet
	case "has":
		return api.SHas
	case "put":
		return api.SPut
	case "add":
		return api.SAdd
	case "change":
		return api.SChange
	case "del":
		return api.SDel
	case "for":
		return api.SFor
	case "raise":
		return api.SRaise
	case "return":
		return api.SReturn
	}
	return api.SAssign
}

// The rest of a statement, whose parts are at a depth.

func (p *parser) setting(s *api.Stmt, depth int) {
	s.Names = []string{p.name()}
	p.must("=")
	s.Args = []api.Term{p.term(depth)}
	p.must(";")
}

func (p *parser) choice(s *api.Stmt, depth int) {
	s.Args = []api.Term{p.term(depth)}
	s.Body = p.block(depth)
	if s.Op == api.SIf && p.has("else") {
		s.Else = p.block(depth)
	}
}

func (p *parser) scan(s *api.Stmt, depth int) {
	s.Names = p.names()
	p.must("in")
	s.Table = p.name()
	s.Args = p.anyTerms(depth)
	p.must("to")
	s.Vals = p.anyTerms(depth)
	s.Body = p.block(depth)
}

func (p *parser) leaving(s *api.Stmt, depth int) {
	s.Args = []api.Term{p.term(depth)}
	p.must(";")
}

// access reads the rest of a statement on one row of a table.
func (p *parser) access(s *api.Stmt, depth int) {
	switch s.Op {
	case api.SGet:
		if !p.is("=") {
			s.Names = p.names()
		}
		p.must("=")
	case api.SHas:
		s.Names = []string{p.name()}
		p.must("=")
	}
	s.Table = p.name()
	p.must("(")
	s.Args = p.terms(depth)
	p.must(")")
	switch s.Op {
	case api.SPut, api.SAdd, api.SChange:
		p.must("=")
		s.Vals = p.anyTerms(depth)
	}
	p.must(";")
}
