package syntax_test

import (
	"strconv"
	"strings"
	"testing"

	"keystone/api"
	"keystone/lexis"
)

// maker writes a text by the grammar, and remembers what it says.
type maker struct {
	n      *numbers // what is said
	gaps   *numbers // what stands between the tokens; nil: a blank
	left   int      // how many more things there may be
	text   strings.Builder
	begins []begin
}

// begin is where a statement, a term or an operand begins, and how deep.
type begin struct{ at, depth int }

func newMaker(n, gaps *numbers, size int) *maker {
	m := &maker{n: n, gaps: gaps, left: size}
	m.gap()
	return m
}

func (m *maker) gap() {
	if m.gaps == nil {
		m.text.WriteString(" ")
		return
	}
	for range 1 + m.gaps.below(3) {
		m.text.WriteString(oneOf(m.gaps, []string{" ", "\t", "\r", "\n", "#\n", "# } ) ; \"\x00\xff\n"}))
	}
}

// place is where the next token will stand.
func (m *maker) place() int { return m.text.Len() }

func (m *maker) begin(depth int) { m.begins = append(m.begins, begin{m.place(), depth}) }

// more tells whether one thing more is to be there, as one time of some.
func (m *maker) more(of int) bool {
	if m.left <= 0 || m.n.below(of) > 0 {
		return false
	}
	m.left--
	return true
}

// put writes a token, and tells its place.
func (m *maker) put(token string) int {
	at := m.place()
	m.text.WriteString(token)
	m.gap()
	return at
}

func (m *maker) name() string {
	s := oneOf(m.n, []string{"a", "b", "x", "lets", "t_1", "in_", "point2", "bal"})
	m.put(s)
	return s
}

func (m *maker) names() []string {
	l := []string{m.name()}
	for m.more(3) {
		m.put(",")
		l = append(l, m.name())
	}
	return l
}

func (m *maker) columns() []api.Column {
	var l []api.Column
	for {
		name := m.name()
		kind := m.n.below(4)
		m.put([]string{"int", "bool", "bytes", "point"}[kind])
		l = append(l, column(name, []int{api.KInt, api.KBool, api.KBytes, api.KPoint}[kind]))
		if !m.more(2) {
			return l
		}
		m.put(",")
	}
}

func (m *maker) module() api.Module {
	var all api.Module
	for m.left > 0 {
		m.left--
		if m.n.below(3) == 0 {
			all.Tables = append(all.Tables, m.table())
		} else {
			all.Procs = append(all.Procs, m.proc())
		}
	}
	return all
}

func (m *maker) table() api.Table {
	t := api.Table{At: m.put("table"), Name: m.name()}
	m.put("(")
	t.Key = m.columns()
	m.put(";")
	if m.n.below(2) == 0 {
		t.Val = m.columns()
	}
	m.put(")")
	m.put(";")
	return t
}

func (m *maker) proc() api.Proc {
	p := api.Proc{Helper: m.n.below(2) == 0, At: m.place()}
	m.put(map[bool]string{false: "proc", true: "helper"}[p.Helper])
	p.Name = m.name()
	m.put("(")
	if m.n.below(2) == 0 {
		p.Params = m.columns()
	}
	m.put(")")
	p.Result = 1 + m.n.below(4)
	m.put([]string{"", "int", "bool", "bytes", "point"}[p.Result])
	p.Body = m.block(1)
	return p
}

func (m *maker) block(depth int) []api.Stmt {
	var l []api.Stmt
	m.put("{")
	for m.more(2) {
		l = append(l, m.stmt(depth))
	}
	m.put("}")
	return l
}

func (m *maker) stmt(depth int) api.Stmt {
	m.begin(depth)
	s := api.Stmt{Op: 1 + m.n.below(13), At: m.place()}
	if s.Op != api.SAssign {
		m.put([]string{"", "let", "", "if", "while", "get", "has", "put", "add", "change", "del", "for", "raise", "return"}[s.Op])
	}
	switch s.Op {
	case api.SLet, api.SAssign:
		s.Names = []string{m.name()}
		m.put("=")
		s.Args = terms(m.term(depth + 1))
		m.put(";")
	case api.SIf, api.SWhile:
		s.Args = terms(m.term(depth + 1))
		s.Body = m.block(depth + 1)
		if s.Op == api.SIf && m.n.below(2) == 0 {
			m.put("else")
			s.Else = m.block(depth + 1)
		}
	case api.SRaise, api.SReturn:
		s.Args = terms(m.term(depth + 1))
		m.put(";")
	case api.SFor:
		s.Names = m.names()
		m.put("in")
		s.Table = m.name()
		s.Args = m.terms(0, depth+1)
		m.put("to")
		s.Vals = m.terms(0, depth+1)
		s.Body = m.block(depth + 1)
	default:
		m.onRow(&s, depth)
	}
	return s
}

func (m *maker) onRow(s *api.Stmt, depth int) {
	if s.Op == api.SHas || s.Op == api.SGet && m.n.below(3) > 0 {
		s.Names = []string{m.name()}
		for s.Op == api.SGet && m.more(2) {
			m.put(",")
			s.Names = append(s.Names, m.name())
		}
	}
	if s.Op == api.SGet || s.Op == api.SHas {
		m.put("=")
	}
	s.Table = m.name()
	s.Args = m.terms(1, depth+1)
	if s.Op == api.SPut || s.Op == api.SAdd || s.Op == api.SChange {
		m.put("=")
		s.Vals = m.terms(0, depth+1)
	}
	m.put(";")
}

// terms are some in parentheses, and so many at least.
func (m *maker) terms(least, depth int) []api.Term {
	var l []api.Term
	m.put("(")
	for len(l) < least || m.more(2) {
		if len(l) > 0 {
			m.put(",")
		}
		l = append(l, m.term(depth))
	}
	m.put(")")
	return l
}

func (m *maker) term(depth int) api.Term {
	m.begin(depth)
	return m.line(1, depth)
}

func (m *maker) line(line, depth int) api.Term {
	if line == 6 {
		return m.sole(depth)
	}
	t := m.line(line+1, depth)
	for k := 1; (line != 3 || k == 1) && m.more(4); k++ {
		o := oneOf(m.n, binary)
		for o.line != line {
			o = oneOf(m.n, binary)
		}
		at := m.put(o.sign)
		m.begin(depth + k)
		t = term(o.op, at, t, m.line(line+1, depth+k))
	}
	return t
}

func (m *maker) sole(depth int) api.Term {
	if !m.more(5) {
		return m.prime(depth)
	}
	i := m.n.below(2)
	at := m.put([]string{"-", "!"}[i])
	m.begin(depth + 1)
	return term([]int{api.XNeg, api.XNot}[i], at, m.sole(depth+1))
}

func (m *maker) prime(depth int) api.Term {
	if m.more(2) {
		return m.wide(depth)
	}
	switch m.n.below(5) {
	case 0:
		n := int64(m.n.below(1<<31)) << m.n.below(32)
		return number(n, m.put(strconv.FormatInt(n, 10)))
	case 1:
		yes := m.n.below(2) == 0
		return truth(yes, m.put(strconv.FormatBool(yes)))
	case 2:
		s := oneOf(m.n, []string{"", "a", "table", "\"\\\n", "\x00\xff#"})
		q, _ := lexis.Quote(s)
		return text(s, m.put(q))
	}
	at := m.place()
	return variable(m.name(), at)
}

// wide is a term with others in parentheses.
func (m *maker) wide(depth int) api.Term {
	at := m.place()
	i := m.n.below(6)
	switch i {
	case 0, 1, 2:
		m.put([]string{"len", "re", "im"}[i])
		m.put("(")
		t := term([]int{api.XLen, api.XRe, api.XIm}[i], at, m.term(depth+1))
		m.put(")")
		return t
	case 3:
		m.put("point")
		m.put("(")
		a := m.term(depth + 1)
		m.put(",")
		b := m.term(depth + 1)
		m.put(")")
		return term(api.XPoint, at, a, b)
	case 4:
		m.put("(")
		t := m.term(depth + 1)
		m.put(")")
		return t
	}
	return call(m.name(), at, m.terms(0, depth+1)...)
}

// firstBelow is where the first thing begins that is deeper than that.
func (m *maker) firstBelow(depth int) (int, bool) {
	for _, b := range m.begins {
		if b.depth > depth {
			return b.at, true
		}
	}
	return 0, false
}

func TestMadeModules(t *testing.T) { // P13.1
	n, gaps := numbers(11), numbers(12)
	for i := range 5000 {
		m := newMaker(&n, &gaps, i%60)
		want := m.module()
		if at, deep := m.firstBelow(api.MaxDepth); deep {
			wantFault(t, m.text.String(), at, api.ErrDeep)
		} else {
			wantModule(t, m.text.String(), want)
		}
	}
}

func TestMadeTerms(t *testing.T) { // P13.1
	n, gaps := numbers(13), numbers(14)
	for i := range 5000 {
		m := newMaker(&n, &gaps, i%60)
		want := m.term(1)
		if at, deep := m.firstBelow(api.MaxDepth); deep {
			wantTermFault(t, m.text.String(), at, api.ErrDeep)
		} else {
			wantTerm(t, m.text.String(), want)
		}
	}
}

func TestMadeTermsOfAnyDepth(t *testing.T) { // P13.1: in ever more parentheses
	n := numbers(15)
	for range 150 {
		m := newMaker(&n, nil, 1+n.below(40))
		want := m.term(1)
		for by := range api.MaxDepth + 2 {
			s := strings.Repeat("(", by) + m.text.String() + strings.Repeat(")", by)
			at, deep := m.firstBelow(api.MaxDepth - by)
			switch {
			case by > api.MaxDepth:
				wantTermFault(t, s, api.MaxDepth, api.ErrDeep)
			case deep:
				wantTermFault(t, s, at+by, api.ErrDeep)
			default:
				wantTerm(t, s, movedTerms(terms(want), by)[0])
			}
		}
	}
}

// aroundHead is what stands ahead of statements that are to be one deeper, and aroundTail what stands behind.
const (
	aroundHead = "for a in t() to () {"
	aroundTail = "}"
)

func TestMadeStatementsOfAnyDepth(t *testing.T) { // P13.1: in ever more others
	n := numbers(16)
	for range 100 {
		m := newMaker(&n, nil, 1+n.below(30))
		want := []api.Stmt{m.stmt(1), m.stmt(1)}
		for by := range api.MaxDepth + 2 {
			s := strings.Repeat(aroundHead, by) + m.text.String() + strings.Repeat(aroundTail, by)
			at, deep := m.firstBelow(api.MaxDepth - by)
			switch {
			case by > api.MaxDepth:
				wantFault(t, procHead+s+procTail, len(procHead)+api.MaxDepth*len(aroundHead), api.ErrDeep)
			case deep:
				wantFault(t, procHead+s+procTail, len(procHead)+by*len(aroundHead)+at, api.ErrDeep)
			default:
				wantBody(t, s, around(want, by)...)
			}
		}
	}
}

// around puts statements into others, so many times.
func around(l []api.Stmt, by int) []api.Stmt {
	l = movedStmts(l, by*len(aroundHead))
	for by > 0 {
		by--
		l = []api.Stmt{{Op: api.SFor, Names: names("a"), Table: "t", Body: l, At: by * len(aroundHead)}}
	}
	return l
}

func TestSpoiltMadeTexts(t *testing.T) { // P13.1
	g := readGrammar()
	n := numbers(17)
	others := append(strings.Fields(`( ) { } , ; = == < && || ! + - * % x 1 "a"`), lexis.Words()...)
	for range 3000 {
		m := newMaker(&n, nil, 1+n.below(20))
		m.module()
		l := strings.Fields(m.text.String())
		for range 1 + n.below(2) {
			i := n.below(len(l))
			switch n.below(3) {
			case 0:
				l[i] = oneOf(&n, others)
			case 1:
				l[i] += " " + oneOf(&n, others)
			case 2:
				l[i] = ""
			}
		}
		g.wantModel(t, strings.Join(l, " "))
	}
}
