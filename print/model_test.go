package print_test

import (
	"strconv"
	"strings"
	"testing"

	"keystone/api"
	"keystone/lexis"
	"keystone/print"
	"keystone/syntax"
)

// model writes what a text can say as the chapter tells, but for its depth and length.
type model struct {
	loose *numbers // nil: no parentheses but those that must stand
}

// signOf is the sign and the level of a term.
func signOf(op int) (string, int) {
	for level, l := range leveled {
		for _, x := range l {
			if x.op == op {
				return x.sign, level
			}
		}
	}
	return "", 7
}

func (m model) term(x api.Term) string {
	s := m.bare(x)
	for m.loose != nil && m.loose.below(8) == 0 {
		s = "(" + s + ")"
	}
	return s
}

// operand is a term that stands where there may be one of a level, or of a higher one.
func (m model) operand(x api.Term, level int) string {
	if _, its := signOf(x.Op); its < level {
		return "(" + m.term(x) + ")"
	}
	return m.term(x)
}

// bare is a term without parentheses around it.
func (m model) bare(x api.Term) string {
	sign, level := signOf(x.Op)
	switch {
	case level == 6:
		return sign + m.operand(x.Args[0], 6)
	case level == 3:
		return m.operand(x.Args[0], 4) + " " + sign + " " + m.operand(x.Args[1], 4)
	case level < 6 && m.loose != nil: // where the first operand would be read with this sign, if it bound to the right
		return m.operand(x.Args[0], level+m.loose.below(2)) + " " + sign + " " + m.operand(x.Args[1], level+1)
	case level < 6:
		return m.operand(x.Args[0], level) + " " + sign + " " + m.operand(x.Args[1], level+1)
	}
	switch x.Op {
	case api.XLit:
		return literal(x.Val)
	case api.XVar:
		return x.Name
	case api.XCall:
		return x.Name + m.terms(x.Args)
	}
	return map[int]string{api.XLen: "len", api.XRe: "re", api.XIm: "im", api.XPoint: "point"}[x.Op] + m.terms(x.Args)
}

func literal(v api.Value) string {
	switch v.Kind {
	case api.KInt:
		return strconv.FormatInt(v.Int, 10)
	case api.KBool:
		return strconv.FormatBool(v.Yes)
	}
	q, _ := lexis.Quote(v.Bytes)
	return q
}

func (m model) terms(l []api.Term) string {
	var parts []string
	for _, x := range l {
		parts = append(parts, m.term(x))
	}
	return "(" + strings.Join(parts, ", ") + ")"
}

func (m model) stmts(l []api.Stmt, depth int) string {
	var b strings.Builder
	for _, x := range l {
		b.WriteString(m.stmt(x, depth))
	}
	return b.String()
}

func (m model) stmt(x api.Stmt, depth int) string {
	names, args, vals := strings.Join(x.Names, ", "), m.terms(x.Args), m.terms(x.Vals)
	if len(x.Args) > 0 && x.Table == "" {
		args = m.term(x.Args[0])
	}
	line := map[int]string{
		api.SLet:    "let " + names + " = " + args,
		api.SAssign: names + " = " + args,
		api.SIf:     "if " + args,
		api.SWhile:  "while " + args,
		api.SGet:    "get " + names + " = " + x.Table + args,
		api.SHas:    "has " + names + " = " + x.Table + args,
		api.SPut:    "put " + x.Table + args + " = " + vals,
		api.SAdd:    "add " + x.Table + args + " = " + vals,
		api.SChange: "change " + x.Table + args + " = " + vals,
		api.SDel:    "del " + x.Table + args,
		api.SFor:    "for " + names + " in " + x.Table + args + " to " + vals,
		api.SRaise:  "raise " + args,
		api.SReturn: "return " + args,
	}[x.Op]
	if names == "" {
		line = strings.Replace(line, "get  =", "get =", 1)
	}
	ahead := strings.Repeat("\t", depth)
	switch x.Op {
	case api.SIf, api.SWhile, api.SFor:
		s := ahead + line + " {\n" + m.stmts(x.Body, depth+1) + ahead + "}"
		if len(x.Else) > 0 {
			s += " else {\n" + m.stmts(x.Else, depth+1) + ahead + "}"
		}
		return s + "\n"
	}
	return ahead + line + ";\n"
}

func columnsText(l []api.Column) string {
	var parts []string
	for _, x := range l {
		parts = append(parts, x.Name+" "+[]string{"", "int", "bool", "bytes", "point"}[x.Kind])
	}
	return strings.Join(parts, ", ")
}

func (m model) module(x api.Module) string {
	var b strings.Builder
	for _, t := range x.Tables {
		b.WriteString(strings.TrimSuffix("table "+t.Name+"("+columnsText(t.Key)+"; "+columnsText(t.Val), " ") + ");\n")
	}
	for _, p := range x.Procs {
		word := map[bool]string{false: "proc ", true: "helper "}[p.Helper]
		b.WriteString(word + p.Name + "(" + columnsText(p.Params) + ") " + columnsText([]api.Column{{Kind: p.Result}})[1:] + " {\n")
		b.WriteString(m.stmts(p.Body, 1) + "}\n")
	}
	return b.String()
}

// maker makes things that a text can say, but for depth.
type maker struct {
	*numbers
	left int // how many more things there may be
}

func newMaker(n *numbers, size int) *maker { return &maker{n, size} }

// more tells whether one thing more is to be there, as one time of some.
func (m *maker) more(of int) bool {
	if m.left <= 0 || m.below(of) > 0 {
		return false
	}
	m.left--
	return true
}

func (m *maker) name() string {
	return oneOf(m.numbers, []string{"a", "b", "x", "lets", "t_1", "in_", "point2", "bal"})
}

func (m *maker) names(least int) []string {
	var l []string
	for len(l) < least || m.more(2) {
		l = append(l, m.name())
	}
	return l
}

func (m *maker) columns(least int) []api.Column {
	var l []api.Column
	for len(l) < least || m.more(2) {
		l = append(l, api.Column{Name: m.name(), Kind: 1 + m.below(4)})
	}
	return l
}

func (m *maker) term() api.Term {
	at := m.below(1000)
	if !m.more(2) {
		x := oneOf(m.numbers, []api.Term{number(int64(m.below(1<<31)) << m.below(32)), truth(at%2 == 0), text(oneOf(m.numbers, []string{"", "a", "(", ")", "\"\\\n", "\x00\xff#"})), variable(m.name()), variable(m.name())})
		x.At = at
		return x
	}
	op := oneOf(m.numbers, []int{api.XCall, api.XNeg, api.XNot, api.XLen, api.XRe, api.XIm, api.XPoint, 0, 0, 0, 0, 0, 0, 0})
	if op == 0 {
		op = oneOf(m.numbers, leveled[1+m.below(5)]).op
	}
	switch op {
	case api.XCall:
		return api.Term{Op: op, Name: m.name(), Args: m.terms(0), At: at}
	case api.XNeg, api.XNot, api.XLen, api.XRe, api.XIm:
		return api.Term{Op: op, Args: terms(m.term()), At: at}
	}
	return api.Term{Op: op, Args: terms(m.term(), m.term()), At: at}
}

func (m *maker) terms(least int) []api.Term {
	var l []api.Term
	for len(l) < least || m.more(2) {
		l = append(l, m.term())
	}
	return l
}

func (m *maker) stmts() []api.Stmt {
	var l []api.Stmt
	for m.more(2) {
		l = append(l, m.stmt())
	}
	return l
}

func (m *maker) stmt() api.Stmt {
	x := api.Stmt{Op: 1 + m.below(13), At: m.below(1000)}
	switch x.Op {
	case api.SLet, api.SAssign:
		x.Names, x.Args = names(m.name()), terms(m.term())
	case api.SIf:
		x.Args, x.Body, x.Else = terms(m.term()), m.stmts(), m.stmts()
	case api.SWhile:
		x.Args, x.Body = terms(m.term()), m.stmts()
	case api.SGet:
		x.Names, x.Table, x.Args = m.names(0), m.name(), m.terms(1)
	case api.SHas:
		x.Names, x.Table, x.Args = names(m.name()), m.name(), m.terms(1)
	case api.SPut, api.SAdd, api.SChange:
		x.Table, x.Args, x.Vals = m.name(), m.terms(1), m.terms(0)
	case api.SDel:
		x.Table, x.Args = m.name(), m.terms(1)
	case api.SFor:
		x.Names, x.Table, x.Args, x.Vals, x.Body = m.names(1), m.name(), m.terms(0), m.terms(0), m.stmts()
	default:
		x.Args = terms(m.term())
	}
	return x
}

func (m *maker) module() api.Module {
	var all api.Module
	for m.left > 0 {
		m.left--
		at := m.below(1000)
		if m.below(3) == 0 {
			all.Tables = append(all.Tables, api.Table{Name: m.name(), Key: m.columns(1), Val: m.columns(0), At: at})
		} else {
			all.Procs = append(all.Procs, api.Proc{Name: m.name(), Helper: at%2 == 0, Params: m.columns(0), Result: 1 + m.below(4), Body: m.stmts(), At: at})
		}
	}
	return all
}

func TestMadeTerms(t *testing.T) { // P14.1
	n := numbers(11)
	for i := range 5000 {
		x := newMaker(&n, i%40).term()
		wantModelTerm(t, x)
	}
}

// wantModelTerm looks at the text of a term that has all that it should have: whether it is too deep is syntax's to say.
func wantModelTerm(t *testing.T, x api.Term) bool {
	t.Helper()
	s := model{}.term(x)
	if _, _, e := syntax.ParseTerm(s); e == api.ErrDeep {
		wantNoTerm(t, x, api.ErrPrint)
		return false
	}
	wantTerm(t, x, s)
	return true
}

func TestMadeModules(t *testing.T) { // P14.1
	n := numbers(12)
	for i := range 5000 {
		x := newMaker(&n, i%60).module()
		wantModelModule(t, x)
	}
}

func wantModelModule(t *testing.T, x api.Module) bool {
	t.Helper()
	s := model{}.module(x)
	if _, _, e := syntax.Parse(s); e == api.ErrDeep {
		wantNoModule(t, x, api.ErrPrint)
		return false
	}
	wantModule(t, x, s)
	return true
}

func TestMadeParts(t *testing.T) { // P14.1
	n := numbers(13)
	for i := range 3000 {
		x := newMaker(&n, i%40).module()
		for _, p := range x.Tables {
			s, e := print.Table(p)
			want(t, s, e, p, model{}.module(api.Module{Tables: []api.Table{p}}))
		}
		for _, p := range x.Procs {
			text := model{}.module(api.Module{Procs: []api.Proc{p}})
			if _, _, e := syntax.Parse(text); e == api.OK {
				s, e := print.Proc(p)
				want(t, s, e, p, text)
			}
			for _, x := range p.Body {
				wantModelStmt(t, x, 1+n.below(5))
			}
		}
	}
}

// aroundHead is what stands ahead of statements that are to be one deeper, and aroundTail what stands behind.
const (
	aroundHead = "for a in t() to () {"
	aroundTail = "}"
)

func wantModelStmt(t *testing.T, x api.Stmt, deep int) bool {
	t.Helper()
	text := model{}.stmt(x, deep)
	all := procHead + strings.Repeat(aroundHead, deep-1) + text + strings.Repeat(aroundTail, deep-1) + procTail
	s, e := print.Stmt(x, deep)
	if _, _, deepE := syntax.Parse(all); deepE == api.ErrDeep {
		wantNone(t, s, e, x, api.ErrPrint)
		return false
	}
	want(t, s, e, x, text)
	return true
}
