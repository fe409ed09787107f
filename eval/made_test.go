package eval_test

import (
	"fmt"
	"slices"
	"strings"

	"keystone/api"
	"keystone/print"
	"keystone/tuple"
)

// maker makes texts of modules that are right.
type maker struct {
	n       *numbers
	tables  []api.Table
	helpers []api.Proc // those that may be called
	visible []api.Column
	many    int // of variables that the procedure has
	helper  bool
	result  int
}

var kinds = []int{api.KInt, api.KBool, api.KBytes, api.KPoint}

// made is the text of a module of a few tables, helpers and procedures.
func made(n *numbers, size int) string {
	m := maker{n: n}
	var b strings.Builder
	for i := range 1 + n.below(3) {
		t := api.Table{Name: fmt.Sprint("t", i)}
		for range 1 + n.below(3) {
			t.Key = append(t.Key, api.Column{Name: fmt.Sprint("k", len(t.Key)), Kind: kinds[n.below(3)]})
		}
		for range n.below(4) {
			t.Val = append(t.Val, api.Column{Name: fmt.Sprint("v", len(t.Val)), Kind: oneOf(n, kinds)})
		}
		m.tables = append(m.tables, t)
		line, _ := print.Table(t)
		b.WriteString(line)
	}
	for i := range n.below(4) {
		p := api.Proc{Name: fmt.Sprint("h", i), Helper: true, Result: oneOf(n, kinds)}
		b.WriteString("helper " + m.proc(&p, size/2+1))
		m.helpers = append(m.helpers, p)
	}
	for i := range 1 + n.below(3) {
		b.WriteString("proc " + m.proc(&api.Proc{Name: fmt.Sprint("p", i), Result: oneOf(n, kinds)}, size))
	}
	return b.String()
}

func (m *maker) proc(p *api.Proc, size int) string {
	m.visible, m.many, m.helper, m.result = nil, 0, p.Helper, p.Result
	for range m.n.below(4) {
		p.Params = append(p.Params, m.declare(oneOf(m.n, kinds)))
	}
	var l []string
	for _, c := range p.Params {
		l = append(l, c.Name+" "+print.Kind(c.Kind))
	}
	body := m.stmts(1+m.n.below(size), 3)
	if m.n.below(8) > 0 {
		body += "return " + m.term(p.Result, 2) + ";\n"
	}
	return fmt.Sprintf("%s(%s) %s {\n%s}\n", p.Name, strings.Join(l, ", "), print.Kind(p.Result), body)
}

// declare makes a variable visible, under a name that none has which is so.
func (m *maker) declare(kind int) api.Column {
	names := strings.Fields("a b c d e f g h i j")
	names = slices.DeleteFunc(names, func(s string) bool {
		return slices.ContainsFunc(m.visible, func(c api.Column) bool { return c.Name == s })
	})
	c := api.Column{Name: oneOf(m.n, append(names, fmt.Sprint("x", m.many))), Kind: kind}
	m.visible = append(m.visible, c)
	m.many++
	return c
}

func (m *maker) declareAll(l []api.Column) string {
	var names []string
	for _, c := range l {
		names = append(names, m.declare(c.Kind).Name)
	}
	return strings.Join(names, ", ")
}

func (m *maker) block(deep int) string {
	was := len(m.visible)
	s := "{\n" + m.stmts(m.n.below(4), deep-1) + "}"
	m.visible = m.visible[:was]
	return s
}

func (m *maker) stmts(many, deep int) string {
	var b strings.Builder
	for range many {
		b.WriteString(m.stmt(deep) + "\n")
	}
	return b.String()
}

func (m *maker) stmt(deep int) string {
	switch i := m.n.below(32); {
	case i == 0:
		return "raise " + m.term(api.KInt, 2) + ";"
	case i == 1:
		return "return " + m.term(m.result, 3) + ";"
	case i < 5 && deep > 0:
		s := "if " + m.term(api.KBool, 2) + " " + m.block(deep)
		if m.n.below(2) == 0 {
			s += " else " + m.block(deep)
		}
		return s
	case i < 8 && deep > 0 && m.many < 50:
		c := m.declare(api.KInt).Name
		s := fmt.Sprintf("let %s = 0; while %s < %d && %s {\n%s = %s + 1;\n", c, c, m.n.below(5), m.term(api.KBool, 1), c, c)
		return s + strings.TrimPrefix(m.block(deep), "{\n")
	case i < 9 && deep > 0:
		return "while " + m.term(api.KBool, 2) + " " + m.block(deep)
	case i < 25 && !m.helper && m.many < 50:
		return m.onTable(oneOf(m.n, m.tables), deep)
	case i < 28 && len(m.visible) > 0:
		c := oneOf(m.n, m.visible)
		return c.Name + " = " + m.term(c.Kind, 3) + ";"
	case m.many < 50:
		kind := oneOf(m.n, kinds)
		s := m.term(kind, 3)
		return "let " + m.declare(kind).Name + " = " + s + ";"
	}
	return "if " + m.term(api.KBool, 2) + " { }"
}

func (m *maker) onTable(t api.Table, deep int) string {
	key := t.Name + "(" + m.keys(t.Key) + ")"
	switch i := m.n.below(16); {
	case i < 2:
		if m.n.below(3) == 0 { // so that it is there
			key += " = (" + m.terms(t.Val) + "); get " + m.declareAll(t.Val) + " = " + key
			return "put " + key + ";"
		}
		return "get " + m.declareAll(t.Val) + " = " + key + ";"
	case i < 4:
		return "has " + m.declare(api.KBool).Name + " = " + key + ";"
	case i < 8:
		return "put " + key + " = (" + m.terms(t.Val) + ");"
	case i < 9:
		return "add " + key + " = (" + m.terms(t.Val) + ");"
	case i < 10:
		return "change " + key + " = (" + m.terms(t.Val) + ");"
	case i < 11 || deep == 0:
		return "del " + key + ";"
	}
	from, to := m.keys(t.Key[:m.n.below(len(t.Key)+1)]), m.keys(t.Key[:m.n.below(len(t.Key)+1)])
	was := len(m.visible)
	s := "for " + m.declareAll(slices.Concat(t.Key, t.Val)) + " in " + t.Name + "(" + from + ") to (" + to + ") "
	if m.n.below(2) == 0 { // what it has come to goes, or something else
		l := m.visible[was:][:len(t.Key)]
		var names []string
		for _, c := range l {
			names = append(names, c.Name)
		}
		row, has := t.Name+"("+strings.Join(names, ", ")+")", m.declare(api.KBool).Name
		s += "{\nhas " + has + " = " + row + ";\nif " + has + " {\ndel " + row + ";\n}\n" + strings.TrimPrefix(m.block(deep), "{\n")
	} else {
		s += m.block(deep)
	}
	m.visible = m.visible[:was]
	return s
}

func (m *maker) terms(like []api.Column) string {
	var l []string
	for _, c := range like {
		l = append(l, m.term(c.Kind, 2))
	}
	return strings.Join(l, ", ")
}

// keys are terms most of which come to few values.
func (m *maker) keys(like []api.Column) string {
	var l []string
	for _, c := range like {
		s := m.term(c.Kind, 1)
		if c.Kind == api.KInt {
			s = oneOf(m.n, []string{"0", "1", "2", "3", s + " % 3", s})
		} else if m.n.below(4) > 0 {
			s = m.term(c.Kind, 0)
		}
		l = append(l, s)
	}
	return strings.Join(l, ", ")
}

// term is a term of a kind, in parentheses if it has an operator between two others.
func (m *maker) term(kind, deep int) string {
	i := m.n.below(10)
	var l []string
	for _, c := range m.visible {
		if c.Kind == kind {
			l = append(l, c.Name)
		}
	}
	if len(l) > 0 && (i < 4 || deep <= 0) {
		return oneOf(m.n, l)
	}
	if i < 6 || deep <= 0 {
		return m.literal(kind)
	}
	if i == 6 {
		for _, p := range m.helpers {
			if p.Result == kind {
				return p.Name + "(" + m.terms(p.Params) + ")"
			}
		}
	}
	x := func(kind int) string { return m.term(kind, deep-1) }
	switch kind {
	case api.KInt:
		if m.n.below(4) == 0 {
			return oneOf(m.n, []string{"len(" + x(api.KBytes) + ")", "re(" + x(api.KPoint) + ")", "im(" + x(api.KPoint) + ")", "-" + x(kind)})
		}
		return "(" + x(kind) + oneOf(m.n, []string{" + ", " - ", " * ", " / ", " % "}) + x(kind) + ")"
	case api.KBool:
		like := oneOf(m.n, kinds)
		return oneOf(m.n, []string{
			"!" + x(kind), "(" + x(kind) + " && " + x(kind) + ")", "(" + x(kind) + " || " + x(kind) + ")",
			"(" + x(api.KInt) + oneOf(m.n, []string{" < ", " <= "}) + x(api.KInt) + ")", "(" + x(api.KBytes) + oneOf(m.n, []string{" < ", " <= "}) + x(api.KBytes) + ")", "(" + x(like) + oneOf(m.n, []string{" == ", " != "}) + x(like) + ")",
		})
	case api.KBytes:
		return "(" + x(kind) + " + " + x(kind) + ")"
	}
	return oneOf(m.n, []string{"-" + x(kind), "(" + x(kind) + oneOf(m.n, []string{" + ", " - ", " * "}) + x(kind) + ")", "point(" + x(api.KInt) + ", " + x(api.KInt) + ")"})
}

func (m *maker) literal(kind int) string {
	switch kind {
	case api.KInt:
		return oneOf(m.n, []string{"0", "1", "2", "3", "4", "5", "7", "67108864", "9223372036854775807"})
	case api.KBool:
		return oneOf(m.n, []string{"true", "false"})
	case api.KBytes:
		return oneOf(m.n, []string{`""`, `"a"`, `"b"`, `"ab"`, `"\x00"`, `"\xff"`, `"` + strings.Repeat("a", 100+m.n.below(2000)/(1+m.n.below(8))) + `"`})
	}
	return oneOf(m.n, []string{"point(0, 1)", "point(1, -2)", "point(67108864, 3)", "point(0, 0)"})
}

// someValue is a value of a kind, out of few.
func someValue(n *numbers, kind int) api.Value {
	switch kind {
	case api.KInt:
		return tuple.Int(oneOf(n, []int64{0, 1, 2, 3, 4, 0, 1, 2, 3, 4, -1, 1 << 26, -1 << 63, 1<<63 - 1}))
	case api.KBool:
		return tuple.Bool(n.below(2) == 0)
	case api.KBytes:
		return tuple.Bytes(oneOf(n, []string{"", "a", "b", "ab", "a", "b", "\x00", "\xff", strings.Repeat("a", 2048), strings.Repeat("a", 4096)}))
	}
	return tuple.Point(int64(n.below(5)-2), oneOf(n, []int64{0, 1, -1, 1 << 26, -1 << 26}))
}

func someValues(n *numbers, like []api.Column) []api.Value {
	var l []api.Value
	for _, c := range like {
		l = append(l, someValue(n, c.Kind))
	}
	return l
}

// someContent is content that may be for a module: of some of its tables, in any order.
func someContent(n *numbers, m api.Module) []api.Content {
	var c []api.Content
	for _, x := range m.Tables {
		if n.below(8) == 0 {
			continue
		}
		var l []api.Row
		for range n.below(12) {
			key := someValues(n, x.Key)
			if !slices.ContainsFunc(l, func(row api.Row) bool { return orderOf(row.Key, key) == 0 }) {
				l = append(l, api.Row{Key: key, Val: someValues(n, x.Val)})
			}
		}
		slices.SortFunc(l, func(a, b api.Row) int { return orderOf(a.Key, b.Key) })
		c = append(c, api.Content{Table: x.Name, Rows: l})
	}
	if len(c) > 1 && n.below(2) == 0 {
		slices.Reverse(c)
	}
	return c
}
