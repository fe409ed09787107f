package eval_test

import (
	"fmt"
	"strings"
	"testing"

	"keystone/api"
	"keystone/eval"
	"keystone/syntax"
	"keystone/tuple"
	"keystone/types"
)

// numbers tells one number behind the other, always the same ones.
type numbers uint64

func (n *numbers) below(most int) int {
	*n = *n*6364136223846793005 + 1442695040888963407
	return int(uint64(*n)>>33) % most
}

// oneOf is one of some things.
func oneOf[T any](n *numbers, l []T) T {
	return l[n.below(len(l))]
}

// said tells all of a thing; nil and empty lists alike.
func said(x any) string { return fmt.Sprintf("%+v", x) }

// read is the module that a text says, which must be right.
func read(t *testing.T, text string) api.Module {
	t.Helper()
	m, at, e := syntax.Parse(text)
	if e != api.OK {
		t.Fatalf("%.2000s: %d, %v", text, at, e)
	}
	if at, e := types.Check(api.Module{}, m); e != api.OK {
		t.Fatalf("%.2000s: %d, %v: %.60s", text, at, e, text[at:])
	}
	return m
}

// readTerm is the term that a text says.
func readTerm(t *testing.T, text string) api.Term {
	t.Helper()
	x, at, e := syntax.ParseTerm(text)
	if e != api.OK {
		t.Fatalf("%.500q: %d, %v", text, at, e)
	}
	return x
}

// vals are values out of their texts, with blanks between.
func vals(t *testing.T, text string) []api.Value {
	t.Helper()
	var l []api.Value
	for _, s := range strings.Fields(text) {
		v, e := tuple.Parse(s)
		if e != api.OK {
			t.Fatal(text, s, e)
		}
		l = append(l, v)
	}
	return l
}

// content is read from a text as "t: 1 2|3, 4 5|6; u: 1|": tables, and their rows, each a key and what stands behind it.
func content(t *testing.T, text string) []api.Content {
	t.Helper()
	var l []api.Content
	for _, part := range strings.Split(text, ";") {
		name, rows, is := strings.Cut(part, ":")
		if !is {
			continue
		}
		c := api.Content{Table: strings.TrimSpace(name)}
		for _, row := range strings.Split(rows, ", ") {
			if key, val, is := strings.Cut(row, "|"); is {
				c.Rows = append(c.Rows, api.Row{Key: vals(t, key), Val: vals(t, val)})
			}
		}
		l = append(l, c)
	}
	return l
}

// told is some content as such a text.
func told(c []api.Content) string {
	var parts []string
	for _, x := range c {
		var rows []string
		for _, row := range x.Rows {
			rows = append(rows, toldValues(row.Key)+"|"+toldValues(row.Val))
		}
		parts = append(parts, strings.TrimSpace(x.Table+": "+strings.Join(rows, ", ")))
	}
	return strings.Join(parts, "; ")
}

func toldValues(l []api.Value) string {
	var s []string
	for _, v := range l {
		text, e := tuple.Text(v)
		if e != api.OK {
			text = said(v)
		}
		s = append(s, text)
	}
	return strings.Join(s, " ")
}

// toldEnd is an outcome: its value, or its code.
func toldEnd(o api.Outcome) string {
	if o.End == api.EndValue && o.Code == 0 {
		return toldValues([]api.Value{o.Value})
	}
	if o.End == api.EndFailed && o.Value == (api.Value{}) {
		return toldCode(o.Code)
	}
	return said(o)
}

func toldCode(code int64) string {
	if code < 0 && code >= api.FailLong {
		return strings.Fields("over divide missing there fuel end long")[-code-1]
	}
	return fmt.Sprint("raised ", code)
}

// wantRun looks at what a run with much fuel comes to, at the rows behind it, and at its steps.
func wantRun(t *testing.T, m api.Module, name string, args []api.Value, c []api.Content, end, behind string, steps int) {
	t.Helper()
	o, got, spent, e := eval.Run(m, name, args, c, 1000)
	if e != api.OK || toldEnd(o) != end || told(got) != behind || spent != steps {
		t.Errorf("%s %s over %s: %v, %s, %d steps\n%s\nnot %s, %d steps\n%s", name, toldValues(args), told(c), e, toldEnd(o), spent, told(got), end, steps, behind)
	}
}

// wantBody looks at what a procedure p(a int, b int, o bool, s bytes, z point) of some statements, beside some helpers, comes to over some rows; with steps.
func wantBody(t *testing.T, body, args, rows, end, behind string, steps int) {
	t.Helper()
	m := read(t, world+"proc p(a int, b int, o bool, s bytes, z point) int { "+body+" }")
	c := content(t, rows)
	wantRun(t, m, "p", vals(t, args), c, end, told(behindAll(m, content(t, behind))), steps)
}

// behindAll is content with a member for each table, in order.
func behindAll(m api.Module, c []api.Content) []api.Content {
	var l []api.Content
	for _, x := range m.Tables {
		l = append(l, api.Content{Table: x.Name})
		for _, y := range c {
			if y.Table == x.Name {
				l[len(l)-1].Rows = y.Rows
			}
		}
	}
	return l
}

// world is what statements may speak of.
const world = `table t(k int; v int);
table none(a bool, b bytes;);
table wide(a int, b bytes, c bool; d point, e bytes);
helper inc(x int) int { return x + 1; }
helper yes(x bool) bool { return x; }
helper stop(x int) int { raise x; }
helper nought() int { }
helper both(x int, y int) int { if x < y { return x; } return y; }
`

// five is one argument of each kind, for such a procedure.
const five = `2 7 true "ab" (3,-4)`
