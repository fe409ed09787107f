package eval_test

import (
	"math"
	"slices"
	"strings"
	"testing"

	"keystone/api"
	"keystone/eval"
	"keystone/syntax"
	"keystone/tuple"
)

// notRight are modules that may not be; where they can have it, they have a procedure p without parameters.
func notRight(t *testing.T) []api.Module {
	t.Helper()
	var l []api.Module
	for _, text := range []string{
		"table t(k point;); proc p() int { return 1; }", "table p(k int;); proc p() int { return 1; }", "proc p() int { return true; }", "proc p() int { return x; }", "proc p() int { return 1; } proc p() int { return 1; }",
		"proc p() int { return 1; } helper f() int { return f(); }", "proc p() int { get v = t(1); return 1; }", "proc p() int { return 1; } proc q() int { return p(); }", "table t(k int;); proc p() int { return 1; } helper h() int { del t(1); return 1; }",
	} {
		m, _, e := syntax.Parse(text)
		if e != api.OK {
			t.Fatal(text, e)
		}
		l = append(l, m)
	}
	term := make([]api.Term, 1)
	term[0] = api.Term{Op: api.XNeg, Args: term}
	for _, body := range [][]api.Stmt{{{}}, {{Op: 14}}, {{Op: api.SReturn}}, {{Op: api.SReturn, Args: term}}, {{Op: api.SReturn, Args: []api.Term{{Op: api.XLit, Val: tuple.Int(-1)}}}}, {{Op: api.SLet, Names: []string{"let"}, Args: []api.Term{{Op: api.XLit, Val: tuple.Int(1)}}}}} {
		l = append(l, api.Module{Procs: []api.Proc{{Name: "p", Result: api.KInt, Body: body}}})
	}
	p := api.Proc{Name: "p", Result: api.KInt}
	return append(l, api.Module{Procs: []api.Proc{{Name: "p"}}}, api.Module{Procs: []api.Proc{{}}}, api.Module{Tables: []api.Table{{Name: "t"}}, Procs: []api.Proc{p}}, api.Module{Tables: []api.Table{{}}, Procs: []api.Proc{p}}, api.Module{Procs: []api.Proc{{Name: "P", Result: api.KInt}, p}})
}

func TestCheck(t *testing.T) { // P16.1
	m := read(t, "table t(k int, s bytes; o bool, z point); table u(o bool;); table w(s bytes; s2 bytes); proc p() int { return 1; }")
	long := tuple.Bytes(strings.Repeat("a", 4096))
	for _, text := range []string{
		"", "t:", "t:; u:; w:", "w:; t:", "u: true|; t:", `t: 1 "a"|true (1,2)`, `t: -9223372036854775808 ""|true (1,2), -1 "b"|true (1,2), 0 ""|true (1,2), 0 "a"|false (0,0), 0 "a\x00"|true (1,2), 0 "b"|true (1,2), 1 ""|true (1,2)`,
		"u: false|, true|", `w: ""|"", "\x00"|"b", "a"|"a", "\xff"|""; u: true|`,
	} {
		if e := eval.Check(m, content(t, text)); e != api.OK {
			t.Error(text, e)
		}
	}
	for _, text := range []string{
		"x:", "p:", ":", "T:", "t :; t:", "t:; t:", "t:; u:; t:", "u: true|; u: false|", "w:; u:; x:", `t: 1 "a"|true (1,2); t:`,
		`t: |true (1,2)`, `t: 1|true (1,2)`, `t: 1 "a" 1|true (1,2)`, `t: 1 "a"|`, `t: 1 "a"|true`, `t: 1 "a"|true (1,2) 1`, `t: 1 "a" true|(1,2)`, "u: |", "u: true|true",
		`t: true "a"|true (1,2)`, `t: 1 1|true (1,2)`, `t: 1 "a"|1 (1,2)`, `t: 1 "a"|true 1`, `t: "a" 1|true (1,2)`, "u: 1|", "u: (0,0)|", `t: (0,0) "a"|true (1,2)`,
		`t: 1 "a"|true (1,2), 1 "a"|true (1,2)`, `t: 1 "a"|true (1,2), 1 "a"|false (1,2)`, `t: 1 "b"|true (1,2), 1 "a"|true (1,2)`, `t: 2 "a"|true (1,2), 1 "b"|true (1,2)`, "u: true|, false|", "u: true|, true|", `w: "a"|"", ""|""`, `w: "\xff"|"", "a"|""`, `w: "a\x00"|"", "a"|""`,
		`t: 1 "a"|true (1,2), 2 "a"|true (1,2), 2 "a"|true (1,2)`, `t: 1 "a"|true (1,2), 3 "a"|true (1,2), 2 "a"|true (1,2)`, `u: true|; w: "a"|1`, `t: 1 "a"|true (1,2), 2 "a"|true`, `t: 1 "a"|true (1,2), 2|true (1,2)`,
	} {
		c := content(t, text)
		if text == "t :; t:" {
			c[0].Table = "t "
		}
		if e := eval.Check(m, c); e != api.ErrEvalContent {
			t.Error(text, e)
		}
		for _, bad := range notRight(t) {
			if e := eval.Check(bad, c); e != api.ErrEvalModule {
				t.Error(text, said(bad), e)
			}
		}
	}
	for i, x := range []struct {
		key, val []api.Value
		e        api.Errno
	}{
		{[]api.Value{tuple.Int(1), long}, []api.Value{tuple.Bool(true), tuple.Point(1<<26, -1<<26)}, api.OK},
		{[]api.Value{{Kind: 1, Point: complex(math.Copysign(0, -1), 0)}, long}, []api.Value{tuple.Bool(true), tuple.Point(0, 0)}, api.OK},
		{[]api.Value{tuple.Int(1), tuple.Bytes(long.Bytes + "a")}, []api.Value{tuple.Bool(true), tuple.Point(1, 2)}, api.ErrEvalContent},
		{[]api.Value{tuple.Int(1), long}, []api.Value{tuple.Bool(true), {Kind: 4, Point: 0.5}}, api.ErrEvalContent},
		{[]api.Value{tuple.Int(1), long}, []api.Value{tuple.Bool(true), tuple.Point(1<<26+1, 0)}, api.ErrEvalContent},
		{[]api.Value{{Kind: 1, Yes: true}, long}, []api.Value{tuple.Bool(true), tuple.Point(1, 2)}, api.ErrEvalContent},
		{[]api.Value{tuple.Int(1), {Kind: 3, Int: 1}}, []api.Value{tuple.Bool(true), tuple.Point(1, 2)}, api.ErrEvalContent},
		{[]api.Value{tuple.Int(1), {}}, []api.Value{{Kind: 2, Bytes: "a"}, tuple.Point(1, 2)}, api.ErrEvalContent},
	} {
		if e := eval.Check(m, []api.Content{{Table: "t", Rows: []api.Row{{Key: x.key, Val: x.val}}}}); e != x.e {
			t.Error(i, e)
		}
	}
	if e := eval.Check(api.Module{}, nil); e != api.OK {
		t.Error(e)
	}
	if e := eval.Check(api.Module{}, content(t, "t:")); e != api.ErrEvalContent {
		t.Error(e)
	}
}

// spoilContent puts into content what may make it such as may not be.
func spoilContent(n *numbers, c []api.Content) []api.Content {
	c = slices.Clone(c)
	if len(c) == 0 || n.below(8) == 0 {
		return append(c, api.Content{Table: oneOf(n, []string{"t0", "t1", "t2", "t3", ""})})
	}
	x := &c[n.below(len(c))]
	x.Rows = slices.Clone(x.Rows)
	if len(x.Rows) == 0 {
		x.Table = oneOf(n, []string{"t0", "t1", "t2", "t3"})
		return c
	}
	i, j := n.below(len(x.Rows)), n.below(len(x.Rows))
	row := &x.Rows[i]
	switch n.below(7) {
	case 0:
		x.Rows[i], x.Rows[j] = x.Rows[j], x.Rows[i]
	case 1:
		x.Rows[i] = x.Rows[j]
	case 2:
		row.Key = append(slices.Clone(row.Key), someValue(n, oneOf(n, kinds)))
		row.Key = row.Key[n.below(2):]
	case 3:
		row.Val = append(slices.Clone(row.Val), someValue(n, oneOf(n, kinds)))
		row.Val = row.Val[n.below(2):]
	case 4:
		row.Key = row.Key[:n.below(len(row.Key)+1)]
	case 5:
		row.Key = append(slices.Clone(row.Key), someValue(n, oneOf(n, kinds)))
		row.Key[n.below(len(row.Key))] = oneOf(n, badOperands()[oneOf(n, []api.Errno{api.ErrKind, api.ErrLong, api.ErrTuplePart})])
		row.Key = row.Key[:len(row.Key)-n.below(2)]
	case 6:
		x.Table = oneOf(n, []string{"t0", "t1", "t2", "t3"})
	}
	return c
}

func TestCheckOfMadeContent(t *testing.T) { // P16.1, P16.2
	n := numbers(165)
	count := map[bool]int{}
	for range 600 {
		m := read(t, made(&n, 2))
		p := m.Procs[len(m.Procs)-1] // which is no helper
		for range 8 {
			c := someContent(&n, m)
			for range n.below(3) {
				c = spoilContent(&n, c)
			}
			is := modelContent(m, c)
			count[is]++
			want := api.ErrEvalContent
			if is {
				want = api.OK
			}
			e := eval.Check(m, c)
			o, behind, spent, runE := eval.Run(m, p.Name, someValues(&n, p.Params), c, 0)
			if e != want || runE != want || !is && (o != (api.Outcome{}) || len(behind) > 0 || spent != 0) {
				t.Fatal(said(m), said(c), e, runE, want)
			}
		}
	}
	if count[true] < 1000 || count[false] < 1000 {
		t.Error(count)
	}
}

func TestOrderOfErrorsOfRun(t *testing.T) { // P16.2
	m := read(t, "table t(k int;); proc p(a int, s bytes) int { return a; } helper h(a int, s bytes) int { return a; } proc q() int { return 1; }")
	bad, _, _ := syntax.Parse("table t(k int;); proc p(a int, s bytes) int { return s; } helper h() int { return 1; }")
	modules := []api.Module{m, bad}
	names := []string{"p", "", "h", "t", "P", "p ", "nothing"}
	args := [][]api.Value{
		{tuple.Int(1), tuple.Bytes("a")}, nil, {tuple.Int(1)}, {tuple.Int(1), tuple.Int(1)}, {tuple.Bytes("a"), tuple.Int(1)}, {tuple.Int(1), tuple.Bytes("a"), tuple.Int(1)}, {tuple.Int(1), tuple.Bytes(strings.Repeat("a", 4097))}, {{Kind: 1, Int: 1, Yes: true}, tuple.Bytes("a")}, {{}, {}},
	}
	contents := [][]api.Content{content(t, "t: 1|"), content(t, "x:"), content(t, "t: 1|, 1|")}
	fuels := []int{api.MaxFuel, -1, api.MaxFuel + 1, math.MinInt, math.MaxInt}
	for i, m := range modules {
		for j, name := range names {
			for k, l := range args {
				for n, c := range contents {
					for o, fuel := range fuels {
						want := api.OK
						switch {
						case i > 0:
							want = api.ErrEvalModule
						case j > 0:
							want = api.ErrNone
						case k > 0:
							want = api.ErrEvalArgs
						case n > 0:
							want = api.ErrEvalContent
						case o > 0:
							want = api.ErrArg
						}
						end, behind, spent, e := eval.Run(m, name, l, c, fuel)
						if e != want || want != api.OK && (end != (api.Outcome{}) || len(behind) > 0 || spent != 0) {
							t.Fatal(name, said(l), told(c), fuel, e, want)
						}
					}
				}
			}
		}
	}
	for _, bad := range notRight(t) {
		if o, behind, spent, e := eval.Run(bad, "p", nil, nil, 100); o != (api.Outcome{}) || len(behind) > 0 || spent != 0 || e != api.ErrEvalModule {
			t.Fatal(said(bad), e)
		}
	}
	wantRun(t, m, "q", nil, nil, "1", "t:", 2)
	if _, _, _, e := eval.Run(api.Module{}, "p", nil, nil, 1); e != api.ErrNone {
		t.Error(e)
	}
}

func TestAllContent(t *testing.T) { // P16.2: a member for each table, in the module's order
	m := read(t, "table b(k int;); table a(k int;); table c(k int;); proc p() int { put a(1) = (); return 1; } proc q() int { put a(1) = (); return 1 / 0; }")
	for c, want := range map[string]string{
		"":                         "b:; a: 1|; c:",
		"c: 3|":                    "b:; a: 1|; c: 3|",
		"c: 3|; b: 5|":             "b: 5|; a: 1|; c: 3|",
		"c: 3|; a: 1|, 2|; b: 5|":  "b: 5|; a: 1|, 2|; c: 3|",
		"a: 0|, 3|; c:; b: 5|, 7|": "b: 5|, 7|; a: 0|, 1|, 3|; c:",
	} {
		wantRun(t, m, "p", nil, content(t, c), "1", want, 4)
		wantRun(t, m, "q", nil, content(t, c), "divide", told(behindAll(m, content(t, c))), 6)
	}
	none := read(t, "proc p() int { return 1; } proc q() int { }")
	wantRun(t, none, "p", nil, nil, "1", "", 2)
	wantRun(t, none, "q", nil, nil, "end", "", 0)
}
