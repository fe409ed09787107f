package eval_test

import (
	"fmt"
	"math"
	"slices"
	"strings"
	"testing"

	"keystone/api"
	"keystone/eval"
	"keystone/syntax"
	"keystone/tuple"
	"keystone/types"
)

// wantTerm looks at what Term answers.
func wantTerm(t *testing.T, m api.Module, x api.Term, names []string, l []api.Value, fuel int, want api.Value, code int64, steps int, e api.Errno) {
	t.Helper()
	v, gotCode, spent, gotE := eval.Term(m, x, names, l, fuel)
	if v != want || gotCode != code || spent != steps || gotE != e {
		t.Fatalf("%.500s of %q %.500s: %.300s, %d, %d steps, %v, not %.300s, %d, %d steps, %v", said(x), names, said(l), said(v), gotCode, spent, gotE, said(want), code, steps, e)
	}
}

func TestTerm(t *testing.T) { // P16.3
	m := read(t, world)
	names, l := strings.Fields("a b o s z"), vals(t, five)
	for _, x := range []struct {
		term, want string
		steps      int
	}{
		{"a", "2", 1}, {"7", "7", 1}, {"true", "true", 1}, {`"x"`, `"x"`, 1}, {"z", "(3,-4)", 1}, {"-z * point(a, b)", "(-34,-13)", 6}, {"a + b * 2", "16", 5}, {"s + s", `"abab"`, 3}, {"!o || a < b", "true", 6}, {"o && z == z", "true", 5}, {"inc(a) - both(a, b)", "1", 16}, {"yes(o)", "true", 4},
		{"a / 0", "divide", 3}, {"9223372036854775807 * b", "over", 3}, {"stop(b)", "raised 7", 4}, {"stop(0)", "raised 0", 4}, {"stop(-a)", "over", 5}, {"nought() + a", "end", 2}, {"a + nought()", "end", 3}, {`s + "` + strings.Repeat("x", 4095) + `"`, "long", 3},
	} {
		y := readTerm(t, x.term)
		want, code := api.Value{}, int64(0)
		switch {
		case strings.HasPrefix(x.want, "raised "):
			code = vals(t, strings.TrimPrefix(x.want, "raised "))[0].Int
		case x.want[0] >= 'a' && x.want[0] <= 'z' && x.want != "true":
			code = int64(-1 - slices.Index(strings.Fields("over divide missing there fuel end long"), x.want))
		default:
			want = vals(t, x.want)[0]
		}
		for fuel := range x.steps {
			wantTerm(t, m, y, names, l, fuel, api.Value{}, api.FailFuel, fuel, api.OK)
		}
		for _, fuel := range []int{x.steps, x.steps + 1, 1000, api.MaxFuel} {
			wantTerm(t, m, y, names, l, fuel, want, code, x.steps, api.OK)
		}
	}
	wantTerm(t, api.Module{}, readTerm(t, "1 < 2"), nil, nil, 3, tuple.Bool(true), 0, 3, api.OK)
	wantTerm(t, api.Module{}, readTerm(t, "1 < 2"), nil, nil, 0, api.Value{}, api.FailFuel, 0, api.OK)
}

func TestErrorsOfTerm(t *testing.T) { // P16.3, in their order
	m := read(t, world)
	one := readTerm(t, "a + 1")
	wrong := readTerm(t, "a + o")
	names, l := []string{"a", "o"}, []api.Value{tuple.Int(1), tuple.Bool(true)}
	long := tuple.Bytes(strings.Repeat("a", 4097))
	for _, x := range []struct {
		names []string
		vals  []api.Value
		term  string
		e     api.Errno
	}{
		{names, l, "a + 1", api.OK}, {nil, nil, "1", api.OK}, {[]string{"o", "a"}, []api.Value{l[1], l[0]}, "a + 1", api.OK}, {[]string{"inc", "t"}, l, "inc + 1", api.OK},
		{names[:1], l, "a + 1", api.ErrEvalArgs}, {names, l[:1], "a + 1", api.ErrEvalArgs}, {nil, l[:1], "1", api.ErrEvalArgs}, {names, nil, "1", api.ErrEvalArgs}, {[]string{"a", "a"}, l, "1", api.ErrEvalArgs}, {[]string{"a", "o", "a"}, []api.Value{l[0], l[1], l[0]}, "a + 1", api.ErrEvalArgs}, {[]string{"", ""}, l, "1", api.ErrEvalArgs},
		{names, []api.Value{l[0], {}}, "a + 1", api.ErrEvalArgs}, {names, []api.Value{{Kind: 1, Yes: true}, l[1]}, "1", api.ErrEvalArgs}, {names, []api.Value{l[0], long}, "1", api.ErrEvalArgs}, {names, []api.Value{l[0], {Kind: 4, Point: 0.5}}, "1", api.ErrEvalArgs}, {[]string{"let", "A"}, []api.Value{l[0], {Kind: 5}}, "1", api.ErrEvalArgs},
		{[]string{"a", "let"}, l, "a + 1", api.ErrArg}, {[]string{"a", ""}, l, "a + 1", api.ErrArg}, {[]string{"A", "o"}, l, "x", api.ErrArg}, {[]string{"a", strings.Repeat("b", 33)}, l, "a + 1", api.ErrArg}, {[]string{"a", strings.Repeat("b", 32)}, l, "a + 1", api.OK},
		{names, l, "a + o", api.ErrType}, {names, l, "x", api.ErrUnknown}, {nil, nil, "a", api.ErrUnknown}, {names, l, "inc()", api.ErrCount}, {names, l, "inc(o)", api.ErrType}, {names, l, "nothing(a)", api.ErrUnknown}, {names, l, "a + (o + x)", api.ErrUnknown}, {names, l, "t", api.ErrUnknown},
	} {
		y := readTerm(t, x.term)
		v, code, spent, e := eval.Term(m, y, x.names, x.vals, 100)
		if e != x.e || e != api.OK && (v != (api.Value{}) || code != 0 || spent != 0) {
			t.Fatal(x.names, said(x.vals), x.term, e)
		}
		wantE := x.e
		if wantE == api.OK {
			wantE = api.ErrArg
		}
		for _, fuel := range []int{-1, api.MaxFuel + 1, math.MinInt, math.MaxInt} {
			wantTerm(t, m, y, x.names, x.vals, fuel, api.Value{}, 0, 0, wantE)
		}
		for _, bad := range notRight(t) {
			wantTerm(t, bad, y, x.names, x.vals, 100, api.Value{}, 0, 0, api.ErrEvalModule)
			wantTerm(t, bad, y, x.names, x.vals, -1, api.Value{}, 0, 0, api.ErrEvalModule)
		}
	}
	shapes := []api.Term{{}, {Op: 21}, {Op: api.XNeg}, {Op: api.XLit, Val: tuple.Int(-1)}, {Op: api.XLit, Val: tuple.Point(1, 1)}, {Op: api.XVar}, {Op: api.XAdd, Args: []api.Term{wrong}}, {Op: api.XVar, Name: "a", Args: []api.Term{one}}}
	for _, x := range shapes {
		wantTerm(t, m, x, names, l, 100, api.Value{}, 0, 0, api.ErrShape)
		wantTerm(t, m, x, names[:1], l, 100, api.Value{}, 0, 0, api.ErrEvalArgs)
		wantTerm(t, m, x, []string{"a", "let"}, l, 100, api.Value{}, 0, 0, api.ErrArg)
	}
	with := read(t, "proc p() int { return 1; }")
	wantTerm(t, with, readTerm(t, "p()"), nil, nil, 100, api.Value{}, 0, 0, api.ErrHelper)
}

func TestMadeTerms(t *testing.T) { // P16.3, held against the model, and against a procedure that returns the term
	n := numbers(166)
	count := map[string]int{}
	for i := range 1500 {
		text := made(&n, 4)
		m := read(t, text)
		x := maker{n: &n}
		for _, p := range m.Procs {
			if p.Helper {
				x.helpers = append(x.helpers, p)
			}
		}
		for range n.below(6) {
			x.declare(oneOf(&n, kinds))
		}
		var names []string
		var s *scope
		l := someValues(&n, x.visible)
		for i, c := range x.visible {
			names = append(names, c.Name)
			s = s.with(c.Name, l[i])
		}
		for range 8 {
			kind := oneOf(&n, kinds)
			y := readTerm(t, x.term(kind, 1+i%6))
			fuel := oneOf(&n, []int{3, 60, 1000})
			run := machine{m, nil, fuel}
			want, over := run.term(y, s)
			code := int64(0)
			if over != nil {
				want, code = api.Value{}, over.code
				count[toldCode(min(code, 0))]++
			} else {
				count["value"]++
			}
			wantTerm(t, m, y, names, l, fuel, want, code, fuel-run.fuel, api.OK)
			if over == nil {
				if got, e := types.Kind(m, x.visible, y); want.Kind != got || e != api.OK {
					t.Fatal(said(y), want, got, e)
				}
			}
		}
	}
	for _, what := range []string{"value", "over", "fuel", "divide", "long", "end", "raised 0"} {
		if count[what] < 10 {
			t.Error(what, count)
		}
	}
}

func TestTermsOfManyVariables(t *testing.T) { // P16.3: more than a procedure could have
	var names []string
	var l []api.Value
	for i := range 1 << 16 {
		names, l = append(names, fmt.Sprint("v", i)), append(l, tuple.Int(int64(i)))
	}
	wantTerm(t, api.Module{}, readTerm(t, "v0 + v65535 * v7"), names, l, 9, tuple.Int(7*65535), 0, 5, api.OK)
	names[9] = "v10"
	wantTerm(t, api.Module{}, readTerm(t, "v0 + v65535 * v7"), names, l, 9, api.Value{}, 0, 0, api.ErrEvalArgs)
}

func TestDeepTerms(t *testing.T) { // up to the depth that may be, and helpers that call one another in a long row
	deep := strings.Repeat("-", 62) + "inc(a)"
	m := read(t, world)
	wantTerm(t, m, readTerm(t, deep), []string{"a"}, vals(t, "5"), 100, tuple.Int(6), 0, 62+6, api.OK)
	x, _, e := syntax.ParseTerm(strings.Repeat("-", 63) + "a")
	if e != api.OK {
		t.Fatal(e)
	}
	wantTerm(t, m, api.Term{Op: api.XNeg, Args: []api.Term{x}}, []string{"a"}, vals(t, "5"), 100, api.Value{}, 0, 0, api.ErrShape)
	row := "helper h0(x int) int { return x; }\n"
	for i := 1; i < api.MaxProcs-1; i++ {
		row += fmt.Sprintf("helper h%d(x int) int { if x < 0 { if x < 1 { return 1; } } else { while true { if true { return %sh%d(x + 1); } } } }\n", i, strings.Repeat("-", 56), i-1)
	}
	m = read(t, row+"proc p(x int) int { return h62(x); }")
	o, _, spent, e := eval.Run(m, "p", vals(t, "1"), nil, api.MaxFuel)
	if toldEnd(o) != "63" || e != api.OK {
		t.Fatal(toldEnd(o), spent, e)
	}
}
