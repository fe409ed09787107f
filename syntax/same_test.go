package syntax_test

import (
	"math"
	"reflect"
	"testing"

	"keystone/api"
	"keystone/syntax"
)

// modelStrip is a module with each At turned to 0.
func modelStrip(m api.Module) api.Module { return tidy(m, false) }

// tidy is a module whose empty lists are nil, with its places or without.
func tidy(m api.Module, places bool) api.Module {
	return tidied(reflect.ValueOf(m), places).Interface().(api.Module)
}

func tidied(v reflect.Value, places bool) reflect.Value {
	made := reflect.New(v.Type()).Elem()
	switch v.Kind() {
	case reflect.Struct:
		for i := range v.NumField() {
			if places || v.Type().Field(i).Name != "At" {
				made.Field(i).Set(tidied(v.Field(i), places))
			}
		}
	case reflect.Slice:
		for i := range v.Len() {
			made.Set(reflect.Append(made, tidied(v.Index(i), places)))
		}
	default:
		made.Set(v)
	}
	return made
}

// modelNodes is how many statements and terms there are.
func modelNodes(v reflect.Value) int {
	n := 0
	switch v.Interface().(type) {
	case api.Stmt, api.Term:
		n++
	}
	switch v.Kind() {
	case reflect.Struct:
		for i := range v.NumField() {
			n += modelNodes(v.Field(i))
		}
	case reflect.Slice:
		for i := range v.Len() {
			n += modelNodes(v.Index(i))
		}
	}
	return n
}

// anyModule is one of any fields, most of which no text says.
func anyModule(n *numbers, size int) api.Module {
	v := reflect.New(reflect.TypeFor[api.Module]()).Elem()
	fill(v, n, &size)
	return v.Interface().(api.Module)
}

func fill(v reflect.Value, n *numbers, left *int) {
	switch v.Kind() {
	case reflect.Struct:
		for i := range v.NumField() {
			fill(v.Field(i), n, left)
		}
	case reflect.Slice:
		if n.below(6) == 0 {
			v.Set(reflect.MakeSlice(v.Type(), 0, 2)) // empty, but not nil
		}
		for *left > 0 && n.below(3) > 0 {
			*left--
			x := reflect.New(v.Type().Elem()).Elem()
			fill(x, n, left)
			v.Set(reflect.Append(v, x))
		}
	case reflect.String:
		v.SetString(oneOf(n, []string{"", "a", "A b", "let", "\x00\xff"}))
	case reflect.Bool:
		v.SetBool(n.below(2) == 0)
	case reflect.Complex128:
		v.SetComplex(oneOf(n, []complex128{0, 1, 1i, complex(0.5, -2), complex(-api.MaxPoint, 1<<40)}))
	default:
		v.SetInt(oneOf(n, []int64{0, 1, 2, 7, -1, math.MinInt64, math.MaxInt64}))
	}
}

// madeModule is a module that a text says.
func madeModule(n *numbers, size int) api.Module {
	return newMaker(n, n, size).module()
}

func wantTold(t *testing.T, m api.Module) {
	t.Helper()
	want := modelStrip(m)
	if got := tidy(syntax.Strip(m), true); !reflect.DeepEqual(got, want) {
		t.Fatalf("Strip(%.2000s): %.2000s", said(m), said(got))
	}
	if got, want := syntax.Nodes(m), modelNodes(reflect.ValueOf(m)); got != want {
		t.Fatalf("Nodes(%.2000s): %d, not %d", said(m), got, want)
	}
	for _, other := range []api.Module{m, want, syntax.Strip(m)} {
		wantSame(t, m, other, true)
	}
}

func wantSame(t *testing.T, a, b api.Module, want bool) {
	t.Helper()
	if syntax.Same(a, b) != want || syntax.Same(b, a) != want {
		t.Fatalf("Same(%.2000s, %.2000s): %v, %v, not %v", said(a), said(b), syntax.Same(a, b), syntax.Same(b, a), want)
	}
}

func TestStripNodesAndSame(t *testing.T) { // P13.2
	n := numbers(21)
	wantTold(t, api.Module{})
	for i := range 3000 {
		wantTold(t, anyModule(&n, i%80))
		wantTold(t, madeModule(&n, i%80))
	}
}

func TestNodesOfTheExample(t *testing.T) { // P13.2
	for s, want := range map[string]int{
		"":                                      0,
		"table t(a int;);":                      0,
		"proc p(a int) int {}":                  0,
		"proc p() int { return 1 + 2 * 3; }":    6,
		"proc p() int { return (((1))); }":      2,
		"proc p() int { get a, b = t(1, -x); }": 4,
		"proc p() int { put t(1) = (2, 3); }":   4,
		"proc p() int { if a { raise 1; } else { raise 2; raise 3; } } helper h() int { return f(point(1, 2)); }": 8 + 5,
		"proc p() int { for a in t(1) to (2) { while a { del t(1); } } }":                                         7,
	} {
		m, _, e := syntax.Parse(s)
		if got := syntax.Nodes(m); got != want || e != api.OK {
			t.Errorf("%s: %d, %v, not %d", s, got, e, want)
		}
	}
}

// eachChange makes one change of each thing of a module, tells whether it is a place that is another one now, and takes it back.
func eachChange(v reflect.Value, place bool, use func(place bool)) {
	change := func(x any) {
		old := reflect.ValueOf(v.Interface())
		v.Set(reflect.ValueOf(x).Convert(v.Type()))
		use(place)
		v.Set(old)
	}
	switch v.Kind() {
	case reflect.Struct:
		for i := range v.NumField() {
			eachChange(v.Field(i), v.Type().Field(i).Name == "At", use)
		}
	case reflect.Slice:
		for i := range v.Len() {
			eachChange(v.Index(i), false, use)
		}
		change(reflect.Append(v.Slice3(0, v.Len(), v.Len()), reflect.Zero(v.Type().Elem())).Interface())
		if v.Len() > 0 {
			change(v.Slice(0, v.Len()-1).Interface())
			change(v.Slice(1, v.Len()).Interface())
		}
	case reflect.String:
		change(v.String() + "a")
	case reflect.Bool:
		change(!v.Bool())
	case reflect.Complex128:
		change(v.Complex() + 1)
		change(v.Complex() + 1i)
	default:
		change(v.Int() + 1)
		change(v.Int() ^ 1<<40)
	}
}

func wantEachChangeTold(t *testing.T, m api.Module) {
	t.Helper()
	other := modelStrip(m)
	eachChange(reflect.ValueOf(&other).Elem(), false, func(place bool) { wantSame(t, m, other, place) })
	wantSame(t, m, other, true)
}

func TestSameOfAlmostTheSame(t *testing.T) { // P13.2
	n := numbers(22)
	for i := range 150 {
		wantEachChangeTold(t, anyModule(&n, i%30))
		wantEachChangeTold(t, madeModule(&n, i%12))
	}
}

func TestSameOfOneThing(t *testing.T) { // P13.2
	point := func(p complex128) api.Module {
		return inProc(api.Stmt{Op: api.SReturn, Args: terms(api.Term{Op: api.XLit, Val: api.Value{Kind: api.KPoint, Point: p}})})
	}
	points := []complex128{0, 1, 1i, complex(1, 1), complex(1, 2), complex(2, 1), -1, -1i, complex(1, -1), complex(-1, 1)}
	for i, p := range points {
		for k, q := range points {
			wantSame(t, point(p), point(q), i == k)
		}
	}
	empty := api.Module{Tables: []api.Table{}, Procs: []api.Proc{}}
	wantSame(t, api.Module{}, empty, true)
	nils, empties := inProc(api.Stmt{}), inProc(api.Stmt{Names: []string{}, Args: []api.Term{}, Vals: []api.Term{}, Body: []api.Stmt{}, Else: []api.Stmt{}})
	nils.Tables, empties.Tables = []api.Table{{}}, []api.Table{{Key: []api.Column{}, Val: []api.Column{}}}
	empties.Procs[0].Params = []api.Column{}
	wantSame(t, nils, empties, true)
	one, two := inProc(api.Stmt{Names: []string{"a b"}}), inProc(api.Stmt{Names: []string{"a", "b"}})
	wantSame(t, one, two, false)
	wantSame(t, inProc(api.Stmt{Args: terms(number(1, 0))}), inProc(api.Stmt{Vals: terms(number(1, 0))}), false)
	wantSame(t, inProc(api.Stmt{Body: []api.Stmt{{}}}), inProc(api.Stmt{Else: []api.Stmt{{}}}), false)
	wantSame(t, inProc(api.Stmt{At: 1}, api.Stmt{At: 2, Op: 1}), inProc(api.Stmt{At: 5, Op: 1}, api.Stmt{At: 7}), false)
}
