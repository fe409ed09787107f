package types_test

import (
	"maps"
	"slices"
	"testing"

	"keystone/api"
	"keystone/syntax"
	"keystone/types"
)

func TestNeverStuck(t *testing.T) { // P15.3: what is right runs as chapter 16 tells, each term having a value of its kind
	n := numbers(21)
	seen := map[string]int{}
	changed := 0
	for i := range 1500 {
		old, m := pair(&n, 2+i%12)
		all := joined(old, m)
		for range i % 3 { // what is right by chance
			was := cloned(all)
			partsOf(&all).change(&n, partsOf(&all))
			if _, e := types.Check(api.Module{}, all); e != api.OK {
				all = was
			} else if !syntax.Same(was, all) {
				changed++
			}
		}
		r := newRun(t, &n, all)
		for _, p := range slices.Concat(all.Procs, all.Procs, all.Procs) {
			r.fuel = 200
			args, rows := someValues(&n, p.Params), r.content()
			v, code := r.outcome(p, args)
			r.wantMeant(p, args, rows, v, code)
			if code < 0 {
				seen["failed"]++
			} else {
				seen["done"]++
			}
		}
		for what, many := range r.seen {
			seen[what] += many
		}
	}
	for _, what := range []string{"statement", "root", "get", "round", "call", "operator", "failed", "done"} {
		if seen[what] < 300 {
			t.Error(what, seen)
		}
	}
	if changed < 100 {
		t.Error(changed)
	}
}

func TestRightStaysRight(t *testing.T) { // P15.4
	n := numbers(22)
	for i := range 1500 {
		old, m := pair(&n, 1+i%8)
		for range i % 3 {
			was := cloned(m)
			partsOf(&m).change(&n, partsOf(&old))
			if _, e := types.Check(old, m); e != api.OK {
				m = was
			}
		}
		all, e := types.Join(old, m)
		if e != api.OK {
			t.Fatal(e)
		}
		wantCheck(t, api.Module{}, all, 0, api.OK)
		for _, p := range old.Procs {
			wantSameMeaning(t, &n, old, all, p)
		}
		wantCheck(t, all, read(t, "table more(a int;);"), 0, api.OK)
	}
}

// wantSameMeaning looks at a procedure of a module, and of another one that has all of it.
func wantSameMeaning(t *testing.T, n *numbers, old, all api.Module, p api.Proc) {
	t.Helper()
	l, _ := types.Locals(old, p.Name)
	again, e := types.Locals(all, p.Name)
	if said(l) != said(again) || e != api.OK {
		t.Fatalf("%s: %s, not %s", p.Name, said(again), said(l))
	}
	calls, _ := types.Calls(old, p.Name)
	callsAgain, e := types.Calls(all, p.Name)
	if !slices.Equal(calls, callsAgain) || e != api.OK {
		t.Fatalf("%s: %s, not %s", p.Name, callsAgain, calls)
	}
	args := someValues(n, p.Params)
	r := newRun(t, n, all)
	r.fuel = 200
	x := &run{t: t, all: old, rows: maps.Clone(r.rows), fuel: r.fuel, seen: map[string]int{}}
	v, code := x.outcome(p, args)
	vAgain, codeAgain := r.outcome(p, args)
	if v != vAgain || code != codeAgain || x.fuel != r.fuel || said(x.rows) != said(r.rows) {
		t.Fatalf("%s: %v, %d, not %v, %d", p.Name, vAgain, codeAgain, v, code)
	}
}

func TestOldModulesInParts(t *testing.T) { // P15.4: many modules, one behind the other
	var all api.Module
	for i, text := range []string{
		"table t(a int; b int);", "helper f(x int) int { return x + 1; }", "proc p(x int) int { get b = t(x); return f(b); }",
		"table u(a int;); helper g(x int) int { return f(f(x)); } proc q() int { del u(1); return g(1); }", "", "proc r() int { for a, b in t() to () { del u(b); } return g(f(0)); }",
	} {
		m := read(t, text)
		wantCheck(t, all, m, 0, api.OK)
		if i > 0 && text != "" {
			_, e := types.Check(api.Module{}, m)
			if right := i == 1; right != (e == api.OK) {
				t.Fatal(text, e)
			}
		}
		var e api.Errno
		if all, e = types.Join(all, m); e != api.OK {
			t.Fatal(text, e)
		}
		wantCheck(t, api.Module{}, all, 0, api.OK)
	}
}

func TestPlacesDoNotMatter(t *testing.T) { // P15.5, and what is wrong is so wherever it stands
	n := numbers(23)
	for i := range 3000 {
		old, m := pair(&n, 1+i%8)
		for range i % 3 {
			partsOf(&m).change(&n, partsOf(&old))
		}
		_, e := types.Check(old, m)
		at, bare := types.Check(syntax.Strip(old), syntax.Strip(m))
		if at != 0 || bare != e {
			t.Fatalf("%s: %d, %v, not %v", shown(m), at, bare, e)
		}
		all := joined(old, m)
		_, e = types.Check(api.Module{}, all)
		if at, bare := types.Check(api.Module{}, syntax.Strip(all)); at != 0 || bare != e {
			t.Fatalf("%s: %d, %v, not %v", shown(all), at, bare, e)
		}
	}
}
