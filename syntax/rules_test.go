package syntax_test

import (
	"math"
	"reflect"
	"strings"
	"testing"
	"unsafe"

	"keystone/api"
	"keystone/lexis"
	"keystone/syntax"
)

func TestNothingPanics(t *testing.T) { // R1
	n := numbers(61)
	words := append(strings.Fields(`( ) { } , ; : = == != < <= && || ! + - * / % x 1 "a" $ 01 "`), lexis.Words()...)
	for range 3000 {
		var b strings.Builder
		for range n.below(40) {
			b.WriteString(oneOf(&n, words) + " ")
		}
		wantZeroBesideAnError(t, b.String())
		wantZeroBesideAnError(t, procHead+b.String())
		garbage := []byte(b.String())
		for i := range garbage {
			garbage[i] = byte(n.below(256))
		}
		wantZeroBesideAnError(t, string(garbage))
	}
	for _, w := range words {
		for _, s := range []string{w + " ", "x " + w + " "} {
			wantZeroBesideAnError(t, strings.Repeat(s, api.MaxText/4/len(s)))
			wantZeroBesideAnError(t, procHead+strings.Repeat(s, api.MaxText/4/len(s)))
		}
	}
}

func wantZeroBesideAnError(t *testing.T, s string) {
	t.Helper()
	m, at, e := syntax.Parse(s)
	if e != api.OK && said(m) != said(api.Module{}) || e == api.OK && at != 0 || at < 0 || at > len(s) {
		t.Fatalf("Parse(%.300q): %.300v, %d, %v", s, said(m), at, e)
	}
	x, at, e := syntax.ParseTerm(s)
	if e != api.OK && said(x) != said(api.Term{}) || e == api.OK && at != 0 || at < 0 || at > len(s) {
		t.Fatalf("ParseTerm(%.300q): %.300v, %d, %v", s, said(x), at, e)
	}
}

func TestModulesThatNoTextSays(t *testing.T) { // R1
	nan := complex(math.NaN(), math.NaN())
	odd := inProc(api.Stmt{Op: math.MinInt, Args: []api.Term{{Op: math.MaxInt, Val: api.Value{Kind: -1, Point: nan}}, {}}, At: -1})
	odd.Procs = append(odd.Procs, api.Proc{Result: 99, At: math.MinInt})
	if syntax.Nodes(odd) != 3 || said(syntax.Strip(odd)) != said(modelStrip(odd)) {
		t.Error(said(syntax.Strip(odd)))
	}
	syntax.Same(odd, odd)
	deepTerm, deepStmt := number(1, 7), api.Stmt{At: 7}
	const most = 1 << 16
	for range most - 3 {
		deepTerm = term(api.XNeg, 7, deepTerm)
		deepStmt = api.Stmt{Else: []api.Stmt{deepStmt}, At: 7}
	}
	for _, m := range []api.Module{inProc(api.Stmt{Vals: terms(deepTerm)}), inProc(deepStmt)} {
		bare := syntax.Strip(m)
		if n := syntax.Nodes(bare); n != most-2 && n != most-1 || !syntax.Same(m, bare) || syntax.Same(m, api.Module{}) {
			t.Error(n)
		}
	}
}

func TestWideTexts(t *testing.T) { // R1: as much as a text can have
	var b strings.Builder
	b.WriteString(procHead)
	many := (api.MaxText - len(procHead) - 1) / 4
	b.WriteString(strings.Repeat("a=1;", many) + "}")
	m, _, e := syntax.Parse(b.String())
	if e != api.OK || syntax.Nodes(m) != 2*many || m.Procs[0].Body[many-1].At != len(procHead)+4*(many-1) {
		t.Error(syntax.Nodes(m), e)
	}
	many = (api.MaxText - 3) / 2
	x, _, e := syntax.ParseTerm("f(" + strings.Repeat("1,", many-1) + "1)")
	if e != api.OK || len(x.Args) != many || x.Args[many-1].At != 2*many {
		t.Error(len(x.Args), e)
	}
}

// room is a piece of memory that a list has, its spare room too.
type room struct{ from, to uintptr }

// rooms are those of all lists in a thing.
func rooms(v reflect.Value) []room {
	var l []room
	switch v.Kind() {
	case reflect.Struct:
		for i := range v.NumField() {
			l = append(l, rooms(v.Field(i))...)
		}
	case reflect.Slice:
		if size := uintptr(v.Cap()) * v.Type().Elem().Size(); size > 0 {
			l = append(l, room{v.Pointer(), v.Pointer() + size})
		}
		for i := range v.Len() {
			l = append(l, rooms(v.Index(i))...)
		}
	}
	return l
}

func wantApart(t *testing.T, things ...any) {
	t.Helper()
	var l []room
	for _, x := range things {
		l = append(l, rooms(reflect.ValueOf(x))...)
	}
	for i, a := range l {
		for _, b := range l[:i] {
			if a.from < b.to && b.from < a.to {
				t.Fatalf("%.2000s: two lists share memory", said(things))
			}
		}
	}
}

func TestAnswersAreNewMemory(t *testing.T) { // R3
	n, gaps := numbers(63), numbers(64)
	for i := range 1000 {
		m := newMaker(&n, &gaps, i%60)
		m.module()
		one, _, _ := syntax.Parse(m.text.String())
		two, _, _ := syntax.Parse(m.text.String())
		wantApart(t, one, two, syntax.Strip(one), syntax.Strip(one))
		x := newMaker(&n, &gaps, i%60)
		x.term(1)
		a, _, _ := syntax.ParseTerm(x.text.String())
		b, _, _ := syntax.ParseTerm(x.text.String())
		wantApart(t, a, b)
		wantApart(t, syntax.Strip(shared(anyModule(&n, i%20))))
	}
}

// shared is a module that has its parts twice, in the same memory.
func shared(m api.Module) api.Module {
	m.Tables, m.Procs = append(m.Tables, m.Tables...), append(m.Procs, m.Procs...)
	return m
}

func TestArgumentsStayAsTheyAre(t *testing.T) { // R3
	n := numbers(65)
	for i := range 1000 {
		m, other := anyModule(&n, i%60), anyModule(&n, i%60)
		before := said([]any{whole(reflect.ValueOf(m)), whole(reflect.ValueOf(other))})
		syntax.Strip(m)
		syntax.Nodes(m)
		syntax.Same(m, other)
		if after := said([]any{whole(reflect.ValueOf(m)), whole(reflect.ValueOf(other))}); after != before {
			t.Fatalf("%.2000s, not %.2000s", after, before)
		}
	}
}

// whole tells a thing with what lies in the spare room of its lists.
func whole(v reflect.Value) any {
	var l []any
	switch v.Kind() {
	case reflect.Struct:
		for i := range v.NumField() {
			l = append(l, whole(v.Field(i)))
		}
	case reflect.Slice:
		for i := range v.Cap() {
			l = append(l, whole(v.Slice(0, v.Cap()).Index(i)))
		}
		l = append(l, v.Len())
	default:
		return v.Interface()
	}
	return l
}

func TestAnswersShareNothingWithATextsBytes(t *testing.T) { // R3
	s := "table t(abc int; val bytes); proc pay(id int) bytes { let x = f(\"text\") + y; return x; }"
	b := []byte(s)
	m, _, _ := syntax.Parse(unsafe.String(&b[0], len(b)))
	c := []byte("f(abc, \"text\")")
	x, _, _ := syntax.ParseTerm(unsafe.String(&c[0], len(c)))
	for i := range b {
		b[i] = '?'
	}
	for i := range c {
		c[i] = '?'
	}
	wantModule(t, s, m)
	wantTerm(t, "f(abc, \"text\")", x)
	wantTerm(t, "f(abc, \"text\")", call("f", 0, variable("abc", 2), text("text", 7)))
}

func TestSameTextSameAnswers(t *testing.T) { // R4
	n := numbers(66)
	for i := range 500 {
		m := newMaker(&n, &n, i%40)
		m.module()
		s := m.text.String()
		first, at, e := syntax.Parse(s)
		syntax.Parse(s + ")")
		syntax.ParseTerm(s)
		again, place, why := syntax.Parse(s)
		if said(first) != said(again) || at != place || e != why {
			t.Fatalf("%q: %d, %v, then %d, %v", s, at, e, place, why)
		}
	}
}
