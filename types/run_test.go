package types_test

import (
	"math/big"
	"slices"
	"testing"

	"keystone/api"
	"keystone/eval"
	"keystone/tuple"
	"keystone/types"
)

// run does what chapter 16 tells with a procedure, and looks at each value's kind on the way.
type run struct {
	t    *testing.T
	all  api.Module
	rows map[string][]api.Row // rising by their keys
	fuel int
	vals map[string]api.Value
	k    *known
	seen map[string]int // how often what was done
}

// failed is thrown where a run fails.
type failed int64

// call is what a procedure, or a helper, answers.
func (r *run) call(p api.Proc, args []api.Value) api.Value {
	was, wasKnown := r.vals, r.k
	defer func() { r.vals, r.k = was, wasKnown }()
	r.vals, r.k = map[string]api.Value{}, nil
	for i, c := range p.Params {
		r.set(c.Name, args[i])
		r.must(args[i].Kind == c.Kind, "argument", p.Name)
	}
	v, over := r.stmts(p.Body)
	if !over {
		panic(failed(api.FailEnd))
	}
	r.must(v.Kind == p.Result, "result", p.Name)
	return v
}

// outcome is what a call of a procedure comes to: its value, or the code by which it fails.
func (r *run) outcome(p api.Proc, args []api.Value) (v api.Value, code int64) {
	was := map[string][]api.Row{}
	for name, l := range r.rows {
		was[name] = slices.Clone(l)
	}
	defer func() {
		if x := recover(); x != nil {
			code = int64(x.(failed))
			r.rows = was
		}
	}()
	return r.call(p, args), 0
}

// content are all rows.
func (r *run) content() []api.Content {
	var l []api.Content
	for _, x := range r.all.Tables {
		l = append(l, api.Content{Table: x.Name, Rows: r.rows[x.Name]})
	}
	return l
}

// wantMeant looks at what a call of a procedure, with 200 steps, has come to, which is what package eval says.
func (r *run) wantMeant(p api.Proc, args []api.Value, rows []api.Content, v api.Value, code int64) {
	r.t.Helper()
	if p.Helper {
		return
	}
	o, behind, steps, e := eval.Run(r.all, p.Name, args, rows, 200)
	r.must(e == api.OK && o.Value == v && o.Code == code && steps == 200-r.fuel && said(behind) == said(r.content()), "meaning", p.Name, o, v, code, e)
}

func (r *run) must(is bool, l ...any) {
	r.t.Helper()
	if !is {
		r.t.Fatalf("%s: %s", shown(r.all), said(l))
	}
}

func (r *run) spend() {
	if r.fuel == 0 {
		panic(failed(api.FailFuel))
	}
	r.fuel--
}

// set gives a variable that there is not yet a value.
func (r *run) set(name string, v api.Value) {
	r.must(r.k.kindOf(name) == api.KNone, "twice", name)
	r.vals[name] = v
	r.k = &known{name, v.Kind, r.k}
}

func (r *run) stmts(l []api.Stmt) (api.Value, bool) {
	was := r.k
	defer func() { r.k = was }()
	for _, s := range l {
		if v, over := r.stmt(s); over {
			return v, true
		}
	}
	return api.Value{}, false
}

func (r *run) stmt(s api.Stmt) (api.Value, bool) {
	r.spend()
	r.seen["statement"]++
	switch s.Op {
	case api.SIf:
		if r.is(s.Args[0]) {
			return r.stmts(s.Body)
		}
		return r.stmts(s.Else)
	case api.SWhile:
		for r.is(s.Args[0]) {
			if v, over := r.stmts(s.Body); over {
				return v, true
			}
		}
	case api.SLet:
		r.set(s.Names[0], r.root(s.Args[0]))
	case api.SAssign:
		v := r.root(s.Args[0])
		r.must(r.k.kindOf(s.Names[0]) == v.Kind, "assignment", s.Names[0])
		r.vals[s.Names[0]] = v
	case api.SRaise:
		v := r.root(s.Args[0])
		r.must(v.Kind == api.KInt, "raise")
		panic(failed(max(v.Int, api.FailOver)))
	case api.SReturn:
		return r.root(s.Args[0]), true
	default:
		return r.onTable(s)
	}
	return api.Value{}, false
}

// root is the value of a term that is no other one's operand; its kind is what Kind says.
func (r *run) root(t api.Term) api.Value {
	v := r.term(t)
	if r.seen["root"]++; r.seen["root"]%16 == 0 {
		var l []api.Column
		for k := r.k; k != nil; k = k.ahead {
			l = append(l, api.Column{Name: k.name, Kind: k.kind})
		}
		kind, e := types.Kind(r.all, l, t)
		r.must(kind == v.Kind && e == api.OK, "kind", t)
	}
	return v
}

func (r *run) is(t api.Term) bool {
	v := r.root(t)
	r.must(v.Kind == api.KBool, "condition", t)
	return v.Yes
}

func (r *run) roots(l []api.Term, like []api.Column) []api.Value {
	var vals []api.Value
	for i, t := range l {
		vals = append(vals, r.root(t))
		r.must(vals[i].Kind == like[i].Kind, "column", t)
	}
	return vals
}

// place is where a row of a key stands, or would.
func (r *run) place(table string, key []api.Value) (int, bool) {
	return slices.BinarySearchFunc(r.rows[table], key, func(row api.Row, key []api.Value) int { return compare(r, row.Key, key) })
}

func compare(r *run, a, b []api.Value) int {
	n := min(len(a), len(b))
	c, e := tuple.Compare(a[:n], b[:n])
	r.must(e == api.OK, "keys", a, b)
	return c
}

func (r *run) onTable(s api.Stmt) (api.Value, bool) {
	t, is := types.Table(r.all, s.Table)
	r.must(is, "table", s.Table)
	key := r.roots(s.Args, t.Key)
	if s.Op == api.SFor {
		return r.rounds(s, t, key, r.roots(s.Vals, t.Key))
	}
	vals := r.roots(s.Vals, t.Val)
	r.must(len(key) == len(t.Key), "key", s)
	i, there := r.place(s.Table, key)
	switch {
	case s.Op == api.SHas:
		r.set(s.Names[0], api.Value{Kind: api.KBool, Yes: there})
		return api.Value{}, false
	case s.Op == api.SAdd && there:
		panic(failed(api.FailThere))
	case !there && (s.Op == api.SGet || s.Op == api.SChange || s.Op == api.SDel):
		panic(failed(api.FailMissing))
	}
	l := slices.Clone(r.rows[s.Table])
	switch s.Op {
	case api.SGet:
		r.seen["get"]++
		for j, name := range s.Names {
			r.set(name, l[i].Val[j])
		}
		return api.Value{}, false
	case api.SDel:
		l = slices.Delete(l, i, i+1)
	default:
		r.must(len(vals) == len(t.Val), "values", s)
		if !there {
			l = slices.Insert(l, i, api.Row{Key: key})
		}
		l[i].Val = vals
	}
	r.rows[s.Table] = l
	return api.Value{}, false
}

func (r *run) rounds(s api.Stmt, t api.Table, from, to []api.Value) (api.Value, bool) {
	var last []api.Value
	for {
		r.spend()
		l := slices.DeleteFunc(slices.Clone(r.rows[s.Table]), func(x api.Row) bool {
			return compare(r, x.Key, from) < 0 || compare(r, x.Key, to) > 0 || last != nil && compare(r, x.Key, last) <= 0
		})
		if len(l) == 0 {
			return api.Value{}, false
		}
		r.seen["round"]++
		last = l[0].Key
		was := r.k
		for i, v := range slices.Concat(l[0].Key, l[0].Val) {
			r.set(s.Names[i], v)
		}
		v, over := r.stmts(s.Body)
		r.k = was
		if over {
			return v, true
		}
	}
}

// term is a term's value, which is of the kind that the model says.
func (r *run) term(t api.Term) api.Value {
	r.spend()
	v := r.value(t)
	x := model{all: r.all}
	kind, f := x.term(t, r.k)
	r.must(f == fine && v.Kind == kind && tuple.Check(v) == api.OK, "term", t, v)
	return v
}

func (r *run) value(t api.Term) api.Value {
	switch t.Op {
	case api.XLit:
		return t.Val
	case api.XVar:
		v, is := r.vals[t.Name]
		r.must(is && r.k.kindOf(t.Name) == v.Kind, "variable", t)
		return v
	case api.XAnd, api.XOr:
		if v := r.term(t.Args[0]); v.Yes == (t.Op == api.XOr) {
			return v
		}
		return r.term(t.Args[1])
	}
	var args []api.Value
	for _, x := range t.Args {
		args = append(args, r.term(x))
	}
	if t.Op == api.XCall {
		p, is := types.Proc(r.all, t.Name)
		r.must(is && p.Helper && len(args) == len(p.Params), "helper", t)
		r.seen["call"]++
		return r.call(p, args)
	}
	r.seen["operator"]++
	return r.made(t.Op, args)
}

// made is what an operator makes of values.
func (r *run) made(op int, l []api.Value) api.Value {
	a, b := l[0], l[len(l)-1]
	r.must(a.Kind == b.Kind, "operands", op, l)
	switch op {
	case api.XNot:
		return api.Value{Kind: api.KBool, Yes: !a.Yes}
	case api.XEqual:
		return api.Value{Kind: api.KBool, Yes: a == b}
	case api.XUnlike:
		return api.Value{Kind: api.KBool, Yes: a != b}
	case api.XLess:
		return api.Value{Kind: api.KBool, Yes: compare(r, []api.Value{a}, []api.Value{b}) < 0}
	case api.XLessEq:
		return api.Value{Kind: api.KBool, Yes: compare(r, []api.Value{a}, []api.Value{b}) <= 0}
	case api.XLen:
		return tuple.Int(int64(len(a.Bytes)))
	case api.XRe:
		return tuple.Int(int64(real(a.Point)))
	case api.XIm:
		return tuple.Int(int64(imag(a.Point)))
	case api.XPoint:
		return pointed(float64(a.Int), float64(b.Int))
	}
	switch a.Kind {
	case api.KBytes:
		r.must(op == api.XAdd, "bytes", op)
		if len(a.Bytes)+len(b.Bytes) > api.MaxBytes {
			panic(failed(api.FailLong))
		}
		return api.Value{Kind: api.KBytes, Bytes: a.Bytes + b.Bytes}
	case api.KPoint:
		p, known := map[int]complex128{api.XNeg: -a.Point, api.XAdd: a.Point + b.Point, api.XSub: a.Point - b.Point, api.XMul: a.Point * b.Point}[op]
		r.must(known, "points", op)
		return pointed(real(p), imag(p))
	}
	r.must(a.Kind == api.KInt, "operator", op, l)
	x, y, z := big.NewInt(a.Int), big.NewInt(b.Int), new(big.Int)
	switch op {
	case api.XNeg:
		z.Neg(x)
	case api.XAdd:
		z.Add(x, y)
	case api.XSub:
		z.Sub(x, y)
	case api.XMul:
		z.Mul(x, y)
	case api.XDiv, api.XMod:
		if b.Int == 0 {
			panic(failed(api.FailDivide))
		}
		rest := new(big.Int)
		z.QuoRem(x, y, rest)
		if op == api.XMod {
			z = rest
		}
	default:
		r.must(false, "operator", op)
	}
	if !z.IsInt64() {
		panic(failed(api.FailOver))
	}
	return tuple.Int(z.Int64())
}

func pointed(re, im float64) api.Value {
	if max(re, -re, im, -im) > api.MaxPoint {
		panic(failed(api.FailOver))
	}
	return api.Value{Kind: api.KPoint, Point: complex(re+0, im+0)}
}

// someValue is a value of a kind.
func someValue(n *numbers, kind int) api.Value {
	switch kind {
	case api.KInt:
		return tuple.Int(oneOf(n, []int64{0, 0, 1, 1, 2, 2, 3, 3, -1, 1 << 62, -1 << 63}))
	case api.KBool:
		return api.Value{Kind: kind, Yes: n.below(2) == 0}
	case api.KBytes:
		return tuple.Bytes(oneOf(n, []string{"", "a", "b", "ab"}))
	}
	return tuple.Point(int64(n.below(5)-2), int64(n.below(3)))
}

func someValues(n *numbers, like []api.Column) []api.Value {
	var l []api.Value
	for _, c := range like {
		l = append(l, someValue(n, c.Kind))
	}
	return l
}

// newRun has some rows in each table.
func newRun(t *testing.T, n *numbers, all api.Module) *run {
	r := &run{t: t, all: all, rows: map[string][]api.Row{}, seen: map[string]int{}}
	for _, x := range all.Tables {
		for range n.below(12) {
			key := someValues(n, x.Key)
			if i, is := r.place(x.Name, key); !is {
				r.rows[x.Name] = slices.Insert(r.rows[x.Name], i, api.Row{Key: key, Val: someValues(n, x.Val)})
			}
		}
	}
	return r
}
