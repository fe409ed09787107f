package eval_test

import (
	"fmt"
	"math"
	"math/big"
	"slices"
	"strings"
	"testing"

	"keystone/api"
	"keystone/eval"
	"keystone/tuple"
)

// takes tells of which kinds an operator's operands are.
var takes = map[int]string{
	api.XNeg: "int point", api.XNot: "bool", api.XLen: "bytes", api.XRe: "point", api.XIm: "point",
	api.XAdd: "int bytes point", api.XSub: "int point", api.XMul: "int point", api.XDiv: "int", api.XMod: "int", api.XLess: "int bytes", api.XLessEq: "int bytes",
	api.XEqual: "int bool bytes point", api.XUnlike: "int bool bytes point", api.XAnd: "bool", api.XOr: "bool", api.XPoint: "int",
}

func isUnary(op int) bool {
	return op == api.XNeg || op == api.XNot || op == api.XLen || op == api.XRe || op == api.XIm
}

func doesTake(op int, a api.Value) bool {
	return slices.Contains(strings.Fields(takes[op]), []string{"int", "bool", "bytes", "point"}[a.Kind-1])
}

// modelOf is what an operator makes of operands of a kind that it takes, in numbers without an end; or the code by which it fails.
func modelOf(op int, a, b api.Value) (api.Value, int64) {
	switch op {
	case api.XNot:
		return tuple.Bool(!a.Yes), 0
	case api.XAnd:
		return tuple.Bool(a.Yes && b.Yes), 0
	case api.XOr:
		return tuple.Bool(a.Yes || b.Yes), 0
	case api.XEqual, api.XUnlike:
		return tuple.Bool((order(a, b) == 0) == (op == api.XEqual)), 0
	case api.XLess:
		return tuple.Bool(order(a, b) < 0), 0
	case api.XLessEq:
		return tuple.Bool(order(a, b) <= 0), 0
	case api.XLen:
		return tuple.Int(int64(len([]byte(a.Bytes)))), 0
	}
	switch a.Kind {
	case api.KBytes:
		joined := strings.Join([]string{a.Bytes, b.Bytes}, "")
		if len(joined) > 4096 {
			return api.Value{}, api.FailLong
		}
		return tuple.Bytes(joined), 0
	case api.KPoint:
		return modelOfPoints(op, a, b)
	}
	return modelOfInts(op, big.NewInt(a.Int), big.NewInt(b.Int))
}

func modelOfInts(op int, a, b *big.Int) (api.Value, int64) {
	x := new(big.Int)
	switch op {
	case api.XNeg:
		x.Neg(a)
	case api.XAdd:
		x.Add(a, b)
	case api.XSub:
		x.Sub(a, b)
	case api.XMul:
		x.Mul(a, b)
	case api.XPoint:
		return modelPoint(a, b)
	default:
		if b.Sign() == 0 {
			return api.Value{}, api.FailDivide
		}
		rest := new(big.Int)
		x.QuoRem(a, b, rest)
		if op == api.XMod {
			x = rest
		}
	}
	if !x.IsInt64() {
		return api.Value{}, api.FailOver
	}
	return tuple.Int(x.Int64()), 0
}

func modelPoint(re, im *big.Int) (api.Value, int64) {
	most := big.NewInt(1 << 26)
	if re.CmpAbs(most) > 0 || im.CmpAbs(most) > 0 {
		return api.Value{}, api.FailOver
	}
	return tuple.Point(re.Int64(), im.Int64()), 0
}

func modelOfPoints(op int, a, b api.Value) (api.Value, int64) {
	part := func(x float64) *big.Int { return big.NewInt(int64(x)) }
	ar, ai, br, bi := part(real(a.Point)), part(imag(a.Point)), part(real(b.Point)), part(imag(b.Point))
	add, sub, mul := new(big.Int).Add, new(big.Int).Sub, func(x, y *big.Int) *big.Int { return new(big.Int).Mul(x, y) }
	switch op {
	case api.XRe:
		return tuple.Int(ar.Int64()), 0
	case api.XIm:
		return tuple.Int(ai.Int64()), 0
	case api.XNeg:
		return modelPoint(ar.Neg(ar), ai.Neg(ai))
	case api.XAdd:
		return modelPoint(ar.Add(ar, br), ai.Add(ai, bi))
	case api.XSub:
		return modelPoint(ar.Sub(ar, br), ai.Sub(ai, bi))
	}
	return modelPoint(sub(mul(ar, br), mul(ai, bi)), add(mul(ar, bi), mul(ai, br)))
}

// order is how two values of one kind stand; of points, whether they are one.
func order(a, b api.Value) int {
	switch a.Kind {
	case api.KInt:
		return big.NewInt(a.Int).Cmp(big.NewInt(b.Int))
	case api.KBytes:
		for i := 0; i < len(a.Bytes) && i < len(b.Bytes); i++ {
			if a.Bytes[i] != b.Bytes[i] {
				return int(a.Bytes[i]) - int(b.Bytes[i])
			}
		}
		return len(a.Bytes) - len(b.Bytes)
	case api.KBool:
		if a.Yes == b.Yes {
			return 0
		} else if b.Yes {
			return -1
		}
		return 1
	}
	if real(a.Point) == real(b.Point) && imag(a.Point) == imag(b.Point) {
		return 0
	}
	return 1
}

// someOperands are values of all kinds, those at their ends among them.
func someOperands() []api.Value {
	l := []api.Value{tuple.Bool(false), tuple.Bool(true), {Kind: api.KInt, Int: 5, Point: complex(math.Copysign(0, -1), 0)}}
	for _, x := range []int64{0, 1, 2, 3, 5, 7, 10, 1<<26 - 1, 1 << 26, 1<<26 + 1, 1<<31 - 1, 1 << 31, 3037000499, 3037000500, 1<<32 - 1, 1 << 32, 1<<53 + 1, 1<<62 - 1, 1 << 62, 1<<62 + 1, 1<<63 - 2, 1<<63 - 1} {
		l = append(l, tuple.Int(x), tuple.Int(-x), tuple.Int(-x-1))
	}
	for _, s := range []string{"", "a", "ab", "b", "a\x00", "\x00", "\x7f", "\x80", "\xff", "ä", strings.Repeat("a", 2047), strings.Repeat("a", 2048), strings.Repeat("b", 2049), strings.Repeat("\xff", 4095), strings.Repeat("a", 4096)} {
		l = append(l, tuple.Bytes(s))
	}
	parts := []int64{-1 << 26, -1<<26 + 1, -8192, -3, -1, 0, 1, 2, 8191, 8192, 8193, 1<<25 + 1, 1<<26 - 1, 1 << 26}
	for _, re := range parts {
		for _, im := range parts {
			l = append(l, tuple.Point(re, im))
		}
	}
	return l
}

// badOperands are values that may not be, with the errors.
func badOperands() map[api.Errno][]api.Value {
	return map[api.Errno][]api.Value{
		api.ErrKind: {{}, {Kind: 5}, {Kind: -1}, {Kind: math.MaxInt}, {Kind: 1, Yes: true}, {Kind: 2, Int: 1}, {Kind: 3, Point: 1}, {Kind: 4, Bytes: "a"}, {Int: 1}, {Kind: 1, Int: 1, Point: 1i}},
		api.ErrLong: {tuple.Bytes(strings.Repeat("a", 4097)), tuple.Bytes(strings.Repeat("a", 1<<20))},
		api.ErrTuplePart: {
			{Kind: 4, Point: 0.5}, {Kind: 4, Point: complex(math.Copysign(0, -1), 0)}, {Kind: 4, Point: complex(0, math.Copysign(0, -1))}, {Kind: 4, Point: complex(math.NaN(), 0)},
			{Kind: 4, Point: complex(0, math.Inf(-1))}, tuple.Point(1<<26+1, 0), tuple.Point(0, -1<<26-1),
		},
	}
}

// wantMade looks at an answer of Unary or Binary.
func wantMade(t *testing.T, op int, l []api.Value, want api.Value, wantCode int64, wantE api.Errno) {
	t.Helper()
	var v api.Value
	var code int64
	var e api.Errno
	if len(l) == 1 {
		v, code, e = eval.Unary(op, l[0])
	} else {
		v, code, e = eval.Binary(op, l[0], l[1])
	}
	if v != want || code != wantCode || e != wantE || e == api.OK && code == 0 && tuple.Check(v) != api.OK {
		t.Fatalf("%d of %.300s: %.300s, %d, %v, not %.300s, %d, %v", op, said(l), said(v), code, e, said(want), wantCode, wantE)
	}
}

func TestUnary(t *testing.T) { // P16.1, P16.7
	for op := -2; op <= api.XIm+3; op++ {
		for _, a := range someOperands() {
			switch {
			case !isUnary(op):
				wantMade(t, op, []api.Value{a}, api.Value{}, 0, api.ErrArg)
			case !doesTake(op, a):
				wantMade(t, op, []api.Value{a}, api.Value{}, 0, api.ErrKind)
			default:
				want, code := modelOf(op, a, a)
				wantMade(t, op, []api.Value{a}, want, code, api.OK)
			}
		}
	}
}

func TestBinary(t *testing.T) { // P16.1, P16.7
	codes := map[int64]int{}
	for op := -2; op <= api.XIm+3; op++ {
		binary := takes[op] != "" && !isUnary(op)
		for _, a := range someOperands() {
			for _, b := range someOperands() {
				if !binary {
					wantMade(t, op, []api.Value{a, b}, api.Value{}, 0, api.ErrArg)
				} else if a.Kind != b.Kind || !doesTake(op, a) {
					wantMade(t, op, []api.Value{a, b}, api.Value{}, 0, api.ErrKind)
				} else {
					want, code := modelOf(op, a, b)
					wantMade(t, op, []api.Value{a, b}, want, code, api.OK)
					codes[code]++
				}
			}
		}
	}
	for _, code := range []int64{0, api.FailOver, api.FailDivide, api.FailLong} {
		if codes[code] < 40 {
			t.Error(codes)
		}
	}
}

func TestManyInts(t *testing.T) { // P16.7: numbers of all lengths, and those whose products lie about the ends
	n := numbers(161)
	some := func() api.Value {
		x := int64(n.below(1<<31))<<33 ^ int64(n.below(1<<31))<<11 ^ int64(n.below(1<<31))
		return tuple.Int(x >> n.below(64))
	}
	for range 40000 {
		a, b := some(), some()
		if n.below(3) == 0 && a.Int != 0 {
			b = tuple.Int(oneOf(&n, []int64{math.MaxInt64, math.MinInt64})/a.Int + int64(n.below(5)-2))
		}
		for op := api.XAdd; op <= api.XMod; op++ {
			want, code := modelOf(op, a, b)
			wantMade(t, op, []api.Value{a, b}, want, code, api.OK)
		}
	}
}

func TestManyPoints(t *testing.T) { // P16.7
	n := numbers(162)
	some := func() api.Value {
		part := func() int64 { return int64(n.below(1<<27+1)-1<<26) >> n.below(27) }
		return tuple.Point(part(), part())
	}
	made := 0
	for range 40000 {
		a, b := some(), some()
		for op := api.XAdd; op <= api.XMul; op++ {
			want, code := modelOf(op, a, b)
			wantMade(t, op, []api.Value{a, b}, want, code, api.OK)
			if op == api.XMul && code == 0 {
				made++
			}
		}
	}
	if made < 5000 {
		t.Error(made)
	}
}

func TestOperandsThatMayNotBe(t *testing.T) { // P16.1: the operator first, then the first operand, then the second, then the kinds
	good := []api.Value{tuple.Int(1), tuple.Bool(true), tuple.Bytes("a"), tuple.Point(1, 2)}
	for e, l := range badOperands() {
		for _, bad := range l {
			for op := -1; op <= api.XIm+1; op++ {
				unaryE, binaryE := e, e
				if !isUnary(op) {
					unaryE = api.ErrArg
				}
				if isUnary(op) || takes[op] == "" {
					binaryE = api.ErrArg
				}
				wantMade(t, op, []api.Value{bad}, api.Value{}, 0, unaryE)
				for _, x := range good {
					wantMade(t, op, []api.Value{bad, x}, api.Value{}, 0, binaryE)
					wantMade(t, op, []api.Value{x, bad}, api.Value{}, 0, binaryE)
				}
				for otherE, others := range badOperands() {
					if binaryE != api.ErrArg {
						otherE = e
					} else {
						otherE = api.ErrArg
					}
					for _, other := range others {
						wantMade(t, op, []api.Value{bad, other}, api.Value{}, 0, otherE)
					}
				}
			}
		}
	}
	for _, op := range []int{math.MinInt, math.MaxInt, 1 << 32, 1<<32 + api.XAdd} {
		wantMade(t, op, good[:1], api.Value{}, 0, api.ErrArg)
		wantMade(t, op, []api.Value{good[0], good[0]}, api.Value{}, 0, api.ErrArg)
	}
}

func TestNoNegativeNought(t *testing.T) { // a part 0 that comes is +0
	o, i := tuple.Point(0, 0), tuple.Point(0, 1)
	for _, l := range [][]api.Value{{o}, {i}, {tuple.Point(1, 0)}, {tuple.Point(-1, 0)}} {
		v, _, _ := eval.Unary(api.XNeg, l[0])
		wantPlain(t, v)
	}
	for _, a := range someOperands() {
		for _, b := range []api.Value{o, i, tuple.Point(-1, 0), tuple.Point(0, -1), tuple.Point(-1, -1), a} {
			for op := api.XAdd; op <= api.XMul; op++ {
				v, _, _ := eval.Binary(op, a, b)
				wantPlain(t, v)
			}
		}
	}
	v, _, _ := eval.Binary(api.XPoint, tuple.Int(0), tuple.Int(0))
	wantPlain(t, v)
}

func wantPlain(t *testing.T, v api.Value) {
	t.Helper()
	for _, x := range []float64{real(v.Point), imag(v.Point)} {
		if x == 0 && math.Signbit(x) {
			t.Fatal(fmt.Sprint(v))
		}
	}
}

func TestOperatorsByHand(t *testing.T) { // the chapter's words, and its example
	const least, most = "-9223372036854775808", "9223372036854775807"
	for _, x := range []struct {
		op         int
		args, want string
	}{
		{api.XNeg, "3", "-3"}, {api.XNeg, most, "-9223372036854775807"}, {api.XNeg, least, "over"}, {api.XNeg, "(1,-2)", "(-1,2)"}, {api.XNeg, "(67108864,-67108864)", "(-67108864,67108864)"},
		{api.XNot, "true", "false"}, {api.XLen, `"a\x00b"`, "3"}, {api.XLen, `""`, "0"}, {api.XRe, "(3,-4)", "3"}, {api.XIm, "(3,-4)", "-4"},
		{api.XAdd, most + " 1", "over"}, {api.XAdd, least + " -1", "over"}, {api.XAdd, most + " " + least, "-1"}, {api.XAdd, `"ab" "c"`, `"abc"`}, {api.XAdd, "(1,2) (3,4)", "(4,6)"},
		{api.XAdd, "(67108864,0) (1,0)", "over"}, {api.XAdd, "(0,-67108864) (0,-1)", "over"}, {api.XAdd, "(67108864,0) (0,-67108864)", "(67108864,-67108864)"},
		{api.XSub, least + " 1", "over"}, {api.XSub, "0 " + least, "over"}, {api.XSub, "-1 " + least, most}, {api.XSub, "(1,2) (3,5)", "(-2,-3)"},
		{api.XMul, least + " -1", "over"}, {api.XMul, "-1 " + least, "over"}, {api.XMul, "4294967296 2147483648", "over"}, {api.XMul, "4294967296 -2147483648", least}, {api.XMul, "0 " + least, "0"},
		{api.XMul, "(0,1) (0,1)", "(-1,0)"}, {api.XMul, "(67108864,67108864) (1,1)", "over"}, {api.XMul, "(8192,8192) (8192,-8192)", "over"}, {api.XMul, "(8192,0) (8192,0)", "(67108864,0)"}, {api.XMul, "(67108864,67108864) (67108864,-67108864)", "over"},
		{api.XDiv, "7 2", "3"}, {api.XDiv, "-7 2", "-3"}, {api.XDiv, "7 -2", "-3"}, {api.XDiv, "-7 -2", "3"}, {api.XDiv, "1 0", "divide"}, {api.XDiv, "0 0", "divide"}, {api.XDiv, least + " -1", "over"}, {api.XDiv, least + " 1", least},
		{api.XMod, "7 2", "1"}, {api.XMod, "-7 2", "-1"}, {api.XMod, "7 -2", "1"}, {api.XMod, "-7 -2", "-1"}, {api.XMod, "1 0", "divide"}, {api.XMod, least + " -1", "0"}, {api.XMod, least + " 0", "divide"},
		{api.XLess, "1 2", "true"}, {api.XLess, "2 2", "false"}, {api.XLess, least + " " + most, "true"}, {api.XLess, `"a" "ab"`, "true"}, {api.XLess, `"\xff" "a"`, "false"}, {api.XLessEq, "2 2", "true"}, {api.XLessEq, `"b" "ab"`, "false"},
		{api.XEqual, "(1,2) (1,2)", "true"}, {api.XEqual, "true true", "true"}, {api.XUnlike, `"a" "a"`, "false"}, {api.XUnlike, "1 2", "true"},
		{api.XAnd, "true false", "false"}, {api.XOr, "true false", "true"}, {api.XOr, "false false", "false"}, {api.XAnd, "true true", "true"},
		{api.XPoint, "67108864 -67108864", "(67108864,-67108864)"}, {api.XPoint, "67108865 0", "over"}, {api.XPoint, "0 -67108865", "over"}, {api.XPoint, least + " " + most, "over"},
	} {
		l := vals(t, x.args)
		var v api.Value
		var code int64
		var e api.Errno
		if isUnary(x.op) {
			v, code, e = eval.Unary(x.op, l[0])
		} else {
			v, code, e = eval.Binary(x.op, l[0], l[1])
		}
		got := toldCode(code)
		if code == 0 {
			got = toldValues([]api.Value{v})
		}
		if got != x.want || e != api.OK || code != 0 && v != (api.Value{}) {
			t.Errorf("%d of %s: %s, %v, not %s", x.op, x.args, got, e, x.want)
		}
	}
}
