package eval

import (
	"math"

	"keystone/api"
	"keystone/tuple"
)

// unary is what an operator makes of a value; no value, if it takes none of that kind.
func unary(op int, a api.Value) api.Value {
	switch {
	case op == api.XNeg && a.Kind == api.KInt:
		must(a.Int != math.MinInt64, api.FailOver)
		return tuple.Int(-a.Int)
	case op == api.XNeg && a.Kind == api.KPoint:
		return point(-a.Point)
	case op == api.XNot && a.Kind == api.KBool:
		return tuple.Bool(!a.Yes)
	case op == api.XLen && a.Kind == api.KBytes:
		return tuple.Int(int64(len(a.Bytes)))
	case op == api.XRe && a.Kind == api.KPoint:
		return tuple.Int(int64(real(a.Point)))
	case op == api.XIm && a.Kind == api.KPoint:
		return tuple.Int(int64(imag(a.Point)))
	}
	return api.Value{}
}

// binary is what an operator makes of two values; no value, if it takes none of those kinds.
func binary(op int, a, b api.Value) api.Value {
	switch {
	case a.Kind != b.Kind:
		return api.Value{}
	case op == api.XEqual:
		return tuple.Bool(a == b)
	case op == api.XUnlike:
		return tuple.Bool(a != b)
	}
	switch a.Kind {
	case api.KInt:
		return ofInts(op, a.Int, b.Int)
	case api.KBool:
		return ofBools(op, a.Yes, b.Yes)
	case api.KBytes:
		return ofBytes(op, a.Bytes, b.Bytes)
	}
	return ofPoints(op, a.Point, b.Point)
}

func ofInts(op int, a, b int64) api.Value {
	switch op {
	case api.XAdd:
		return tuple.Int(sum(a, b))
	case api.XSub:
		return tuple.Int(difference(a, b))
	case api.XMul:
		return tuple.Int(product(a, b))
	case api.XDiv:
		must(b != 0, api.FailDivide)
		must(a != math.MinInt64 || b != -1, api.FailOver)
		return tuple.Int(a / b)
	case api.XMod:
		must(b != 0, api.FailDivide)
		return tuple.Int(a % b)
	case api.XLess:
		return tuple.Bool(a < b)
	case api.XLessEq:
		return tuple.Bool(a <= b)
	case api.XPoint:
		return pointAt(a, b)
	}
	return api.Value{}
}

func ofBools(op int, a, b bool) api.Value {
	switch op {
	case api.XAnd:
		return tuple.Bool(a && b)
	case api.XOr:
		return tuple.Bool(a || b)
	}
	return api.Value{}
}

func ofBytes(op int, a, b string) api.Value {
	switch op {
	case api.XAdd:
		must(len(a)+len(b) <= api.MaxBytes, api.FailLong)
		return tuple.Bytes(a + b)
	case api.XLess:
		return tuple.Bool(a < b)
	case api.XLessEq:
		return tuple.Bool(a <= b)
	}
	return api.Value{}
}

func ofPoints(op int, a, b complex128) api.Value {
	switch op {
	case api.XAdd:
		return point(a + b)
	case api.XSub:
		return point(a - b)
	case api.XMul:
		return point(a * b)
	}
	return api.Value{}
}

// sum wraps round where it would leave 64 bits, and is then on the wrong side of a; so is a difference.
func sum(a, b int64) int64 {
	c := a + b
	must((c < a) == (b < 0), api.FailOver)
	return c
}

func difference(a, b int64) int64 {
	c := a - b
	must((c > a) == (b < 0), api.FailOver)
	return c
}

// product wraps round where it would leave 64 bits, and gives another quotient then, but for that of the least number and -1, which wraps round itself.
func product(a, b int64) int64 {
	c := a * b
	must(b == 0 || c/b == a && (a != math.MinInt64 || b != -1), api.FailOver)
	return c
}

// point is a point whose parts are whole numbers of at most 2^53 either way, as are those of all sums and products of points: so they are exact.
func point(p complex128) api.Value {
	return pointAt(int64(real(p)), int64(imag(p)))
}

func pointAt(re, im int64) api.Value {
	must(min(re, im) >= -api.MaxPoint && max(re, im) <= api.MaxPoint, api.FailOver)
	return tuple.Point(re, im)
}
