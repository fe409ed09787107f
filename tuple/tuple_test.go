package tuple_test

import (
	"math"
	"strings"
	"testing"

	"keystone/api"
	"keystone/tuple"
)

func TestMakers(t *testing.T) { // P4.1
	for _, n := range manyInts() {
		if v := tuple.Int(n); v != (api.Value{Kind: api.KInt, Int: n}) {
			t.Errorf("Int(%d): %v", n, v)
		}
	}
	for _, yes := range []bool{false, true} {
		if v := tuple.Bool(yes); v != (api.Value{Kind: api.KBool, Yes: yes}) {
			t.Errorf("Bool(%v): %v", yes, v)
		}
	}
	for _, s := range append(manyBytes(), strings.Repeat("x", api.MaxBytes+1), strings.Repeat("\x00", 3*api.MaxBytes)) {
		if v := tuple.Bytes(s); v != (api.Value{Kind: api.KBytes, Bytes: s}) {
			t.Errorf("Bytes of %d bytes: %v", len(s), short(list(v)))
		}
	}
}

func TestPointsHaveTheNearestParts(t *testing.T) { // P4.1
	for _, x := range []struct {
		n    int64
		want float64
	}{
		{0, 0}, {1, 1}, {-1, -1}, {api.MaxPoint, api.MaxPoint}, {-api.MaxPoint - 1, -api.MaxPoint - 1},
		{1<<53 - 1, 1<<53 - 1}, {1<<53 + 1, 1 << 53}, {1<<53 + 3, 1<<53 + 4}, {-1<<53 - 1, -1 << 53},
		{math.MaxInt64, 1 << 63}, {math.MinInt64, -1 << 63}, {1<<62 + 1, 1 << 62},
	} {
		if v := tuple.Point(x.n, 7); v != point(x.want, 7) {
			t.Errorf("Point(%d, 7): %v", x.n, v)
		}
		if v := tuple.Point(7, x.n); v != point(7, x.want) {
			t.Errorf("Point(7, %d): %v", x.n, v)
		}
	}
	if p := tuple.Point(0, 0).Point; math.Signbit(real(p)) || math.Signbit(imag(p)) {
		t.Error("Point(0, 0) has a part -0")
	}
}

func TestZero(t *testing.T) { // P4.1
	for kind, want := range map[int]api.Value{api.KInt: tuple.Int(0), api.KBool: tuple.Bool(false), api.KBytes: tuple.Bytes(""), api.KPoint: tuple.Point(0, 0)} {
		v, e := tuple.Zero(kind)
		if e != api.OK || v != want || tuple.Check(v) != api.OK {
			t.Errorf("Zero(%d): %v, %v", kind, v, e)
		}
	}
	for _, kind := range []int{api.KNone, -1, 5, 257, math.MinInt, math.MaxInt} {
		if v, e := tuple.Zero(kind); e != api.ErrKind || v != (api.Value{}) {
			t.Errorf("Zero(%d): %v, %v", kind, v, e)
		}
	}
}

func TestCheckOfWhatMayBe(t *testing.T) { // P4.2
	for _, v := range goodValues() {
		if e := tuple.Check(v); e != api.OK {
			t.Errorf("Check(%v): %v", short(list(v)), e)
		}
	}
}

func TestNoughtsOfEitherSignWhereNoPointIs(t *testing.T) { // P4.2, and Words of DOC.md
	for _, v := range list(tuple.Int(3), tuple.Bool(true), tuple.Bytes("a")) {
		for _, p := range []complex128{complex(minus0, 0), complex(0, minus0), complex(minus0, minus0)} {
			v.Point = p
			if e := tuple.Check(v); e != api.OK {
				t.Errorf("Check(%v): %v", v, e)
			}
			v.Point = 0
			plain := list(v)
			v.Point = p
			if got, want := key(t, list(v)), key(t, plain); got != want || string(encode(t, list(v))) != string(encode(t, plain)) || text(t, v) != text(t, plain[0]) {
				t.Errorf("%v has not the bytes and the text of %v", v, plain)
			}
			if c, e := tuple.Compare(list(v), plain); c != 0 || e != api.OK || !tuple.Same(list(v), plain) {
				t.Errorf("%v is not %v: %d, %v", v, plain, c, e)
			}
		}
	}
}

func TestCheckOfWhatMayNotBe(t *testing.T) { // P4.2
	for _, x := range wrongValues() {
		if e := tuple.Check(x.v); e != x.want {
			t.Errorf("Check(%v): %v, not %v", short(list(x.v)), e, x.want)
		}
	}
}

func TestCheckList(t *testing.T) { // P4.2
	for _, l := range lists(goodValues()) {
		if e := tuple.CheckList(l); e != api.OK {
			t.Errorf("CheckList(%v): %v", short(l), e)
		}
	}
	wantListErrors(t, "CheckList", tuple.CheckList)
}

// wantListErrors looks for the errors that every call names of a list that may not be.
func wantListErrors(t *testing.T, what string, call func([]api.Value) api.Errno) {
	t.Helper()
	good := make([]api.Value, 2*api.MaxColumns+1)
	for i := range good {
		good[i] = tuple.Int(int64(i))
	}
	if e := call(good[1:]); e != api.OK {
		t.Errorf("%s of 16 values: %v", what, e)
	}
	if e := call(good); e != api.ErrLong {
		t.Errorf("%s of 17 values: %v", what, e)
	}
	if e := call(make([]api.Value, 17)); e != api.ErrLong { // ahead of what the values are
		t.Errorf("%s of 17 values that may not be: %v", what, e)
	}
	if e := call(make([]api.Value, 5000)); e != api.ErrLong {
		t.Errorf("%s of 5000 values: %v", what, e)
	}
	for _, x := range wrongValues() {
		for _, at := range []int{0, 3, 15} {
			l := append([]api.Value{}, good[1:]...)
			l[at] = x.v
			if e := call(l); e != x.want {
				t.Errorf("%s with %v at %d: %v, not %v", what, short(list(x.v)), at, e, x.want)
			}
			for _, y := range wrongValues() { // the first one that may not be
				if at < 15 {
					l[at+1] = y.v
				}
				if e := call(l); e != x.want {
					t.Errorf("%s with %v ahead of %v: %v, not %v", what, short(list(x.v)), short(list(y.v)), e, x.want)
				}
			}
		}
	}
}

func TestSame(t *testing.T) { // P4.2
	some := lists(goodValues())
	for i, a := range some {
		for k := range 40 {
			b := some[(i+k*k*31)%len(some)]
			if got, want := tuple.Same(a, b), sameOneByOne(a, b); got != want {
				t.Errorf("Same(%v, %v): %v", short(a), short(b), got)
			}
		}
		if !tuple.Same(a, append([]api.Value{}, a...)) {
			t.Errorf("Same(%v) of a copy", short(a))
		}
	}
}

// sameOneByOne says what Same says, field by field.
func sameOneByOne(a, b []api.Value) bool {
	if len(a) != len(b) {
		return false
	}
	for i := range a {
		x, y := a[i], b[i]
		if x.Kind != y.Kind || x.Int != y.Int || x.Yes != y.Yes || x.Bytes != y.Bytes || real(x.Point) != real(y.Point) || imag(x.Point) != imag(y.Point) {
			return false
		}
	}
	return true
}

func TestSameOfAnyLists(t *testing.T) { // P4.2: those too that may not be
	nan, half := list(point(math.NaN(), 0)), list(point(0.5, 0))
	long := make([]api.Value, 3000)
	other := append([]api.Value{}, long...)
	other[2999].Bytes = "x"
	for _, x := range []struct {
		a, b []api.Value
		want bool
	}{
		{nil, nil, true},
		{nil, []api.Value{}, true},
		{nil, list(api.Value{}), false},
		{list(api.Value{}), nil, false},
		{list(api.Value{}), list(api.Value{}), true},
		{list(tuple.Int(1)), list(tuple.Int(1), tuple.Int(1)), false},
		{list(tuple.Int(0)), list(tuple.Bool(false)), false},
		{list(api.Value{Kind: 9, Int: 1}), list(api.Value{Kind: 9, Int: 1}), true},
		{list(api.Value{Kind: api.KInt, Yes: true}), list(api.Value{Kind: api.KInt}), false},
		{list(api.Value{Kind: api.KInt, Bytes: "a"}), list(api.Value{Kind: api.KInt}), false},
		{list(api.Value{Kind: api.KBool, Int: 4}), list(api.Value{Kind: api.KBool}), false},
		{list(api.Value{Kind: api.KBool, Point: 4}), list(api.Value{Kind: api.KBool}), false},
		{list(point(1, 2)), list(point(1, 3)), false},
		{list(point(1, 2)), list(point(3, 2)), false},
		{list(point(minus0, 0)), list(point(0, minus0)), true},
		{half, half, true},
		{nan, nan, false},
		{long, append([]api.Value{}, long...), true},
		{long, other, false},
		{long, long[1:], false},
	} {
		if got := tuple.Same(x.a, x.b); got != x.want {
			t.Errorf("Same(%v, %v): %v", short(x.a), short(x.b), got)
		}
	}
}
