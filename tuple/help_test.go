package tuple_test

import (
	"bytes"
	"math"
	"strings"
	"testing"

	"keystone/api"
	"keystone/tuple"
)

// list is some values.
func list(l ...api.Value) []api.Value {
	return l
}

// point is a point of any two parts, those that may not be too.
func point(re, im float64) api.Value {
	return api.Value{Kind: api.KPoint, Point: complex(re, im)}
}

var minus0 = math.Copysign(0, -1)

// textsOf are all texts of at most so many bytes of an alphabet, the shorter ones first.
func textsOf(alphabet string, most int) []string {
	l := []string{""}
	for from, n := 0, 0; n < most; n++ {
		to := len(l)
		for _, s := range l[from:to] {
			for i := range len(alphabet) {
				l = append(l, s+alphabet[i:i+1])
			}
		}
		from = to
	}
	return l
}

// allBytes is each byte once.
func allBytes() string {
	b := make([]byte, 256)
	for i := range b {
		b[i] = byte(i)
	}
	return string(b)
}

// manyInts are numbers around 0, around each power of two, and some with mixed digits.
func manyInts() []int64 {
	var l []int64
	for i := range 64 {
		p := int64(uint64(1) << i)
		l = append(l, p-1, p, p+1, -p-1, -p, -p+1, p*-0x61C8864680B583EB)
	}
	return append(l, 0, math.MaxInt64, math.MinInt64)
}

// manyBytes are bytes of all sorts, the noughts among them above all.
func manyBytes() []string {
	l := textsOf("\x00\x01a\xff", 3)
	l = append(l, allBytes(), "größer", "a\nb\tc", `"\`, `\x00`, "\x80\xfe")
	for _, s := range []string{"\x00", "\xff", "x", `\`, "\x07\x00\xff"} {
		l = append(l, strings.Repeat(s, api.MaxBytes)[:api.MaxBytes], strings.Repeat(s, 127), strings.Repeat(s, 128))
	}
	return l
}

// keyValues are values that may stand in a key.
func keyValues() []api.Value {
	l := list(tuple.Bool(false), tuple.Bool(true))
	for _, n := range manyInts() {
		l = append(l, tuple.Int(n))
	}
	for _, s := range manyBytes() {
		l = append(l, tuple.Bytes(s))
	}
	return l
}

// pointValues are points that may be.
func pointValues() []api.Value {
	parts := []int64{0, 1, -1, 2, 63, 64, -64, -65, 1000, api.MaxPoint - 1, api.MaxPoint, -api.MaxPoint, 1 - api.MaxPoint}
	var l []api.Value
	for _, re := range parts {
		for _, im := range parts {
			l = append(l, tuple.Point(re, im))
		}
	}
	return l
}

// goodValues are values that may be.
func goodValues() []api.Value {
	return append(keyValues(), pointValues()...)
}

// numbers tells one number behind the other, always the same ones.
type numbers uint64

func (n *numbers) below(most int) int {
	*n = *n*6364136223846793005 + 1442695040888963407
	return int(uint64(*n)>>33) % most
}

// lists are lists of values of some sort: each value alone, those of the most and the fewest values, and many mixed ones.
func lists(of []api.Value) [][]api.Value {
	l := [][]api.Value{nil}
	for _, v := range of {
		l = append(l, list(v))
	}
	n := numbers(len(of))
	for i := range 600 {
		one := make([]api.Value, i%17)
		for k := range one {
			one[k] = of[n.below(len(of))]
		}
		l = append(l, one)
	}
	return l
}

// keys are lists that may be keys.
func keys() [][]api.Value {
	return lists(keyValues())
}

// wrong is a value that may not be, and why.
type wrong struct {
	v    api.Value
	want api.Errno
}

// wrongValues are values that may not be: of each sort, and of two sorts, of which the first one is the answer.
func wrongValues() []wrong {
	long := strings.Repeat("x", api.MaxBytes+1)
	l := []wrong{
		{api.Value{}, api.ErrKind},
		{api.Value{Int: 1}, api.ErrKind},
		{api.Value{Kind: -1}, api.ErrKind},
		{api.Value{Kind: 5}, api.ErrKind},
		{api.Value{Kind: 256 + api.KInt}, api.ErrKind},
		{api.Value{Kind: math.MinInt}, api.ErrKind},
		{api.Value{Kind: math.MaxInt}, api.ErrKind},
		{api.Value{Kind: api.KInt, Yes: true}, api.ErrKind},
		{api.Value{Kind: api.KInt, Int: 1, Bytes: "\x00"}, api.ErrKind},
		{api.Value{Kind: api.KInt, Point: 1}, api.ErrKind},
		{api.Value{Kind: api.KBool, Int: -1}, api.ErrKind},
		{api.Value{Kind: api.KBool, Yes: true, Bytes: "a"}, api.ErrKind},
		{api.Value{Kind: api.KBool, Point: 1i}, api.ErrKind},
		{api.Value{Kind: api.KBytes, Bytes: "a", Int: 1}, api.ErrKind},
		{api.Value{Kind: api.KBytes, Yes: true}, api.ErrKind},
		{api.Value{Kind: api.KBytes, Point: complex(0, 0.5)}, api.ErrKind},
		{api.Value{Kind: api.KPoint, Point: 1, Int: 1}, api.ErrKind},
		{api.Value{Kind: api.KPoint, Yes: true}, api.ErrKind},
		{api.Value{Kind: api.KPoint, Bytes: "a"}, api.ErrKind},
		{api.Value{Kind: api.KInt, Point: complex(math.NaN(), 0)}, api.ErrKind},
		{api.Value{Kind: api.KBool, Point: complex(0, math.Inf(-1))}, api.ErrKind},
		{api.Value{Kind: api.KBytes, Bytes: long}, api.ErrLong},
		{api.Value{Kind: api.KBytes, Bytes: long + long, Point: complex(minus0, minus0)}, api.ErrLong},
		// Of two things that are wrong, a field of another kind is the first.
		{api.Value{Kind: api.KBytes, Bytes: long, Int: 1}, api.ErrKind},
		{api.Value{Kind: api.KBytes, Bytes: long, Point: 0.5}, api.ErrKind},
		{api.Value{Kind: api.KInt, Bytes: long}, api.ErrKind},
		{api.Value{Kind: api.KPoint, Bytes: long, Point: 0.5}, api.ErrKind},
		{api.Value{Kind: api.KPoint, Int: 1, Point: 0.5}, api.ErrKind},
		{api.Value{Kind: api.KPoint, Yes: true, Point: complex(math.NaN(), math.NaN())}, api.ErrKind},
		{api.Value{Kind: 9, Bytes: long, Point: 0.5}, api.ErrKind},
	}
	for _, x := range wrongParts() {
		l = append(l, wrong{point(x, 1), api.ErrTuplePart}, wrong{point(1, x), api.ErrTuplePart}, wrong{point(x, x), api.ErrTuplePart})
	}
	return l
}

// wrongParts are numbers that may be no part of a point.
func wrongParts() []float64 {
	return []float64{
		minus0, 0.5, -0.5, 1.5, math.SmallestNonzeroFloat64, -math.SmallestNonzeroFloat64, 1 - 1e-16, 1 + 1e-15,
		api.MaxPoint - 0.5, api.MaxPoint + 0.5, api.MaxPoint + 1, -api.MaxPoint - 1, -api.MaxPoint - 0.5, 1 << 53, -1 << 63, 1e300, math.MaxFloat64,
		math.NaN(), math.Inf(1), math.Inf(-1),
	}
}

// wantSame looks whether a list came back as it was, with nothing in the fields of other kinds.
func wantSame(t *testing.T, what string, got, want []api.Value, e api.Errno) {
	t.Helper()
	if e != api.OK || len(got) != len(want) {
		t.Fatalf("%s of %v: %v, %v", what, short(want), short(got), e)
	}
	for i := range want {
		if got[i] != want[i] {
			t.Fatalf("%s of %v: %v", what, short(want), short(got))
		}
	}
}

// short is a list with its long bytes cut, to tell of it.
func short(l []api.Value) []api.Value {
	cut := append([]api.Value{}, l...)
	for i := range cut {
		cut[i].Bytes = cut[i].Bytes[:min(20, len(cut[i].Bytes))]
	}
	return cut
}

func key(t *testing.T, l []api.Value) string {
	t.Helper()
	s, e := tuple.Key(l)
	if e != api.OK {
		t.Fatalf("Key(%v): %v", short(l), e)
	}
	return s
}

func encode(t *testing.T, l []api.Value) []byte {
	t.Helper()
	b, e := tuple.Encode(l)
	if e != api.OK {
		t.Fatalf("Encode(%v): %v", short(l), e)
	}
	return b
}

func text(t *testing.T, v api.Value) string {
	t.Helper()
	s, e := tuple.Text(v)
	if e != api.OK {
		t.Fatalf("Text(%v): %v", short(list(v)), e)
	}
	return s
}

// spoilt are bytes with one byte changed, left out or put in, and with their end cut off.
func spoilt(b []byte) [][]byte {
	var l [][]byte
	n := numbers(len(b))
	for range 60 {
		at := n.below(len(b) + 1)
		l = append(l, b[:at], append(append(bytes.Clone(b[:at]), byte(n.below(6))), b[at:]...))
		if at == len(b) {
			continue
		}
		one := bytes.Clone(b)
		one[at] += byte(1 + n.below(255))
		l = append(l, one, append(bytes.Clone(b[:at]), b[at+1:]...))
	}
	return l
}
