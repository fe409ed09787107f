package wire_test

import (
	"bytes"
	"encoding/binary"
	"math"
	"math/big"
	"testing"

	"keystone/api"
	"keystone/wire"
)

// manyUints are numbers around each power of two, and some with mixed digits.
func manyUints() []uint64 {
	l := []uint64{0, 1, 2, 127, 128, 129, 255, 256, 300, 16383, 16384, math.MaxUint64}
	for i := range 64 {
		p := uint64(1) << i
		l = append(l, p-1, p, p+1, p*0x9E3779B97F4A7C15, math.MaxUint64-p)
	}
	return l
}

// manyInts are the same numbers, taken with a sign.
func manyInts() []int64 {
	var l []int64
	for _, n := range manyUints() {
		l = append(l, int64(n), -int64(n))
	}
	return l
}

// repeat is so many times one byte, and others behind.
func repeat(c byte, n int, behind ...byte) []byte {
	return append(bytes.Repeat([]byte{c}, n), behind...)
}

func TestUintOfOrdinaryNumbersAndEdges(t *testing.T) { // P1.1
	for _, x := range []struct {
		n    uint64
		want []byte
	}{
		{0, []byte{0}},
		{1, []byte{1}},
		{127, []byte{127}},
		{128, []byte{128, 1}},
		{300, []byte{172, 2}},
		{16383, []byte{255, 127}},
		{16384, []byte{128, 128, 1}},
		{1<<63 - 1, repeat(255, 8, 127)},
		{1 << 63, repeat(128, 9, 1)},
		{math.MaxUint64, repeat(255, 9, 1)},
	} {
		if got := wire.Uint(x.n); !bytes.Equal(got, x.want) {
			t.Errorf("Uint(%d): %v, not %v", x.n, got, x.want)
		}
	}
}

func TestUintIsDigitsToTheBase128(t *testing.T) { // P1.1
	for _, n := range manyUints() {
		if got, want := wire.Uint(n), binary.AppendUvarint(nil, n); !bytes.Equal(got, want) {
			t.Errorf("Uint(%d): %v, not %v", n, got, want)
		}
	}
}

func TestTakeUintTakesWhatStandsAtThePlace(t *testing.T) { // P1.1
	for _, x := range []struct {
		b    []byte
		at   int
		n    uint64
		size int
	}{
		{[]byte{0}, 0, 0, 1},
		{[]byte{0, 0}, 0, 0, 1},
		{[]byte{0, 0}, 1, 0, 1},
		{[]byte{9, 172, 2, 7}, 1, 300, 2},
		{[]byte{9, 172, 2, 7}, 2, 2, 1},
		{[]byte{128, 1}, 0, 128, 2},
		{[]byte{128, 128, 1, 128}, 0, 16384, 3},
		{repeat(128, 9, 1), 0, 1 << 63, 10},
		{repeat(255, 9, 1), 0, math.MaxUint64, 10},
		{repeat(255, 9, 1, 255), 0, math.MaxUint64, 10},
		{repeat(255, 10, 1), 1, math.MaxUint64, 10},
	} {
		if n, size, e := wire.TakeUint(x.b, x.at); n != x.n || size != x.size || e != api.OK {
			t.Errorf("TakeUint(%v, %d): %d, %d, %v, not %d, %d", x.b, x.at, n, size, e, x.n, x.size)
		}
	}
}

// notUints are bytes at whose front no number stands.
func notUints() [][]byte {
	return [][]byte{
		nil,
		{},
		{128},
		{255, 255},
		{128, 0},
		{129, 0},
		{255, 128, 0},
		{128, 0, 1},
		repeat(128, 9, 0),
		repeat(255, 9, 0),
		repeat(255, 9, 2),
		repeat(128, 9, 2),
		repeat(128, 9, 127),
		repeat(128, 9),
		repeat(255, 9),
		repeat(128, 10),
		repeat(255, 10),
		repeat(128, 10, 0),
		repeat(128, 10, 1),
		repeat(255, 10, 1),
		repeat(255, 9, 129, 0),
		repeat(255, 9, 129, 1),
		repeat(128, 63, 1),
		repeat(128, 64, 1),
		repeat(255, 300, 1),
	}
}

func TestTakeUintRefusesWhatIsNoNumber(t *testing.T) { // P1.1, R2
	for _, b := range notUints() {
		if n, size, e := wire.TakeUint(b, 0); n != 0 || size != 0 || e != api.ErrForm {
			t.Errorf("TakeUint(%v, 0): %d, %d, %v", b, n, size, e)
		}
		if n, size, e := wire.TakeInt(b, 0); n != 0 || size != 0 || e != api.ErrForm {
			t.Errorf("TakeInt(%v, 0): %d, %d, %v", b, n, size, e)
		}
	}
}

// notPlaces are places that some bytes have not.
func notPlaces(b []byte) []int {
	return []int{-1, -2, -len(b) - 1, math.MinInt, len(b) + 1, len(b) + 9, math.MaxInt - 8, math.MaxInt}
}

func TestTakeNumbersOutsideOfTheBytes(t *testing.T) { // P1.1, R2
	for _, b := range [][]byte{nil, {}, {5}, {128}, {172, 2, 1}} {
		for _, at := range notPlaces(b) {
			if n, size, e := wire.TakeUint(b, at); n != 0 || size != 0 || e != api.ErrArg {
				t.Errorf("TakeUint(%v, %d): %d, %d, %v", b, at, n, size, e)
			}
			if n, size, e := wire.TakeInt(b, at); n != 0 || size != 0 || e != api.ErrArg {
				t.Errorf("TakeInt(%v, %d): %d, %d, %v", b, at, n, size, e)
			}
		}
		if n, size, e := wire.TakeUint(b, len(b)); n != 0 || size != 0 || e != api.ErrForm {
			t.Errorf("TakeUint(%v) at the end: %d, %d, %v", b, n, size, e)
		}
		if n, size, e := wire.TakeInt(b, len(b)); n != 0 || size != 0 || e != api.ErrForm {
			t.Errorf("TakeInt(%v) at the end: %d, %d, %v", b, n, size, e)
		}
	}
}

func TestTakeUintOfAllBytesOfTwo(t *testing.T) { // P1.1: what is taken is just what Uint makes
	made := map[string]uint64{}
	for n := range uint64(1 << 14) {
		made[string(wire.Uint(n))] = n
	}
	if len(made) != 1<<14 {
		t.Fatal("two numbers have the same bytes")
	}
	for i := range 1 << 16 {
		b := []byte{byte(i >> 8), byte(i)}
		want, size, e := uint64(0), 0, api.ErrForm
		for k := 1; k <= len(b) && size == 0; k++ {
			if n, ok := made[string(b[:k])]; ok {
				want, size, e = n, k, api.OK
			}
		}
		if n, s, err := wire.TakeUint(b, 0); n != want || s != size || err != e {
			t.Fatalf("TakeUint(%v, 0): %d, %d, %v, not %d, %d, %v", b, n, s, err, want, size, e)
		}
	}
}

func TestIntOfOrdinaryNumbersAndEdges(t *testing.T) { // P1.1
	for _, x := range []struct {
		n    int64
		want []byte
	}{
		{0, []byte{0}},
		{-1, []byte{1}},
		{1, []byte{2}},
		{-2, []byte{3}},
		{63, []byte{126}},
		{-64, []byte{127}},
		{64, []byte{128, 1}},
		{-65, []byte{129, 1}},
		{math.MaxInt64, append([]byte{254}, repeat(255, 8, 1)...)},
		{math.MinInt64, repeat(255, 9, 1)},
	} {
		if got := wire.Int(x.n); !bytes.Equal(got, x.want) {
			t.Errorf("Int(%d): %v, not %v", x.n, got, x.want)
		}
	}
}

// doubled is 2n, or -2n - 1 for an n below 0, as a whole number without a bound.
func doubled(n int64) uint64 {
	twice := new(big.Int).Mul(big.NewInt(n), big.NewInt(2))
	if n < 0 {
		twice.Neg(twice).Sub(twice, big.NewInt(1))
	}
	return twice.Uint64()
}

func TestIntIsUintOfTheDouble(t *testing.T) { // P1.1
	for _, n := range manyInts() {
		b := wire.Int(n)
		if want := wire.Uint(doubled(n)); !bytes.Equal(b, want) {
			t.Errorf("Int(%d): %v, not %v", n, b, want)
		}
		if got, size, e := wire.TakeInt(b, 0); got != n || size != len(b) || e != api.OK {
			t.Errorf("TakeInt(%v, 0): %d, %d, %v, not %d", b, got, size, e, n)
		}
	}
}

func TestTakeIntTakesWhatStandsAtThePlace(t *testing.T) { // P1.1
	b := []byte{9, 129, 1, 0, 3}
	for _, x := range []struct {
		at   int
		n    int64
		size int
	}{{0, -5, 1}, {1, -65, 2}, {2, -1, 1}, {3, 0, 1}, {4, -2, 1}} {
		if n, size, e := wire.TakeInt(b, x.at); n != x.n || size != x.size || e != api.OK {
			t.Errorf("TakeInt(%v, %d): %d, %d, %v", b, x.at, n, size, e)
		}
	}
}
