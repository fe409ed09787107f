package tuple_test

import (
	"math"
	"strings"
	"testing"

	"keystone/api"
	"keystone/tuple"
	"keystone/wire"
)

func TestEncode(t *testing.T) { // P4.6
	for _, x := range []struct {
		l    []api.Value
		want string
	}{
		{nil, "\x00"},
		{list(tuple.Int(0)), "\x01\x01\x00"},
		{list(tuple.Int(-1), tuple.Int(1), tuple.Int(64)), "\x03\x01\x01\x01\x02\x01\x80\x01"},
		{list(tuple.Bool(false), tuple.Bool(true)), "\x02\x02\x00\x02\x01"},
		{list(tuple.Bytes("")), "\x01\x03\x00"},
		{list(tuple.Bytes("a\x00\xff")), "\x01\x03\x03a\x00\xff"},
		{list(tuple.Point(0, 0)), "\x01\x04\x00\x00"},
		{list(tuple.Point(1, -2)), "\x01\x04\x02\x03"},
		{list(tuple.Point(-65, 64)), "\x01\x04\x81\x01\x80\x01"},
		{list(tuple.Point(api.MaxPoint, -api.MaxPoint)), "\x01\x04\x80\x80\x80\x40\xff\xff\xff\x3f"},
		{list(tuple.Int(-1), tuple.Bool(true), tuple.Point(0, 1)), "\x03\x01\x01\x02\x01\x04\x00\x02"},
	} {
		if b := encode(t, x.l); string(b) != x.want {
			t.Errorf("Encode(%v): %q, not %q", x.l, b, x.want)
		}
	}
	for _, l := range lists(goodValues()) {
		if b := encode(t, l); string(b) != row(l) {
			t.Errorf("Encode(%v): %.60q, not %.60q", short(l), b, row(l))
		}
	}
}

// row is a list as bytes, as the chapter says it.
func row(l []api.Value) string {
	b := wire.Uint(uint64(len(l)))
	for _, v := range l {
		b = append(b, byte(v.Kind))
		switch v.Kind {
		case api.KInt:
			b = append(b, wire.Int(v.Int)...)
		case api.KBool:
			b = append(b, map[bool]byte{false: 0, true: 1}[v.Yes])
		case api.KBytes:
			b = append(b, wire.Text(v.Bytes)...)
		case api.KPoint:
			b = append(append(b, wire.Int(int64(real(v.Point)))...), wire.Int(int64(imag(v.Point)))...)
		}
	}
	return string(b)
}

func TestEncodeErrors(t *testing.T) { // P4.6, R2
	wantListErrors(t, "Encode", func(l []api.Value) api.Errno {
		b, e := tuple.Encode(l)
		if e != api.OK && len(b) != 0 {
			t.Errorf("Encode(%v): %q beside %v", short(l), b, e)
		}
		return e
	})
}

// rowText is the bytes of a list of one value that is so many bytes.
func rowText(n int) string {
	return "\x01\x03" + string(wire.Text(strings.Repeat("x", n)))
}

// rowPoint is the bytes of a list of one point of any parts.
func rowPoint(re, im int64) string {
	return "\x01\x04" + string(wire.Int(re)) + string(wire.Int(im))
}

func TestDecode(t *testing.T) { // P4.6
	for _, x := range []struct {
		s    string
		want []api.Value
	}{
		{"\x00", nil},
		{"\x01\x01\x00", list(tuple.Int(0))},
		{"\x01\x01\xff\xff\xff\xff\xff\xff\xff\xff\xff\x01", list(tuple.Int(math.MinInt64))},
		{"\x02\x02\x01\x02\x00", list(tuple.Bool(true), tuple.Bool(false))},
		{"\x01\x03\x02\x00\xff", list(tuple.Bytes("\x00\xff"))},
		{rowText(api.MaxBytes), list(tuple.Bytes(strings.Repeat("x", api.MaxBytes)))},
		{rowPoint(3, -4), list(tuple.Point(3, -4))},
		{rowPoint(-api.MaxPoint, api.MaxPoint), list(tuple.Point(-api.MaxPoint, api.MaxPoint))},
	} {
		l, e := tuple.Decode([]byte(x.s))
		wantSame(t, "Decode", l, x.want, e)
	}
	if l, e := tuple.Decode([]byte("\x10" + strings.Repeat("\x02\x01", 16))); len(l) != 16 || e != api.OK {
		t.Errorf("Decode of 16 values: %d, %v", len(l), e)
	}
}

// notRows are bytes that are no list of values.
func notRows() []string {
	l := []string{
		"", "\x01", "\x02", "\x80", "\x80\x00", "\x81\x00\x02\x01", "\x10", "\x00\x00", "\x00\x01\x00",
		"\x11" + strings.Repeat("\x02\x01", 17), "\x11", "\x7f", "\x80\x01" + strings.Repeat("\x02\x01", 128),
		"\x11" + strings.Repeat("\x02\x01", 16), "\x10" + strings.Repeat("\x02\x01", 15), "\x10" + strings.Repeat("\x02\x01", 17),
		"\xff\xff\xff\xff\xff\xff\xff\xff\xff\x01", "\xff\xff\xff\xff\xff\xff\xff\xff\x7f", "\xff\xff\xff\xff\xff\xff\xff\xff\xff\x02",
		"\x01\x00", "\x01\x05", "\x01\x05\x00", "\x01\x00\x00", "\x01\xff\x00", "\x01\x81\x00", "\x02\x00\x02\x01",
		"\x01\x01", "\x01\x01\x80", "\x01\x01\x80\x00", "\x01\x01\xff\xff\xff\xff\xff\xff\xff\xff\xff\x02", "\x01\x01\x00\x00",
		"\x01\x02", "\x01\x02\x02", "\x01\x02\xff", "\x01\x02\x01\x00", "\x02\x02\x01", "\x02\x02\x02\x02\x01",
		"\x01\x03", "\x01\x03\x01", "\x01\x03\x02a", "\x01\x03\x81\x00a", "\x01\x03\x00a", "\x01\x03\xff\xff\xff\xff\xff\xff\xff\xff\xff\x01",
		rowText(api.MaxBytes + 1), rowText(3 * api.MaxBytes),
		"\x01\x04", "\x01\x04\x00", "\x01\x04\x00\x80", "\x01\x04\x80\x00\x00", "\x01\x04\x00\x80\x00", "\x01\x04\x00\x00\x00",
	}
	for _, n := range []int64{api.MaxPoint + 1, -api.MaxPoint - 1, 1 << 53, 1<<53 + 1, math.MaxInt64, math.MinInt64} {
		l = append(l, rowPoint(n, 0), rowPoint(0, n), rowPoint(n, n))
	}
	return l
}

func TestDecodeOfNoRow(t *testing.T) { // P4.6, R2
	for _, s := range notRows() {
		if l, e := tuple.Decode([]byte(s)); len(l) != 0 || e != api.ErrTupleRow {
			t.Errorf("Decode(%.60q): %v, %v", s, short(l), e)
		}
	}
	if l, e := tuple.Decode(nil); len(l) != 0 || e != api.ErrTupleRow {
		t.Errorf("Decode(nil): %v, %v", l, e)
	}
}

func TestDecodeOfARowsBeginning(t *testing.T) { // P4.6: to the last byte
	b := encode(t, list(tuple.Int(-7000), tuple.Bool(true), tuple.Bytes("a\x00\xff"), tuple.Point(-100, 70), tuple.Bytes("")))
	for at := range len(b) {
		if l, e := tuple.Decode(b[:at]); len(l) != 0 || e != api.ErrTupleRow {
			t.Errorf("Decode(%q): %v, %v", b[:at], l, e)
		}
	}
	for c := range 256 {
		if l, e := tuple.Decode(append(b[:len(b):len(b)], byte(c))); len(l) != 0 || e != api.ErrTupleRow {
			t.Errorf("Decode with a byte %d behind: %v, %v", c, l, e)
		}
	}
}
