package tuple_test

import (
	"cmp"
	"encoding/binary"
	"math"
	"strings"
	"testing"

	"keystone/api"
	"keystone/tuple"
)

// rising are keys, each of which stands ahead of the next one.
func rising() [][]api.Value {
	i, b, s := tuple.Int, tuple.Bool, tuple.Bytes
	return [][]api.Value{
		nil,
		{i(math.MinInt64)},
		{i(math.MinInt64), i(math.MinInt64)},
		{i(math.MinInt64 + 1)},
		{i(-256)},
		{i(-2)},
		{i(-1)},
		{i(-1), b(true)},
		{i(-1), s("")},
		{i(0)},
		{i(0), i(5)},
		{i(1)},
		{i(1), b(false)},
		{i(1), b(false), b(false)},
		{i(1), b(true)},
		{i(1), s("")},
		{i(1), s("\xff")},
		{i(2)},
		{i(127)},
		{i(255)},
		{i(256)},
		{i(1 << 40)},
		{i(math.MaxInt64)},
		{i(math.MaxInt64), s("\xff")},
		{b(false)},
		{b(false), i(math.MaxInt64)},
		{b(false), b(false)},
		{b(false), b(true), i(0)},
		{b(true)},
		{b(true), i(0)},
		{s("")},
		{s(""), i(0)},
		{s(""), s("z")},
		{s("\x00")},
		{s("\x00"), s("\xff\xff")},
		{s("\x00\x00")},
		{s("\x00\x00\x01")},
		{s("\x00\x01")},
		{s("\x00\xff")},
		{s("\x01")},
		{s("A")},
		{s("a")},
		{s("a"), i(math.MaxInt64)},
		{s("a"), s("\xff")},
		{s("a\x00")},
		{s("a\x00"), i(0)},
		{s("a\x00b")},
		{s("a\x01")},
		{s("aa")},
		{s("b")},
		{s("\x7f")},
		{s("\x80")},
		{s("\xc3\xb6")},
		{s("\xff")},
		{s("\xff"), i(0)},
		{s("\xff\x00")},
		{s("\xff\xff")},
		{s(strings.Repeat("\xff", api.MaxBytes-1))},
		{s(strings.Repeat("\xff", api.MaxBytes))},
	}
}

func TestCompare(t *testing.T) { // P4.3
	for i, a := range rising() {
		for k, b := range rising() {
			if c, e := tuple.Compare(a, b); c != cmp.Compare(i, k) || e != api.OK {
				t.Errorf("Compare(%v, %v): %d, %v", short(a), short(b), c, e)
			}
		}
	}
}

func TestCompareErrors(t *testing.T) { // P4.3, R2: that of a, then that of b
	good := list(tuple.Int(1))
	wantKeyErrors(t, "Compare, left", func(l []api.Value) api.Errno {
		c, e := tuple.Compare(l, good)
		if e != api.OK && c != 0 {
			t.Errorf("Compare(%v): %d beside %v", short(l), c, e)
		}
		return e
	})
	wantKeyErrors(t, "Compare, right", func(l []api.Value) api.Errno {
		c, e := tuple.Compare(good, l)
		if e != api.OK && c != 0 {
			t.Errorf("Compare(.., %v): %d beside %v", short(l), c, e)
		}
		return e
	})
	for _, x := range wrongValues() {
		for _, y := range wrongValues() {
			// What differs ahead of the faults does not matter.
			if c, e := tuple.Compare(list(tuple.Int(1), x.v), list(y.v)); c != 0 || e != x.want {
				t.Errorf("Compare(%v, %v): %d, %v", short(list(x.v)), short(list(y.v)), c, e)
			}
		}
	}
}

// wantKeyErrors looks for the errors that every call names of a list that may not be a key.
func wantKeyErrors(t *testing.T, what string, call func([]api.Value) api.Errno) {
	t.Helper()
	wantListErrors(t, what, call)
	i, p, none, half := tuple.Int(1), tuple.Point(1, 1), api.Value{}, point(0.5, 1)
	for _, x := range []struct {
		l    []api.Value
		want api.Errno
	}{
		{list(p), api.ErrKind},
		{list(tuple.Point(0, 0)), api.ErrKind},
		{list(i, i, p), api.ErrKind},
		{list(p, half), api.ErrKind},
		{list(half, p), api.ErrTuplePart},
		{list(i, half, none), api.ErrTuplePart},
		{list(p, tuple.Bytes(strings.Repeat("x", api.MaxBytes+1))), api.ErrKind},
		{list(tuple.Bytes(strings.Repeat("x", api.MaxBytes+1)), p), api.ErrLong},
		{append(make([]api.Value, 16), p), api.ErrLong},
	} {
		if e := call(x.l); e != x.want {
			t.Errorf("%s of %v: %v, not %v", what, short(x.l), e, x.want)
		}
	}
}

// spell is a key as bytes, as the chapter says it.
func spell(l []api.Value) string {
	var b []byte
	for _, v := range l {
		b = append(b, byte(v.Kind))
		switch v.Kind {
		case api.KInt:
			b = binary.BigEndian.AppendUint64(b, uint64(v.Int)^1<<63)
		case api.KBool:
			b = append(b, map[bool]byte{false: 0, true: 1}[v.Yes])
		case api.KBytes:
			b = append(b, strings.ReplaceAll(v.Bytes, "\x00", "\x00\xff")+"\x00\x00"...)
		}
	}
	return string(b)
}

func TestKey(t *testing.T) { // P4.4
	for _, x := range []struct {
		l    []api.Value
		want string
	}{
		{nil, ""},
		{list(tuple.Int(0)), "\x01\x80\x00\x00\x00\x00\x00\x00\x00"},
		{list(tuple.Int(-1)), "\x01\x7f\xff\xff\xff\xff\xff\xff\xff"},
		{list(tuple.Int(math.MinInt64)), "\x01\x00\x00\x00\x00\x00\x00\x00\x00"},
		{list(tuple.Int(math.MaxInt64)), "\x01\xff\xff\xff\xff\xff\xff\xff\xff"},
		{list(tuple.Int(0x0102030405060708)), "\x01\x81\x02\x03\x04\x05\x06\x07\x08"},
		{list(tuple.Bool(false), tuple.Bool(true)), "\x02\x00\x02\x01"},
		{list(tuple.Bytes("")), "\x03\x00\x00"},
		{list(tuple.Bytes("\x00"), tuple.Bytes("\x00\xff")), "\x03\x00\xff\x00\x00\x03\x00\xff\xff\x00\x00"},
		{list(tuple.Int(1), tuple.Bytes("a\x00")), "\x01\x80\x00\x00\x00\x00\x00\x00\x01\x03a\x00\xff\x00\x00"},
	} {
		if s := key(t, x.l); s != x.want {
			t.Errorf("Key(%v): %q, not %q", x.l, s, x.want)
		}
	}
	for _, l := range keys() {
		if s := key(t, l); s != spell(l) {
			t.Errorf("Key(%v): %.60q, not %.60q", short(l), s, spell(l))
		}
	}
}

func TestKeyErrors(t *testing.T) { // P4.4, R2
	wantKeyErrors(t, "Key", func(l []api.Value) api.Errno {
		s, e := tuple.Key(l)
		if e != api.OK && s != "" {
			t.Errorf("Key(%v): %q beside %v", short(l), s, e)
		}
		return e
	})
}

func TestFromKey(t *testing.T) { // P4.4
	full := strings.Repeat("\x02\x01", 16)
	most := "\x03" + strings.Repeat("\x00\xff", api.MaxBytes) + "\x00\x00"
	for _, x := range []struct {
		s    string
		want []api.Value
	}{
		{"", nil},
		{"\x01\x80\x00\x00\x00\x00\x00\x00\x05", list(tuple.Int(5))},
		{"\x02\x00\x02\x01", list(tuple.Bool(false), tuple.Bool(true))},
		{"\x03\x00\x00\x03a\x00\x00", list(tuple.Bytes(""), tuple.Bytes("a"))},
		{"\x03\x00\xff\x00\x00", list(tuple.Bytes("\x00"))},
		{"\x03\xff\x00\x00\x02\x00", list(tuple.Bytes("\xff"), tuple.Bool(false))},
		{most, list(tuple.Bytes(strings.Repeat("\x00", api.MaxBytes)))},
	} {
		l, e := tuple.FromKey(x.s)
		wantSame(t, "FromKey", l, x.want, e)
	}
	if l, e := tuple.FromKey(full); len(l) != 16 || e != api.OK {
		t.Errorf("FromKey of 16 values: %d, %v", len(l), e)
	}
	if l, e := tuple.FromKey(strings.Repeat(most, 16)); len(l) != 16 || e != api.OK {
		t.Errorf("FromKey of 16 values of the most bytes: %d, %v", len(l), e)
	}
}

// notKeys are bytes that are no key.
func notKeys() []string {
	l := []string{
		"\x00", "\x04", "\x05", "\x09", "\xff",
		"\x00\x00", "\x04\x00\x00", "\x04\x80\x00\x00\x00\x00\x00\x00\x01\x80\x00\x00\x00\x00\x00\x00\x01",
		"\x01", "\x01\x80\x00\x00\x00\x00\x00\x00", "\x01\x80\x00\x00\x00\x00\x00\x00\x01\x00",
		"\x02", "\x02\x02", "\x02\xff", "\x02\x00\x00", "\x02\x01\x01", "\x02\x01\x02",
		"\x03", "\x03\x00", "\x03a", "\x03a\x00", "\x03a\x00\xff", "\x03a\x00\xff\x00", "\x03a\x00\x01", "\x03a\x00\xfe\x00\x00", "\x03\x00a\x00\x00", "\x03a\x00\x00\x00",
		"\x03\x00\xff\x00\xff",
		strings.Repeat("\x02\x01", 17), strings.Repeat("\x03\x00\x00", 17), strings.Repeat("\x02\x01", 3000),
		"\x03" + strings.Repeat("x", api.MaxBytes+1) + "\x00\x00",
		"\x03" + strings.Repeat("\x00\xff", api.MaxBytes+1) + "\x00\x00",
		"\x03" + strings.Repeat("x", api.MaxBytes) + "\x00\xff\x00\x00",
		"\x03" + strings.Repeat("x", api.MaxBytes),
		"\x03" + strings.Repeat("x", api.MaxBytes) + "\x00",
		"\x03" + strings.Repeat("x", 5*api.MaxBytes),
	}
	for c := 1; c < 255; c++ {
		l = append(l, "\x03\x00"+string([]byte{byte(c)})+"\x00\x00")
	}
	return l
}

func TestFromKeyOfNoKey(t *testing.T) { // P4.4, R2
	for _, s := range notKeys() {
		if l, e := tuple.FromKey(s); len(l) != 0 || e != api.ErrTupleKey {
			t.Errorf("FromKey(%.60q): %v, %v", s, short(l), e)
		}
		whole := "\x02\x01"
		if l, e := tuple.FromKey(whole + s); len(l) != 0 || e != api.ErrTupleKey {
			t.Errorf("FromKey of a bool and %.60q: %v, %v", s, short(l), e)
		}
	}
}

func TestFromKeyOfAKeysBeginning(t *testing.T) { // P4.4: cut within a value it is none
	l := list(tuple.Int(-7), tuple.Bool(true), tuple.Bytes("a\x00\xff\x00"), tuple.Bytes(""), tuple.Int(9))
	whole := map[int]int{}
	for n := range len(l) + 1 {
		whole[len(key(t, l[:n]))] = n
	}
	s := key(t, l)
	for at := range len(s) + 1 {
		got, e := tuple.FromKey(s[:at])
		if n, ok := whole[at]; ok {
			wantSame(t, "FromKey", got, l[:n], e)
		} else if len(got) != 0 || e != api.ErrTupleKey {
			t.Errorf("FromKey(%q): %v, %v", s[:at], got, e)
		}
	}
}

func TestAbove(t *testing.T) { // P4.5
	for _, x := range []struct {
		s, want string
		ok      bool
	}{
		{"", "", false},
		{"\xff", "", false},
		{"\xff\xff\xff", "", false},
		{"a", "b", true},
		{"ab", "ac", true},
		{"a\xff", "b", true},
		{"a\xff\xff\xff", "b", true},
		{"\x00", "\x01", true},
		{"\x00\xff", "\x01", true},
		{"\xfe", "\xff", true},
		{"\xfe\xff", "\xff", true},
		{"\xff\xfe", "\xff\xff", true},
		{"\xffa\xff", "\xffb", true},
		{"\xff\x00\xff\xff", "\xff\x01", true},
		{"a\xffb\xff", "a\xffc", true},
		{"a\x7f", "a\x80", true},
		{strings.Repeat("x", 70000) + "a", strings.Repeat("x", 70000) + "b", true},
		{strings.Repeat("\xff", 70000), "", false},
	} {
		if s, ok := tuple.Above(x.s); s != x.want || ok != x.ok {
			t.Errorf("Above(%.40q): %.40q, %v", x.s, s, ok)
		}
	}
}
