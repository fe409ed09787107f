package wire_test

import (
	"bytes"
	"math"
	"strings"
	"testing"

	"keystone/api"
	"keystone/wire"
)

// manyTexts are texts of all sorts of bytes, around the lengths at which the length has one byte more.
func manyTexts() []string {
	l := []string{"", "a", "b", "ab", "ba", "\x00", "\x00\x00", "\xff", "\x80\x00", "\xc3\x28", "größer", "a\nb", "\x02ab"}
	for _, n := range []int{126, 127, 128, 129, 300, 16383, 16384, 1 << 17} {
		l = append(l, strings.Repeat("x", n), strings.Repeat("\x80\xff\x00", n)[:n])
	}
	return l
}

func TestTextIsItsLengthAndItsBytes(t *testing.T) { // P1.2
	if b := wire.Text("ab"); !bytes.Equal(b, []byte{2, 'a', 'b'}) {
		t.Errorf("Text(ab): %v", b)
	}
	if b := wire.Text(""); !bytes.Equal(b, []byte{0}) {
		t.Errorf("Text of nothing: %v", b)
	}
	if b := wire.Text("\xff\x00"); !bytes.Equal(b, []byte{2, 255, 0}) {
		t.Errorf("Text of bytes that are no runes: %v", b)
	}
	if b := wire.Text(strings.Repeat("x", 128)); !bytes.Equal(b[:3], []byte{128, 1, 'x'}) || len(b) != 130 {
		t.Errorf("Text of 128 bytes: %v", b)
	}
	for _, s := range manyTexts() {
		if b := wire.Text(s); !bytes.Equal(b, append(wire.Uint(uint64(len(s))), s...)) {
			t.Errorf("Text of %d bytes", len(s))
		}
	}
}

func TestTakeTextTakesWhatStandsAtThePlace(t *testing.T) { // P1.2
	for _, x := range []struct {
		b        []byte
		at, most int
		s        string
		size     int
	}{
		{[]byte{2, 'a', 'b', 'c'}, 0, 2, "ab", 3},
		{[]byte{2, 'a', 'b'}, 0, math.MaxInt, "ab", 3},
		{[]byte{9, 2, 'a', 'b'}, 1, 2, "ab", 3},
		{[]byte{0}, 0, 0, "", 1},
		{[]byte{7, 0, 7}, 1, 0, "", 1},
		{[]byte{1, 0}, 1, 5, "", 1},
		{[]byte{1, 0}, 0, 1, "\x00", 2},
		{append(repeat(128, 1, 1), repeat('x', 129)...), 0, 128, strings.Repeat("x", 128), 130},
	} {
		if s, size, e := wire.TakeText(x.b, x.at, x.most); s != x.s || size != x.size || e != api.OK {
			t.Errorf("TakeText(%v, %d, %d): %q, %d, %v", x.b, x.at, x.most, s, size, e)
		}
	}
}

func TestTakeTextRefuses(t *testing.T) { // P1.2, R2: the first thing that is wrong, in the order of the chapter
	ab := []byte{3, 'a', 'b'}
	for _, x := range []struct {
		b        []byte
		at, most int
		want     api.Errno
	}{
		{nil, 1, 0, api.ErrArg},
		{ab, -1, 9, api.ErrArg},
		{ab, 4, 9, api.ErrArg},
		{ab, 0, -1, api.ErrArg},
		{ab, 0, math.MinInt, api.ErrArg},
		{ab, 4, -1, api.ErrArg},
		{nil, 0, -1, api.ErrArg}, // most is looked at ahead of the bytes
		{[]byte{128, 0}, 0, -1, api.ErrArg},
		{[]byte{0}, 0, -1, api.ErrArg},
		{nil, 0, 0, api.ErrForm},
		{ab, 3, 9, api.ErrForm},
		{[]byte{128}, 0, 0, api.ErrForm}, // no number stands there, so none is above most
		{[]byte{128, 0}, 0, 0, api.ErrForm},
		{repeat(255, 9, 2), 0, 0, api.ErrForm},
		{ab, 0, 2, api.ErrLong}, // too long, ahead of too few bytes
		{[]byte{1, 'a'}, 0, 0, api.ErrLong},
		{[]byte{3, 'a', 'b', 'c'}, 0, 2, api.ErrLong},
		{repeat(255, 9, 1), 0, math.MaxInt, api.ErrLong},
		{repeat(128, 9, 1), 0, math.MaxInt, api.ErrLong},
		{ab, 0, 3, api.ErrForm},
		{ab, 0, 9, api.ErrForm},
		{[]byte{1}, 0, 9, api.ErrForm},
		{repeat(255, 8, 127), 0, math.MaxInt, api.ErrForm}, // 2^63 - 1 bytes: no sum of it and a place may be
		{append([]byte{0}, repeat(255, 8, 127)...), 1, math.MaxInt, api.ErrForm},
	} {
		if s, size, e := wire.TakeText(x.b, x.at, x.most); s != "" || size != 0 || e != x.want {
			t.Errorf("TakeText(%v, %d, %d): %q, %d, %v, not %v", x.b, x.at, x.most, s, size, e, x.want)
		}
	}
	for _, b := range notUints() {
		if s, size, e := wire.TakeText(b, 0, 9); s != "" || size != 0 || e != api.ErrForm {
			t.Errorf("TakeText(%v, 0, 9): %q, %d, %v", b, s, size, e)
		}
	}
	for _, at := range notPlaces(ab) {
		if s, size, e := wire.TakeText(ab, at, 9); s != "" || size != 0 || e != api.ErrArg {
			t.Errorf("TakeText(%v, %d, 9): %q, %d, %v", ab, at, s, size, e)
		}
	}
}

func TestTakeTextUpToMost(t *testing.T) { // P1.2
	for _, s := range manyTexts() {
		b := wire.Text(s)
		if got, size, e := wire.TakeText(b, 0, len(s)); got != s || size != len(b) || e != api.OK {
			t.Errorf("TakeText of just %d bytes: %d, %v", len(s), size, e)
		}
		if len(s) == 0 {
			continue
		}
		if got, size, e := wire.TakeText(b, 0, len(s)-1); got != "" || size != 0 || e != api.ErrLong {
			t.Errorf("TakeText of %d bytes, one less allowed: %d, %v", len(s), size, e)
		}
	}
}
