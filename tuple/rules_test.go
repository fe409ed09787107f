package tuple_test

import (
	"bytes"
	"math"
	"strings"
	"testing"

	"keystone/api"
	"keystone/tuple"
)

// useAll calls all calls that a list is handed to.
func useAll(l, other []api.Value) {
	tuple.CheckList(l)
	tuple.Same(l, other)
	tuple.Compare(l, other)
	tuple.Compare(other, l)
	tuple.Key(l)
	tuple.Encode(l)
	for _, v := range l {
		tuple.Check(v)
		tuple.Text(v)
	}
}

// readAll calls all calls that bytes are handed to.
func readAll(b []byte) {
	tuple.Decode(b)
	tuple.FromKey(string(b))
	tuple.Parse(string(b))
	tuple.Above(string(b))
}

func TestNothingPanics(t *testing.T) { // R1
	some := append(lists(goodValues()), make([]api.Value, 40))
	for _, x := range wrongValues() {
		some = append(some, list(x.v), list(tuple.Int(1), x.v))
	}
	for i, l := range some {
		useAll(l, some[(i*7)%len(some)])
	}
	for _, n := range append(manyInts(), math.MinInt64, math.MaxInt64) {
		tuple.Zero(int(n))
		useAll(list(tuple.Point(n, -n)), nil)
	}
	for _, s := range append(append(notKeys(), notRows()...), notTexts()...) {
		readAll([]byte(s))
		for at := range min(40, len(s)) {
			readAll([]byte(s[at:]))
			readAll([]byte(s[:at]))
		}
	}
	n := numbers(3)
	for i := range 3000 {
		b := make([]byte, i%70)
		for k := range b {
			b[k] = byte(n.below(256))
		}
		readAll(b)
	}
}

func TestLongThingsEnd(t *testing.T) { // R1
	for _, s := range []string{"\x02\x01", "\x03", "x", `"`, `\`, `\x00`, "(", "9", "\xff", "\x00\xff"} {
		long := strings.Repeat(s, 1<<20)
		for _, head := range []string{"", "\x03", "\x01\x03", `"`, "(", "-"} {
			readAll([]byte(head + long))
		}
		v := tuple.Bytes(long)
		useAll(list(v), list(v))
	}
	many := make([]api.Value, 1<<20)
	useAll(many, many)
}

func TestWhatIsHandedInStaysAsItIs(t *testing.T) { // R3
	for _, l := range append(lists(goodValues()), list(tuple.Point(1, 1), point(0.5, 1))) {
		room := append(append([]api.Value{}, l...), tuple.Int(77), tuple.Bytes("behind"), tuple.Point(7, 7))
		was := append([]api.Value{}, room...)
		useAll(room[:len(l)], room[:len(l)])
		if !tuple.Same(room, was) {
			t.Errorf("%v, or the room behind it, was changed", short(l))
		}
	}
	for _, l := range lists(goodValues()) {
		b := encode(t, l)
		room := append(bytes.Clone(b), "and more behind"...)
		was := bytes.Clone(room)
		tuple.Decode(room[:len(b)])
		tuple.Decode(room[:len(b)/2])
		if !bytes.Equal(room, was) {
			t.Errorf("the bytes of %v, or the room behind them, were changed", short(l))
		}
	}
}

// scribble writes over a list and its spare room.
func scribble(l []api.Value) {
	l = l[:cap(l)]
	for i := range l {
		l[i] = tuple.Bytes("scribbled")
	}
}

func TestAnswersAreNewMemory(t *testing.T) { // R3, R4
	l := list(tuple.Int(-5), tuple.Bytes("some bytes"), tuple.Bool(true), tuple.Bytes("a\x00"))
	b, s := encode(t, l), key(t, l)
	for _, answer := range []func() ([]api.Value, api.Errno){
		func() ([]api.Value, api.Errno) { return tuple.Decode(b) },
		func() ([]api.Value, api.Errno) { return tuple.FromKey(s) },
	} {
		first, _ := answer()
		second, _ := answer()
		scribble(first)
		wantSame(t, "a second answer", second, l, api.OK)
		third, e := answer()
		wantSame(t, "a third answer", third, l, e)
	}

	first := encode(t, l)
	for i := range first[:cap(first)] {
		first[:cap(first)][i] = 0x5A
	}
	if !bytes.Equal(encode(t, l), b) {
		t.Error("a change of an answer of Encode changes another one")
	}
}

func TestWhatIsReadIsACopy(t *testing.T) { // R3
	l := list(tuple.Bytes("some bytes"), tuple.Int(1))
	b := encode(t, l)
	got, e := tuple.Decode(b)
	for i := range b {
		b[i] = 0x5A
	}
	wantSame(t, "Decode of bytes that changed", got, l, e)

	mine := append([]api.Value{}, l...)
	row, s := encode(t, mine), key(t, mine)
	scribble(mine)
	if !bytes.Equal(row, encode(t, l)) || s != key(t, l) {
		t.Error("a change of a list changes its bytes")
	}
}

func TestNilAndEmptyAreTheSame(t *testing.T) { // R3
	for _, l := range [][]api.Value{nil, {}, make([]api.Value, 0, 9)} {
		if e := tuple.CheckList(l); e != api.OK {
			t.Error("CheckList", e)
		}
		if s := key(t, l); s != "" {
			t.Errorf("Key: %q", s)
		}
		if b := encode(t, l); !bytes.Equal(b, []byte{0}) {
			t.Errorf("Encode: %q", b)
		}
		for _, o := range [][]api.Value{nil, {}} {
			if c, e := tuple.Compare(l, o); c != 0 || e != api.OK || !tuple.Same(l, o) {
				t.Error("Compare, Same", c, e)
			}
		}
	}
	for _, b := range [][]byte{nil, {}} {
		if _, e := tuple.Decode(b); e != api.ErrTupleRow {
			t.Error("Decode", e)
		}
	}
}
