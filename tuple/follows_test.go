package tuple_test

import (
	"bytes"
	"strings"
	"testing"

	"keystone/api"
	"keystone/tuple"
)

func TestKeysThereAndBack(t *testing.T) { // P4.8
	for _, l := range keys() {
		got, e := tuple.FromKey(key(t, l))
		wantSame(t, "FromKey of Key", got, l, e)
	}
}

func TestRowsThereAndBack(t *testing.T) { // P4.8
	for _, l := range lists(goodValues()) {
		got, e := tuple.Decode(encode(t, l))
		wantSame(t, "Decode of Encode", got, l, e)
	}
}

func TestTextsThereAndBack(t *testing.T) { // P4.8
	values := goodValues()
	for _, s := range textsOf(`"\x0n`, 4) {
		values = append(values, tuple.Bytes(s))
	}
	for _, v := range values {
		got, e := tuple.Parse(text(t, v))
		wantSame(t, "Parse of Text", list(got), list(v), e)
	}
}

// wantJust looks whether what was read has just the bytes that came.
func wantJust(t *testing.T, what string, came string, l []api.Value, e, refusal api.Errno, again func() string) int {
	t.Helper()
	if e != api.OK {
		if e != refusal || len(l) != 0 {
			t.Errorf("%s(%.60q): %v, %v", what, came, short(l), e)
		}
		return 0
	}
	if got := again(); got != came {
		t.Errorf("%s(%.60q) has other bytes: %.60q", what, came, got)
	}
	return 1
}

func TestWhatIsReadHasJustTheBytesThatCame(t *testing.T) { // P4.8
	var some []string
	some = append(some, textsOf("\x00\x01\x02\x03\x04\xff", 6)...)
	for _, l := range append(keys(), nil) {
		for _, b := range spoilt([]byte(key(t, l))) {
			some = append(some, string(b))
		}
	}
	for _, l := range lists(goodValues()) {
		for _, b := range spoilt(encode(t, l)) {
			some = append(some, string(b))
		}
	}
	some = append(append(some, notKeys()...), notRows()...)
	fromKey, decoded := 0, 0
	for _, s := range some {
		l, e := tuple.FromKey(s)
		fromKey += wantJust(t, "FromKey", s, l, e, api.ErrTupleKey, func() string { return key(t, l) })
		r, e := tuple.Decode([]byte(s))
		decoded += wantJust(t, "Decode", s, r, e, api.ErrTupleRow, func() string { return string(encode(t, r)) })
	}
	if fromKey < 1000 || decoded < 1000 {
		t.Errorf("only %d and %d of %d are keys and lists", fromKey, decoded, len(some))
	}
}

func TestWhatIsParsedHasJustTheTextThatCame(t *testing.T) { // P4.8
	some := append(textsOf(`"\x0an-`, 5), textsOf("(),-01", 6)...)
	some = append(some, notTexts()...)
	for _, v := range goodValues() {
		if len(v.Bytes) > 300 {
			continue
		}
		for _, b := range spoilt([]byte(text(t, v))) {
			some = append(some, string(b))
		}
	}
	parsed := 0
	for _, s := range some {
		v, e := tuple.Parse(s)
		var l []api.Value
		if v != (api.Value{}) {
			l = list(v)
		}
		parsed += wantJust(t, "Parse", s, l, e, api.ErrTupleText, func() string { return text(t, v) })
	}
	if parsed < 1000 {
		t.Errorf("only %d of %d are values", parsed, len(some))
	}
}

func TestCompareSaysHowKeysStand(t *testing.T) { // P4.9
	some := append(keys(), rising()...)
	var spelt []string
	for _, l := range some {
		spelt = append(spelt, key(t, l))
	}
	for i, a := range some {
		for k := 0; k < len(some); k += 1 + (i+k)%7 {
			if c, e := tuple.Compare(a, some[k]); c != strings.Compare(spelt[i], spelt[k]) || e != api.OK {
				t.Errorf("Compare(%v, %v): %d, %v", short(a), short(some[k]), c, e)
			}
		}
	}
}

func TestCompareOfKeysThatDifferLittle(t *testing.T) { // P4.9
	of := list(tuple.Int(-1), tuple.Int(0), tuple.Bool(false), tuple.Bool(true))
	for _, s := range textsOf("\x00\x01\xff", 2) {
		of = append(of, tuple.Bytes(s))
	}
	some := [][]api.Value{nil}
	for _, a := range of {
		some = append(some, list(a))
		for _, b := range of {
			some = append(some, list(a, b))
		}
	}
	for _, a := range some {
		for _, b := range some {
			if c, e := tuple.Compare(a, b); c != strings.Compare(key(t, a), key(t, b)) || e != api.OK {
				t.Errorf("Compare(%v, %v): %d, %v", a, b, c, e)
			}
		}
	}
}

func TestKeysBeginWithTheirBeginnings(t *testing.T) { // P4.9
	for _, l := range keys() {
		s := key(t, l)
		for n := range len(l) + 1 {
			if !strings.HasPrefix(s, key(t, l[:n])) {
				t.Errorf("Key(%v) does not begin with that of its first %d values", short(l), n)
			}
		}
	}
}

func TestAboveIsAboveAllThatBeginSo(t *testing.T) { // P4.5, P4.10
	texts := textsOf("\x00\x01a\xfe\xff", 5)
	for _, s := range textsOf("\x00\x01a\xfe\xff", 3) {
		above, ok := tuple.Above(s)
		if ok && above <= s {
			t.Errorf("Above(%q): %q", s, above)
		}
		greatest := s + strings.Repeat("\xff", 9)
		for _, x := range texts {
			below := !ok || x < above
			if begins := strings.HasPrefix(x, s); begins != (s <= x && below) {
				t.Errorf("Above(%q): %q, and %q", s, above, x)
			}
			if below && x > greatest {
				t.Errorf("Above(%q): %q, but %q is a lesser one that would do", s, above, x)
			}
		}
	}
}

func TestAboveOfKeys(t *testing.T) { // P4.9, P4.10: of a beginning's bytes it parts the keys that go on from those behind
	some := append(keys(), rising()...)
	for i, l := range some {
		if len(l) == 0 {
			continue
		}
		head := l[:1+i%len(l)]
		s := key(t, head)
		above, ok := tuple.Above(s)
		if !ok || bytes.Compare([]byte(above), []byte(s)) <= 0 {
			t.Fatalf("Above of Key(%v): %q, %v", short(head), above, ok)
		}
		for k := range 30 {
			o := some[(i+k*k*17)%len(some)]
			begins := len(o) >= len(head) && tuple.Same(o[:len(head)], head)
			if b := key(t, o); begins != (s <= b && b < above) {
				t.Errorf("Above of Key(%v), and %v", short(head), short(o))
			}
		}
	}
}
