package siread_test

import (
	"math"
	"testing"

	"keystone/api"
	"keystone/siread"
)

func TestNew(t *testing.T) { // P9.1
	for _, most := range []int{1, 2, 100, api.MaxNotes - 1, api.MaxNotes} {
		r := newReads(t, most)
		(&model{most: most}).wantAll(t, r)
	}
	for _, most := range []int{math.MinInt, -1, 0, api.MaxNotes + 1, math.MaxInt} {
		if r, e := siread.New(most); r != nil || e != api.ErrArg {
			t.Errorf("New(%d): %v, %v", most, r, e)
		}
	}
}

func TestCovers(t *testing.T) { // P9.1: each note against each one
	for _, a := range reads() {
		for _, b := range reads() {
			if got := siread.Covers(a, b); got != wantCovers(a, b) {
				t.Errorf("%#v covers %#v: %v", a, b, got)
			}
			if got := siread.Covers(of("u", a), of("u", b)); got != wantCovers(a, b) {
				t.Errorf("%#v covers %#v, both of u: %v", a, b, got)
			}
			for _, table := range []string{"", "t\x00", "T", "u"} {
				if siread.Covers(a, of(table, b)) || siread.Covers(of(table, a), b) {
					t.Errorf("%#v covers %#v, one of them of %q", a, b, table)
				}
			}
		}
	}
}

func TestCoversOfNotesThatMayNotBe(t *testing.T) { // P9.1
	for _, w := range wrong() {
		if siread.Covers(w, w) {
			t.Errorf("%#v covers itself", w)
		}
		for _, x := range reads() {
			if siread.Covers(w, x) || siread.Covers(x, w) {
				t.Errorf("%#v and %#v", w, x)
			}
		}
	}
}

func TestCoversExamples(t *testing.T) { // P9.1
	for _, w := range []struct {
		a, b api.Read
		want bool
	}{
		{keyRange("a", "c"), key("b"), true},
		{keyRange("a", "c"), key("a"), true},
		{keyRange("a", "c"), key("c"), false},
		{keyRange("a", "c"), key("bzz"), true},
		{keyRange("a", "c"), key("A"), false},
		{key("b"), keyRange("a", "c"), false},
		{key("a"), keyRange("a", "a\x00"), true},
		{keyRange("a", "a\x00"), key("a"), true},
		{key("a"), keyRange("a", "a\x00\x00"), false},
		{key("a"), keyRange("a", "a\x01"), false},
		{key("a"), keyRange("", "a\x00"), false},
		{key(""), keyRange("", "\x00"), true},
		{keyRange("", ""), whole(), true},
		{whole(), keyRange("", ""), true},
		{keyRange("\x00", ""), whole(), false},
		{keyRange("", "\xff"), whole(), false},
		{keyRange("a", ""), keyRange("b", ""), true},
		{keyRange("a", ""), keyRange("b", "c"), true},
		{keyRange("a", "c"), keyRange("b", ""), false},
		{keyRange("a", "c"), keyRange("a", "c"), true},
		{keyRange("a", "c"), keyRange("a", "c\x00"), false},
		{key("a"), whole(), false},
		{whole(), key(""), true},
	} {
		if got := siread.Covers(w.a, w.b); got != w.want {
			t.Errorf("%#v covers %#v: %v", w.a, w.b, got)
		}
	}
}
