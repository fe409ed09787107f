package lock_test

import (
	"math"
	"slices"
	"strconv"
	"testing"

	"keystone/api"
)

func TestHolders(t *testing.T) { // P8.3
	for seed := range 6 {
		n := numbers(seed)
		m, want := newManager(t, api.MaxLocks), &model{most: api.MaxLocks}
		for range 1 << seed {
			want.takes(t, m, 1+int64(n.below(8)), 0, 0, n.below(len(locks())))
		}
		want.wantAll(t, m)
	}
}

func TestHoldersOfOneLock(t *testing.T) { // P8.3: each key is in just the ranges that begin at or below it, and end above it
	for i := range keys() {
		m, want := newManager(t, 2), &model{most: 2}
		want.takes(t, m, 3, 0, 0, 2*len(keys())+i)
		want.wantAll(t, m)
	}
}

func TestHoldersExamples(t *testing.T) { // P8.3
	m := newManager(t, 8)
	takes(t, m, 3, at("a"))
	takes(t, m, 2, at("b"))
	takes(t, m, 1, api.Lock{Table: "u", Key: "a"})
	for _, w := range []struct {
		table, from, to string
		want            []int64
	}{
		{"t", "a", "b", []int64{3}},
		{"t", "", "", []int64{2, 3}},
		{"t", "", "a", nil},
		{"t", "a", "a\x00", []int64{3}},
		{"t", "a\x00", "", []int64{2}},
		{"t", "b", "", []int64{2}},
		{"t", "b\x00", "", nil},
		{"t", "b", "b", nil},
		{"t", "b", "a", nil},
		{"u", "", "", []int64{1}},
		{"v", "", "", nil},
		{"", "", "", nil},
	} {
		if l := m.Holders(w.table, w.from, w.to); !slices.Equal(l, w.want) {
			t.Errorf("Holders(%q, %q, %q): %v, not %v", w.table, w.from, w.to, l, w.want)
		}
	}
}

func TestHoldersRiseAndStandOnce(t *testing.T) { // P8.3
	m := newManager(t, api.MaxLocks)
	for i := range api.MaxLocks {
		takes(t, m, 1+int64(i*7%1000), at(strconv.Itoa(i)))
	}
	for range 3 {
		l := m.Holders("t", "", "")
		if len(l) != 1000 {
			t.Fatalf("%d of them", len(l))
		}
		for i, tx := range l {
			if tx != int64(i+1) {
				t.Fatalf("%d in the place %d", tx, i)
			}
		}
	}
}

func TestHeldOfAnyTransaction(t *testing.T) { // P8.3
	m := newManager(t, 8)
	takes(t, m, 1, at("b"), api.Lock{Table: "a", Key: "z"}, at(""), at("a"))
	want := []api.Lock{{Table: "a", Key: "z"}, at(""), at("a"), at("b")}
	if l := m.Held(1); !slices.Equal(l, want) {
		t.Errorf("Held(1): %q", l)
	}
	for _, tx := range []int64{math.MinInt64, -1, 0, 2, math.MaxInt64} {
		if l := m.Held(tx); len(l) != 0 {
			t.Errorf("Held(%d): %q", tx, l)
		}
	}
}

func TestHolderOfALockThatNobodyHolds(t *testing.T) { // P8.3
	m := newManager(t, 8)
	takes(t, m, 4, at("ab"), api.Lock{Table: "tab", Key: ""})
	for _, x := range []api.Lock{{}, at("a"), at(""), at("abc"), {Table: "ta", Key: "b"}, {Table: "ab", Key: "t"}, {Table: "", Key: "tab"}, {Table: "tab", Key: "\x00"}} {
		if tx, held := m.Holder(x); tx != 0 || held {
			t.Errorf("Holder(%q): %d, %v", x, tx, held)
		}
	}
}
