package lock_test

import (
	"math"
	"slices"
	"strings"
	"testing"

	"keystone/api"
	"keystone/lock"
)

// useAll calls all calls of a manager.
func useAll(m *lock.Manager, tx, snapshot, last int64, table, key, to string) {
	x := api.Lock{Table: table, Key: key}
	m.Take(tx, snapshot, last, x)
	m.Take(tx, snapshot, last, x)
	m.Holder(x)
	m.Holders(table, key, to)
	m.Held(tx)
	m.Len()
	m.Clone().Take(tx, last, snapshot, x)
	m.Clone().Release(tx)
	m.Release(tx)
	m.Release(tx)
}

func TestNothingPanics(t *testing.T) { // R1
	long := strings.Repeat("\xff", 1<<20)
	many := []int64{math.MinInt64, -1, 0, 1, 7, math.MaxInt64}
	for _, m := range []*lock.Manager{nil, new(lock.Manager), newManager(t, 1), newManager(t, api.MaxLocks)} {
		for i, tx := range many {
			for j, snapshot := range many {
				for _, key := range []string{"", "a", "\x00", long} {
					useAll(m, tx, snapshot, many[(i+j)%len(many)], "t", key, "b")
					useAll(m, tx, snapshot, many[(i+j)%len(many)], key, "b", key)
					useAll(m, tx, snapshot, snapshot, long, key, "")
				}
			}
		}
	}
}

func TestManagersThatNoCallMade(t *testing.T) { // R5
	for _, m := range []*lock.Manager{nil, new(lock.Manager)} {
		for _, n := range []int64{math.MinInt64, -1, 0, 1, 5, math.MaxInt64} {
			for _, other := range []int64{-1, 0, 1, 6} { // ErrMade is ahead of all else
				wantTake(t, m, n, n, other, at("a"), api.ErrMade)
				wantTake(t, m, n, other, n, api.Lock{}, api.ErrMade)
			}
			wantRelease(t, m, n, 0)
			if l := m.Held(n); len(l) != 0 {
				t.Errorf("Held: %v", l)
			}
		}
		for _, x := range []api.Lock{{}, at("a")} {
			if tx, held := m.Holder(x); tx != 0 || held {
				t.Errorf("Holder: %d, %v", tx, held)
			}
			if l := m.Holders(x.Table, x.Key, ""); len(l) != 0 {
				t.Errorf("Holders: %v", l)
			}
		}
		if m.Len() != 0 || m.Clone() != nil {
			t.Errorf("Len %d, Clone %v", m.Len(), m.Clone())
		}
	}
}

// scribble writes over a list, and over its spare room.
func scribble[T any](l []T, with T) {
	l = l[:cap(l)]
	for i := range l {
		l[i] = with
	}
}

func TestAnswersAreNewMemory(t *testing.T) { // R3
	m, want := newManager(t, 60), &model{most: 60}
	n := numbers(3)
	for range 40 {
		want.does(t, m, &n)
		for tx := int64(1); tx < 9; tx++ {
			l := m.Held(tx)
			scribble(l, at("scribble"))
			if again := m.Held(tx); !slices.Equal(again, want.held(tx)) {
				t.Fatalf("Held(%d): %q", tx, again)
			}
		}
		for table := range tables() {
			scribble(m.Holders(tables()[table], "", ""), 77)
			want.wantHolders(t, m, table)
		}
		want.want(t, m)
	}
}

func TestManagersKnowNothingOfEachOther(t *testing.T) { // R4
	n := numbers(4)
	one, other := newManager(t, 30), newManager(t, 30)
	wantOne, wantOther := &model{most: 30}, &model{most: 30}
	for range 100 {
		wantOne.does(t, one, &n)
		wantOther.want(t, other)
		wantOther.does(t, other, &n)
		wantOne.want(t, one)
	}
}

func TestSameActsSameAnswers(t *testing.T) { // R4
	var first []api.Lock
	for range 20 {
		n := numbers(6)
		m, want := newManager(t, 50), &model{most: 50}
		for range 120 {
			want.does(t, m, &n)
		}
		var all []api.Lock
		for _, tx := range m.Holders("t", "", "") {
			all = append(all, m.Held(tx)...)
		}
		if first == nil {
			first = all
		}
		if !slices.Equal(all, first) {
			t.Fatalf("%q, not %q", all, first)
		}
	}
}
