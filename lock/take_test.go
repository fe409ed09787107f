package lock_test

import (
	"math"
	"strconv"
	"testing"

	"keystone/api"
	"keystone/lock"
)

func TestNew(t *testing.T) { // P8.1
	for _, most := range []int{1, 2, 100, api.MaxLocks - 1, api.MaxLocks} {
		m := newManager(t, most)
		(&model{most: most}).wantAll(t, m)
	}
	for _, most := range []int{math.MinInt, -1, 0, api.MaxLocks + 1, math.MaxInt} {
		if m, e := lock.New(most); m != nil || e != api.ErrArg {
			t.Errorf("New(%d): %v, %v", most, m, e)
		}
	}
}

func TestRoomForMost(t *testing.T) { // P8.1, P8.2
	for _, most := range []int{1, 2, 7, api.MaxLocks} {
		m := newManager(t, most)
		for i := range most {
			takes(t, m, 1+int64(i%3), at(strconv.Itoa(i)))
		}
		for tx := int64(1); tx < 5; tx++ {
			wantTake(t, m, tx, 0, 0, at("more"), api.ErrFull)
		}
		if m.Len() != most {
			t.Errorf("Len: %d, not %d", m.Len(), most)
		}
		free := m.Release(1)
		for i := range free {
			takes(t, m, 9, at("more"+strconv.Itoa(i)))
		}
		wantTake(t, m, 9, 0, 0, at("more"), api.ErrFull)
	}
}

func TestExamples(t *testing.T) { // P8.1 to P8.4
	m := newManager(t, 8)
	wantTake(t, m, 1, 5, 5, at("a"), api.OK)
	wantTake(t, m, 2, 5, 5, at("a"), api.ErrLockHeld)
	wantRelease(t, m, 1, 1)
	wantTake(t, m, 2, 5, 6, at("a"), api.ErrLockLate)
	wantTake(t, m, 3, 6, 6, at("a"), api.OK)
	wantTake(t, m, 0, 6, 6, at("b"), api.ErrArg)
	m = newManager(t, 1)
	wantTake(t, m, 1, 0, 0, at("a"), api.OK)
	wantTake(t, m, 1, 0, 0, at("a"), api.OK)
	wantTake(t, m, 1, 0, 0, at("b"), api.ErrFull)
}

// state is a manager, of which 2 holds a, and 7 holds b and, if it must be full, all that is left.
func state(t *testing.T, full bool) *lock.Manager {
	m := newManager(t, 4)
	takes(t, m, 2, at("a"))
	takes(t, m, 7, at("b"))
	if full {
		takes(t, m, 7, at("c"), at("d"))
	}
	return m
}

// wantOf is what Take must answer in such a state.
func wantOf(full bool, tx, snapshot, last int64, key string) api.Errno {
	holder := map[string]int64{"a": 2, "b": 7}[key]
	switch {
	case tx < 1:
		return api.ErrArg
	case snapshot < 0:
		return api.ErrArg
	case last < 0:
		return api.ErrArg
	case holder == tx:
		return api.OK
	case holder > 0:
		return api.ErrLockHeld
	case last > snapshot:
		return api.ErrLockLate
	case full:
		return api.ErrFull
	}
	return api.OK
}

func TestTake(t *testing.T) { // P8.2: each error, and which is ahead of which
	many := []int64{math.MinInt64, -1, 0, 1, 2, 3, 7, 1 << 32, math.MaxInt64 - 1, math.MaxInt64}
	for _, full := range []bool{false, true} {
		for _, tx := range many {
			for _, snapshot := range many {
				for _, last := range many {
					for _, key := range []string{"a", "b", "x", ""} {
						m := state(t, full)
						held, _ := m.Holder(at(key))
						want := wantOf(full, tx, snapshot, last, key)
						wantTake(t, m, tx, snapshot, last, at(key), want)
						wantTaken(t, m, full, want == api.OK && held == 0, tx, key)
					}
				}
			}
		}
	}
}

// wantTaken holds the locks of a state against those that must be held, with one more, if there must be.
func wantTaken(t *testing.T, m *lock.Manager, full, more bool, tx int64, key string) {
	t.Helper()
	want := map[string]int64{"a": 2, "b": 7}
	if full {
		want["c"], want["d"] = 7, 7
	}
	if more {
		want[key] = tx
	}
	if m.Len() != len(want) {
		t.Fatalf("%d locks, not %d", m.Len(), len(want))
	}
	for _, k := range []string{"a", "b", "c", "d", "x", ""} {
		if holder, held := m.Holder(at(k)); holder != want[k] || held != (want[k] > 0) {
			t.Fatalf("Holder(%q): %d, %v, not %d", k, holder, held, want[k])
		}
	}
}

func TestALockThatItHoldsAlready(t *testing.T) { // P8.2: whatever the row has become, and full or not
	m := newManager(t, 1)
	wantTake(t, m, 1, 5, 5, at("a"), api.OK)
	for _, last := range []int64{0, 5, 6, math.MaxInt64} {
		for _, snapshot := range []int64{0, 4, 5, math.MaxInt64} {
			wantTake(t, m, 1, snapshot, last, at("a"), api.OK)
		}
	}
	wantTake(t, m, 1, -1, 0, at("a"), api.ErrArg)
	wantTake(t, m, 1, 0, -1, at("a"), api.ErrArg)
	wantRelease(t, m, 1, 1)
}

func TestEachTableAndKeyIsALockOfItsOwn(t *testing.T) { // P8.2
	m := newManager(t, len(locks()))
	want := &model{most: len(locks())}
	for i := range locks() {
		want.takes(t, m, 1+int64(i%8), 0, 0, i)
		want.want(t, m)
	}
	want.wantAll(t, m)
}

func TestRelease(t *testing.T) { // P8.4
	m, want := newManager(t, 40), &model{most: 40}
	for i := range 40 {
		want.takes(t, m, 1+int64(i*i%7), 0, 0, i*2)
	}
	for _, tx := range []int64{math.MinInt64, -1, 0, 9, math.MaxInt64} {
		wantRelease(t, m, tx, 0)
		want.want(t, m)
	}
	for _, tx := range []int64{3, 1, 5, 2, 8, 1} {
		want.releases(t, m, tx)
		want.wantAll(t, m)
		wantRelease(t, m, tx, 0)
		want.want(t, m)
	}
	for i := range locks()[:40] { // what was released is free for all others
		want.takes(t, m, 8, 0, 0, i)
	}
	want.wantAll(t, m)
}

func TestTheGreatestTransaction(t *testing.T) { // P8.2 to P8.4
	m := newManager(t, 3)
	wantTake(t, m, math.MaxInt64, math.MaxInt64, math.MaxInt64, at("a"), api.OK)
	wantTake(t, m, math.MaxInt64-1, 0, 0, at("b"), api.OK)
	if l := m.Holders("t", "", ""); len(l) != 2 || l[0] != math.MaxInt64-1 || l[1] != math.MaxInt64 {
		t.Errorf("Holders: %v", l)
	}
	if l := m.Held(math.MaxInt64); len(l) != 1 || l[0] != at("a") {
		t.Errorf("Held: %v", l)
	}
	wantRelease(t, m, math.MaxInt64, 1)
	wantRelease(t, m, math.MaxInt64-1, 1)
}
