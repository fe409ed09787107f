package ssi_test

import (
	"math"
	"testing"

	"keystone/api"
	"keystone/ssi"
)

func TestNew(t *testing.T) { // P10.1: the least and the greatest of each cap
	for _, active := range []int{1, 2, 63, 64} {
		for _, kept := range []int{0, 1, 1023, 1024} {
			for _, reads := range []int{1, 2, 1 << 16} {
				for _, locks := range []int{1, 2, 1 << 12} {
					for _, now := range []int64{0, 1, 77, math.MaxInt64} {
						m := newManager(t, api.Caps{Active: active, Kept: kept, Reads: reads, Locks: locks}, now)
						wantTracked(t, m, 0, 0, 0, 0)
						wantActive(t, m)
						if m.Now() != now || m.Oldest() != now {
							t.Fatalf("Now %d, Oldest %d, not %d", m.Now(), m.Oldest(), now)
						}
						wantBegin(t, m, 1, now)
					}
				}
			}
		}
	}
}

func TestNewRefused(t *testing.T) { // P10.1: each cap beyond its least and greatest, and a number below 0
	refused := func(caps api.Caps, now int64) {
		t.Helper()
		if m, e := ssi.New(caps, now); m != nil || e != api.ErrArg {
			t.Errorf("New(%+v, %d): %v, %v", caps, now, m, e)
		}
	}
	for _, n := range []int{math.MinInt, -1, 0, 65, math.MaxInt} {
		refused(api.Caps{Active: n, Kept: 4, Reads: 10, Locks: 10}, 0)
	}
	for _, n := range []int{math.MinInt, -1, 1025, math.MaxInt} {
		refused(api.Caps{Active: 4, Kept: n, Reads: 10, Locks: 10}, 0)
	}
	for _, n := range []int{math.MinInt, -1, 0, 1<<16 + 1, math.MaxInt} {
		refused(api.Caps{Active: 4, Kept: 4, Reads: n, Locks: 10}, 0)
	}
	for _, n := range []int{math.MinInt, -1, 0, 1<<12 + 1, math.MaxInt} {
		refused(api.Caps{Active: 4, Kept: 4, Reads: 10, Locks: n}, 0)
	}
	for _, now := range []int64{math.MinInt64, -1} {
		refused(usual(), now)
		refused(api.Caps{}, now)
	}
	refused(api.Caps{}, 0)
}

func TestBegin(t *testing.T) { // P10.1
	for _, most := range []int{1, 2, 3, 64} {
		m := newManager(t, api.Caps{Active: most, Kept: 0, Reads: 1, Locks: 1}, 5)
		for i := range most {
			wantBegin(t, m, int64(i+1), 5)
		}
		for range 3 { // no number is used up by what does not begin
			wantNoBegin(t, m, api.ErrFull)
			wantTracked(t, m, most, 0, 0, 0)
		}
		aborts(t, m, 1)
		wantBegin(t, m, int64(most+1), 5)
		wantNoBegin(t, m, api.ErrFull)
	}
}

func TestSnapshots(t *testing.T) { // P10.1, P10.5, P10.6: the last commit number when it began
	m := newManager(t, roomy(), 40)
	wantBegin(t, m, 1, 40)
	wantBegin(t, m, 2, 40)
	writes(t, m, 2, "a")
	commits(t, m, 2, 41)
	wantBegin(t, m, 3, 41)
	reads(t, m, 3, "b")
	commits(t, m, 3, 41) // it has written nothing
	wantBegin(t, m, 4, 41)
	writes(t, m, 4, "c")
	commits(t, m, 4, 42)
	wantBegin(t, m, 5, 42)
	for tx, want := range map[int64]int64{1: 40, 5: 42} {
		if s, e := m.Snapshot(tx); s != want || e != api.OK {
			t.Errorf("Snapshot(%d): %d, %v", tx, s, e)
		}
	}
	if m.Now() != 42 || m.Oldest() != 40 {
		t.Error(m.Now(), m.Oldest())
	}
	aborts(t, m, 1)
	if m.Oldest() != 42 {
		t.Error("Oldest", m.Oldest())
	}
}

// row is one of many rows, rising.
func row(i int) api.Lock {
	return at(string([]byte{byte(i >> 16), byte(i >> 8), byte(i)}))
}

func TestTheGreatestCaps(t *testing.T) { // P10.1: as much as they say, and no more
	m := underWay(t, roomy(), 1)
	for i := range 1024 {
		tx := int64(i + 2)
		wantBegin(t, m, tx, int64(i))
		wantWrite(t, m, tx, row(i), 0, api.OK)
		commits(t, m, tx, int64(i+1))
	}
	begins(t, m, 1)
	for i := range 4096 {
		wantWrite(t, m, 1026, row(2000+i), 0, api.OK)
	}
	wantTracked(t, m, 2, 1024, 0, 4096)
	one := m.Clone()
	wantNoCommit(t, one, 1026, api.ErrFull)
	wantTracked(t, one, 1, 1024, 0, 0)
	wantWrite(t, m, 1026, row(7000), 0, api.ErrFull)
	wantTracked(t, m, 1, 1024, 0, 0)
}

func TestTheMostNotes(t *testing.T) { // P10.1
	m := underWay(t, roomy(), 1)
	for i := range 65536 {
		wantRead(t, m, 1, row(i), api.OK)
	}
	wantTracked(t, m, 1, 0, 65536, 0)
	wantRead(t, m, 1, row(65536), api.OK)
	wantTracked(t, m, 1, 0, 1, 0)
}
