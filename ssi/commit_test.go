package ssi_test

import (
	"math"
	"testing"

	"keystone/api"
)

func TestCommitOfNobody(t *testing.T) { // P10.5
	m := underWay(t, usual(), 2)
	commits(t, m, 1, 0)
	for _, tx := range []int64{math.MinInt64, -1, 0, 1, 3, math.MaxInt64} {
		wantNoCommit(t, m, tx, api.ErrSsiNone)
	}
	wantActive(t, m, 2)
}

func TestCommitNumbers(t *testing.T) { // P10.5: one more for each that holds locks
	m := newManager(t, usual(), 7)
	begins(t, m, 4)
	commits(t, m, 4, 7)
	reads(t, m, 3, "a")
	commits(t, m, 3, 7)
	writes(t, m, 2, "b", "c", "d")
	commits(t, m, 2, 8)
	if m.Now() != 8 {
		t.Error("Now", m.Now())
	}
	wantWrite(t, m, 1, at("e"), 7, api.OK)
	commits(t, m, 1, 9)
	wantOver(t, m, 1)
	if m.Now() != 9 || m.Oldest() != 9 {
		t.Error("Now", m.Now(), m.Oldest())
	}
	wantTracked(t, m, 0, 0, 0, 0)
}

func TestCommitsAtTheGreatestNumber(t *testing.T) { // P10.1, P10.5: of one that has written nothing
	m := newManager(t, usual(), math.MaxInt64)
	wantBegin(t, m, 1, math.MaxInt64)
	reads(t, m, 1, "a")
	commits(t, m, 1, math.MaxInt64)
	m = newManager(t, usual(), math.MaxInt64-1)
	wantBegin(t, m, 1, math.MaxInt64-1)
	wantWrite(t, m, 1, at("a"), math.MaxInt64-1, api.OK)
	commits(t, m, 1, math.MaxInt64)
}

func TestCommitOfAPivot(t *testing.T) { // P10.5
	m := underWay(t, usual(), 3)
	pivot(t, m, 1, 2, 3)
	wantNoCommit(t, m, 1, api.ErrSsiSerial)
	wantOver(t, m, 1)
	if m.Now() != 0 {
		t.Error("Now", m.Now())
	}
	wantTracked(t, m, 2, 0, 1, 1)
	wantFlags(t, m, 2, true, false) // what was put in stays
	wantFlags(t, m, 3, false, true)
	writes(t, m, 3, "pivot writes")
	commits(t, m, 3, 1)
	commits(t, m, 2, 2)
}

func TestAPivotIsToldAheadOfFull(t *testing.T) { // P10.5
	m := underWay(t, api.Caps{Active: 4, Kept: 0, Reads: 10, Locks: 10}, 3)
	pivot(t, m, 1, 2, 3)
	wantNoCommit(t, m, 1, api.ErrSsiSerial)
	wantNoCommit(t, m, 2, api.ErrFull)
	commits(t, m, 3, 0)
}

func TestCommitIsKept(t *testing.T) { // P10.5: if another one is under way, and it has written a row or has a note
	for _, x := range []struct {
		reads, writes, beside bool
	}{
		{false, false, false}, {false, false, true}, {false, true, false}, {false, true, true},
		{true, false, false}, {true, false, true}, {true, true, false}, {true, true, true},
	} {
		m := underWay(t, usual(), 1)
		n := int64(0)
		if x.beside {
			begins(t, m, 1)
		}
		if x.reads {
			reads(t, m, 1, "a", "b")
		}
		if x.writes {
			writes(t, m, 1, "c")
			n = 1
		}
		commits(t, m, 1, n)
		want := api.Tracked{Active: len(m.Active())}
		if x.beside && (x.reads || x.writes) {
			want.Kept = 1
		}
		if x.beside && x.reads {
			want.Reads = 2
		}
		if m.Tracked() != want {
			t.Errorf("%+v: %+v, not %+v", x, m.Tracked(), want)
		}
	}
}

func TestScansAreKept(t *testing.T) { // P10.5
	m := underWay(t, usual(), 2)
	scans(t, m, 1, "", "")
	commits(t, m, 1, 0)
	wantTracked(t, m, 1, 1, 1, 0)
}

func TestNoRoomToKeep(t *testing.T) { // P10.5
	for kept := range 4 {
		m := underWay(t, api.Caps{Active: 8, Kept: kept, Reads: 10, Locks: 10}, 8)
		for i := range kept {
			tx := int64(i + 2)
			if i == 0 {
				reads(t, m, tx, "x")
			} else {
				writes(t, m, tx, string(rune('a'+i)))
			}
			commits(t, m, tx, int64(i))
		}
		now := m.Now()
		reads(t, m, 6, "y")
		wantNoCommit(t, m, 6, api.ErrFull)
		wantOver(t, m, 6)
		writes(t, m, 7, "z")
		wantNoCommit(t, m, 7, api.ErrFull)
		wantOver(t, m, 7)
		if m.Now() != now {
			t.Fatal("Now", m.Now(), now)
		}
		commits(t, m, 8, now) // has done nothing
		if got := m.Tracked(); got.Kept != kept || got.Locks != 0 {
			t.Fatal(got)
		}
		aborts(t, m, m.Active()[1:]...)
		writes(t, m, 1, "z")
		commits(t, m, 1, now+1) // no other one is under way
		wantTracked(t, m, 0, 0, 0, 0)
	}
}

func TestNoRoomThoughItsEndMakesRoom(t *testing.T) { // P10.5: Kept are kept when it asks
	m := underWay(t, api.Caps{Active: 3, Kept: 1, Reads: 10, Locks: 10}, 2)
	writes(t, m, 1, "a")
	commits(t, m, 1, 1)
	begins(t, m, 1)
	writes(t, m, 2, "b")
	wantTracked(t, m, 2, 1, 0, 1)
	wantNoCommit(t, m, 2, api.ErrFull)
	wantTracked(t, m, 1, 0, 0, 0) // 1 was concurrent with 2 alone
}

func TestKeptUntilAnAbort(t *testing.T) { // as long as one that is concurrent is under way, whatever call ends it
	m := underWay(t, usual(), 3)
	reads(t, m, 1, "a")
	writes(t, m, 1, "b")
	commits(t, m, 1, 1)
	begins(t, m, 1)
	aborts(t, m, 2)
	wantTracked(t, m, 2, 1, 1, 0)
	aborts(t, m, 3)
	wantTracked(t, m, 1, 0, 0, 0)
}

func TestKeptUntilACommit(t *testing.T) {
	m := underWay(t, usual(), 3)
	reads(t, m, 1, "a")
	writes(t, m, 1, "b")
	commits(t, m, 1, 1)
	begins(t, m, 1)
	commits(t, m, 3, 1)
	wantTracked(t, m, 2, 1, 1, 0)
	reads(t, m, 2, "c", "d")
	commits(t, m, 2, 1)
	wantTracked(t, m, 1, 1, 2, 0) // 2 itself, as it is concurrent with 4
	commits(t, m, 4, 1)
	wantTracked(t, m, 0, 0, 0, 0)
}

func TestKeptUntilACommitIsRefused(t *testing.T) {
	m := underWay(t, usual(), 4)
	reads(t, m, 1, "a")
	commits(t, m, 1, 0)
	pivot(t, m, 2, 3, 4)
	aborts(t, m, 3, 4)
	begins(t, m, 1)
	wantTracked(t, m, 2, 1, 2, 1)
	wantNoCommit(t, m, 2, api.ErrSsiSerial)
	wantTracked(t, m, 1, 0, 0, 0)
}

func TestKeptUntilAWriteIsRefused(t *testing.T) {
	for _, x := range []struct {
		last int64
		want api.Errno
	}{{1, api.ErrLockLate}, {0, api.ErrLockHeld}, {0, api.ErrFull}, {0, api.ErrSsiSerial}} {
		m := underWay(t, api.Caps{Active: 4, Kept: 4, Reads: 10, Locks: 4}, 4)
		reads(t, m, 1, "a")
		writes(t, m, 1, "b")
		commits(t, m, 1, 1)
		pivot(t, m, 2, 3, 4)
		aborts(t, m, 3, 4)
		begins(t, m, 1)
		wantWrite(t, m, 5, at("held"), 1, api.OK)
		if x.want == api.ErrFull {
			wantWrite(t, m, 5, at("c"), 1, api.OK)
			wantWrite(t, m, 5, at("d"), 1, api.OK)
		}
		was := m.Tracked()
		if was.Active != 2 || was.Kept != 1 || was.Reads != 2 {
			t.Fatal(was)
		}
		key := map[api.Errno]string{api.ErrLockLate: "b", api.ErrLockHeld: "held", api.ErrFull: "z", api.ErrSsiSerial: "z"}[x.want]
		wantWrite(t, m, 2, at(key), x.last, x.want)
		wantTracked(t, m, 1, 0, 0, was.Locks-1)
	}
}

func TestKeptUntilAReadIsRefused(t *testing.T) {
	for _, scan := range []bool{false, true} {
		m := underWay(t, usual(), 4)
		reads(t, m, 1, "a")
		writes(t, m, 1, "b")
		commits(t, m, 1, 1)
		pivot(t, m, 2, 3, 4)
		aborts(t, m, 3, 4)
		begins(t, m, 1)
		wantTracked(t, m, 2, 1, 2, 1)
		if scan {
			wantScan(t, m, 2, "u", "", "", api.ErrSsiSerial)
		} else {
			wantRead(t, m, 2, at("z"), api.ErrSsiSerial)
		}
		wantTracked(t, m, 1, 0, 0, 0)
	}
}

func TestKeptUntilAReadHasNoRoom(t *testing.T) {
	for _, scan := range []bool{false, true} {
		m := underWay(t, api.Caps{Active: 4, Kept: 4, Reads: 1, Locks: 4}, 2)
		reads(t, m, 1, "a")
		commits(t, m, 1, 0)
		begins(t, m, 1)
		wantTracked(t, m, 2, 1, 1, 0)
		if scan {
			wantScan(t, m, 2, "t", "a", "", api.ErrFull)
		} else {
			wantRead(t, m, 2, at("a"), api.ErrFull)
		}
		wantTracked(t, m, 1, 0, 0, 0)
		reads(t, m, 3, "a")
	}
}

func TestLocksGoWithACommit(t *testing.T) { // P10.5
	m := underWay(t, usual(), 1)
	writes(t, m, 1, "a", "b")
	wantTracked(t, m, 1, 0, 0, 2)
	commits(t, m, 1, 1)
	wantTracked(t, m, 0, 0, 0, 0)
	begins(t, m, 2)
	wantWrite(t, m, 2, at("a"), 1, api.OK)
	wantWrite(t, m, 3, at("b"), 1, api.OK)
}

func TestFlagsOfOneThatHasCommitted(t *testing.T) { // they are told no more, and remembered as long as it is kept
	m := underWay(t, usual(), 4)
	reads(t, m, 1, "a")
	writes(t, m, 2, "a") // 1 has Out, 2 has In
	writes(t, m, 1, "b")
	reads(t, m, 2, "c")
	commits(t, m, 1, 1)
	commits(t, m, 2, 2)
	wantOver(t, m, 1)
	wantOver(t, m, 2)
	one := m.Clone()
	wantRead(t, one, 3, at("b"), api.ErrSsiSerial)
	wantRead(t, one, 4, at("a"), api.OK) // 2 has In already
	wantWrite(t, m, 4, at("c"), 0, api.ErrSsiSerial)
}
