package ssi_test

import (
	"math"
	"testing"

	"keystone/api"
)

func TestWriteOfNobody(t *testing.T) { // P10.4: ahead of all else
	m := underWay(t, usual(), 2)
	aborts(t, m, 2)
	for _, tx := range []int64{math.MinInt64, -1, 0, 2, 3, math.MaxInt64} {
		for _, last := range []int64{math.MinInt64, -1, 0, 1, math.MaxInt64} {
			wantWrite(t, m, tx, at("a"), last, api.ErrSsiNone)
		}
	}
	wantTracked(t, m, 1, 0, 0, 0)
}

func TestWriteBehindNoCommit(t *testing.T) { // P10.4: a number below 0 is refused, and nothing changes
	m := underWay(t, usual(), 2)
	writes(t, m, 1, "a")
	for _, last := range []int64{math.MinInt64, -1} {
		wantWrite(t, m, 1, at("b"), last, api.ErrArg)
		wantWrite(t, m, 1, at("a"), last, api.ErrArg) // though it holds the lock
		wantWrite(t, m, 2, at("a"), last, api.ErrArg) // though 1 holds it
	}
	wantActive(t, m, 1, 2)
	wantTracked(t, m, 2, 0, 0, 1)
}

func TestWriteTakesALock(t *testing.T) { // P10.4
	m := underWay(t, usual(), 2)
	writes(t, m, 1, "a", "b", "a")
	wantTracked(t, m, 2, 0, 0, 2)
	wantWrite(t, m, 1, api.Lock{}, 0, api.OK)
	wantWrite(t, m, 1, api.Lock{Table: "u", Key: "a"}, 0, api.OK)
	wantTracked(t, m, 2, 0, 0, 4)
	wantFlags(t, m, 1, false, false)
	wantFlags(t, m, 2, false, false)
}

func TestWriteOfWhatItLocks(t *testing.T) { // P10.4: nothing changes, whatever last and its flags are
	m := underWay(t, api.Caps{Active: 4, Kept: 4, Reads: 10, Locks: 3}, 3)
	writes(t, m, 1, "a")
	pivot(t, m, 1, 2, 3) // all locks there is room for
	wantWrite(t, m, 1, at("a"), 0, api.OK)
	wantWrite(t, m, 1, at("a"), 77, api.OK)
	wantWrite(t, m, 1, at("a"), math.MaxInt64, api.OK)
	wantFlags(t, m, 1, true, true)
	wantTracked(t, m, 3, 0, 2, 3)
}

func TestWriteOfWhatAnotherOneLocks(t *testing.T) { // P10.4
	for _, last := range []int64{0, 5, math.MaxInt64} { // held is told ahead of late
		m := underWay(t, usual(), 2)
		writes(t, m, 1, "a")
		writes(t, m, 2, "b")
		reads(t, m, 2, "c")
		wantWrite(t, m, 2, at("a"), last, api.ErrLockHeld)
		wantOver(t, m, 2)
		wantTracked(t, m, 1, 0, 0, 1)
		writes(t, m, 1, "b", "c")
		wantFlags(t, m, 1, false, false)
	}
}

func TestWriteOfARowThatBecameAnotherOne(t *testing.T) { // P10.4
	m := newManager(t, usual(), 5)
	wantBegin(t, m, 1, 5)
	wantWrite(t, m, 1, at("a"), 5, api.OK)
	wantWrite(t, m, 1, at("b"), 4, api.OK)
	wantWrite(t, m, 1, at("c"), 6, api.ErrLockLate)
	wantOver(t, m, 1)
	wantTracked(t, m, 0, 0, 0, 0)
	wantBegin(t, m, 2, 5)
	wantWrite(t, m, 2, at("a"), math.MaxInt64, api.ErrLockLate)
	wantOver(t, m, 2)
}

func TestWriteOfWhatAKeptOneHasWritten(t *testing.T) { // P10.4: whatever last is
	for _, last := range []int64{0, 1, 2} {
		m := underWay(t, usual(), 2)
		writes(t, m, 1, "a", "c")
		commits(t, m, 1, 1)
		wantWrite(t, m, 2, at("b"), 0, api.OK)
		reads(t, m, 2, "d")
		wantWrite(t, m, 2, at("c"), last, api.ErrLockLate)
		wantOver(t, m, 2)
		wantTracked(t, m, 0, 0, 0, 0)
	}
}

func TestWriteOfWhatOneThatIsNotConcurrentHasWritten(t *testing.T) { // P10.4: one kept for others
	m := underWay(t, usual(), 2)
	writes(t, m, 2, "a")
	commits(t, m, 2, 1)
	wantBegin(t, m, 3, 1)
	wantTracked(t, m, 2, 1, 0, 0)
	wantWrite(t, m, 3, at("a"), 1, api.OK)
	wantFlags(t, m, 3, false, false)
	commits(t, m, 3, 2)
	wantWrite(t, m, 1, at("a"), 0, api.ErrLockLate)
}

func TestWriteOfWhatNoneHasCommitted(t *testing.T) { // P10.4: what was aborted is no write
	m := underWay(t, usual(), 3)
	writes(t, m, 1, "a")
	aborts(t, m, 1)
	writes(t, m, 2, "a")
	aborts(t, m, 2)
	writes(t, m, 3, "a")
	commits(t, m, 3, 1)
}

func TestWritesThatHaveNoRoom(t *testing.T) { // P10.4
	m := underWay(t, api.Caps{Active: 3, Kept: 3, Reads: 5, Locks: 3}, 2)
	writes(t, m, 1, "a", "b")
	writes(t, m, 2, "c")
	reads(t, m, 2, "x")
	wantWrite(t, m, 2, at("a"), 0, api.ErrLockHeld)
	begins(t, m, 1)
	writes(t, m, 3, "c")
	reads(t, m, 3, "x")
	one := m.Clone()
	wantWrite(t, one, 1, at("d"), 9, api.ErrLockLate) // late is told ahead of full
	wantOver(t, one, 1)
	wantWrite(t, m, 1, at("d"), 0, api.ErrFull)
	wantOver(t, m, 1)
	wantTracked(t, m, 1, 0, 1, 1)
	writes(t, m, 3, "a", "b")
	wantWrite(t, m, 3, at("d"), 0, api.ErrFull)
	wantTracked(t, m, 0, 0, 0, 0)
}

func TestFullIsToldAheadOfAKeptOne(t *testing.T) { // P10.4: what lock.Take says is the answer
	m := underWay(t, api.Caps{Active: 3, Kept: 3, Reads: 5, Locks: 1}, 3)
	writes(t, m, 1, "a")
	commits(t, m, 1, 1)
	writes(t, m, 2, "b")
	one := m.Clone()
	wantWrite(t, one, 3, at("a"), 0, api.ErrFull)
	wantOver(t, one, 3)
	wantWrite(t, m, 3, at("a"), 1, api.ErrLockLate)
	wantOver(t, m, 3)
	wantTracked(t, m, 1, 1, 0, 1)
}

func TestWriteOfWhatAnotherOneHasRead(t *testing.T) { // P10.4
	m := underWay(t, usual(), 4)
	reads(t, m, 2, "a")
	scans(t, m, 3, "b", "d")
	writes(t, m, 1, "a\x00", "", "aa", "d", "e")
	wantWrite(t, m, 1, api.Lock{Table: "u", Key: "a"}, 0, api.OK)
	wantFlags(t, m, 1, false, false)
	writes(t, m, 1, "a")
	wantFlags(t, m, 1, true, false)
	wantFlags(t, m, 2, false, true)
	wantFlags(t, m, 3, false, false)
	writes(t, m, 1, "c")
	wantFlags(t, m, 1, true, false)
	wantFlags(t, m, 3, false, true)
	wantFlags(t, m, 4, false, false)
}

func TestWriteOfWhatItHasRead(t *testing.T) { // P10.4: it depends on nobody
	m := underWay(t, usual(), 2)
	reads(t, m, 1, "a")
	scans(t, m, 1, "", "")
	writes(t, m, 1, "a", "b")
	wantFlags(t, m, 1, false, false)
	commits(t, m, 1, 1)
}

func TestWriteOfWhatAKeptOneHasRead(t *testing.T) { // P10.4
	m := underWay(t, usual(), 3)
	reads(t, m, 1, "a")
	commits(t, m, 1, 0)
	wantBegin(t, m, 4, 0)
	writes(t, m, 4, "a") // it began behind 1's end, though its snapshot is the same
	wantFlags(t, m, 4, false, false)
	aborts(t, m, 4)
	writes(t, m, 2, "a")
	wantFlags(t, m, 2, true, false)
	wantFlags(t, m, 3, false, false)
}

func TestWriteThatWouldMakeAPivot(t *testing.T) { // P10.4: of the writer
	m := underWay(t, usual(), 3)
	writes(t, m, 2, "a")
	reads(t, m, 1, "a") // 1 has Out
	reads(t, m, 3, "b")
	writes(t, m, 1, "c")
	wantWrite(t, m, 1, at("b"), 0, api.ErrSsiSerial)
	wantOver(t, m, 1)
	wantFlags(t, m, 2, true, false)
	wantFlags(t, m, 3, false, false)
	wantTracked(t, m, 2, 0, 1, 1)
	writes(t, m, 3, "b", "c")
}

func TestWriteThatWouldMakeACommittedPivot(t *testing.T) { // P10.4: of the reader
	m := underWay(t, usual(), 4)
	writes(t, m, 1, "a")
	reads(t, m, 2, "a") // 1 has In
	reads(t, m, 1, "b")
	commits(t, m, 1, 1)
	reads(t, m, 4, "b")
	wantWrite(t, m, 3, at("b"), 0, api.ErrSsiSerial)
	wantOver(t, m, 3)
	wantFlags(t, m, 2, false, true)
	wantFlags(t, m, 4, false, false) // nothing is put in
	wantTracked(t, m, 2, 1, 3, 0)
	wantBegin(t, m, 5, 1) // behind 1's end
	writes(t, m, 5, "b")
	wantFlags(t, m, 4, false, true)
}

func TestWriteThatMakesAPivotUnderWay(t *testing.T) { // P10.4: another one that is under way may have both
	m := underWay(t, usual(), 3)
	writes(t, m, 1, "a")
	reads(t, m, 2, "a")
	reads(t, m, 1, "b")
	writes(t, m, 3, "b")
	wantFlags(t, m, 1, true, true)
	wantFlags(t, m, 3, true, false)
	wantActive(t, m, 1, 2, 3)
}

func TestAPivotWritesNoMore(t *testing.T) { // P10.4: also where there is nothing to put in
	m := underWay(t, usual(), 3)
	pivot(t, m, 1, 2, 3)
	wantWrite(t, m, 1, at("z"), -1, api.ErrArg)
	wantFlags(t, m, 1, true, true)
	one := m.Clone()
	wantWrite(t, one, 1, at("pivot reads"), 0, api.ErrLockHeld) // told ahead
	wantOver(t, one, 1)
	wantWrite(t, m, 1, at("z"), 0, api.ErrSsiSerial)
	wantOver(t, m, 1)
	wantTracked(t, m, 2, 0, 1, 1)
}
