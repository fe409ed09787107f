package ssi_test

import (
	"math"
	"testing"

	"keystone/api"
)

func TestReadOfNobody(t *testing.T) { // P10.2, P10.3
	m := underWay(t, usual(), 2)
	aborts(t, m, 1)
	for _, tx := range []int64{math.MinInt64, -1, 0, 1, 3, math.MaxInt64} {
		wantOver(t, m, tx)
		wantScan(t, m, tx, "t", "b", "a", api.ErrSsiNone) // ahead of a range without keys
	}
	wantTracked(t, m, 1, 0, 0, 0)
}

func TestReadIsNoted(t *testing.T) { // P10.2
	m := underWay(t, usual(), 2)
	reads(t, m, 1, "a", "b", "a")
	wantTracked(t, m, 2, 0, 2, 0)
	wantRead(t, m, 1, api.Lock{Table: "u", Key: "a"}, api.OK)
	wantTracked(t, m, 2, 0, 3, 0)
	wantRead(t, m, 2, api.Lock{}, api.OK)
	wantTracked(t, m, 2, 0, 4, 0)
	wantFlags(t, m, 1, false, false)
	writes(t, m, 2, "c", "a\x00", "", "A") // none of what 1 has read
	wantWrite(t, m, 2, api.Lock{Table: "u", Key: "b"}, 0, api.OK)
	wantWrite(t, m, 2, api.Lock{Table: "t\x00", Key: "a"}, 0, api.OK)
	wantFlags(t, m, 2, false, false)
	wantFlags(t, m, 1, false, false)
	writes(t, m, 2, "a")
	wantFlags(t, m, 2, true, false)
	wantFlags(t, m, 1, false, true)
}

func TestReadOfWhatItLocks(t *testing.T) { // P10.2: nothing changes, whatever flags it has
	m := underWay(t, usual(), 3)
	writes(t, m, 1, "a")
	wantRead(t, m, 1, at("a"), api.OK)
	wantTracked(t, m, 3, 0, 0, 1)
	wantFlags(t, m, 1, false, false)
	pivot(t, m, 1, 2, 3)
	wantRead(t, m, 1, at("a"), api.OK)
	wantRead(t, m, 1, at("pivot writes"), api.OK)
	wantRead(t, m, 1, at("b"), api.ErrSsiSerial)
	wantOver(t, m, 1)
}

func TestReadOfWhatAnotherOneLocks(t *testing.T) { // P10.2
	m := underWay(t, usual(), 3)
	writes(t, m, 2, "a")
	reads(t, m, 1, "a\x00", "", "b")
	wantRead(t, m, 1, api.Lock{Table: "u", Key: "a"}, api.OK)
	wantFlags(t, m, 1, false, false)
	reads(t, m, 1, "a")
	wantFlags(t, m, 1, false, true)
	wantFlags(t, m, 2, true, false)
	reads(t, m, 3, "a")
	wantFlags(t, m, 3, false, true)
	wantFlags(t, m, 2, true, false)
}

func TestReadOfWhatAKeptOneHasWritten(t *testing.T) { // P10.2
	m := underWay(t, usual(), 2)
	writes(t, m, 2, "a", "c")
	commits(t, m, 2, 1)
	reads(t, m, 1, "b")
	wantFlags(t, m, 1, false, false)
	reads(t, m, 1, "a")
	wantFlags(t, m, 1, false, true)
	wantBegin(t, m, 3, 1) // behind 2's end: not concurrent with it
	reads(t, m, 3, "a", "c")
	wantFlags(t, m, 3, false, false)
}

func TestReadThatWouldMakeAPivot(t *testing.T) { // P10.2: of the reader
	m := underWay(t, usual(), 3)
	reads(t, m, 2, "a")
	writes(t, m, 1, "a") // 1 has In
	writes(t, m, 3, "b")
	wantRead(t, m, 1, at("b"), api.ErrSsiSerial)
	wantOver(t, m, 1)
	wantFlags(t, m, 2, false, true) // what was put in ahead of that stays
	wantFlags(t, m, 3, false, false)
	wantTracked(t, m, 2, 0, 1, 1)
}

func TestReadThatWouldMakeACommittedPivot(t *testing.T) { // P10.2: of the writer
	m := underWay(t, usual(), 3)
	reads(t, m, 2, "a")
	writes(t, m, 3, "a") // 2 has Out
	writes(t, m, 2, "b")
	commits(t, m, 2, 1)
	wantRead(t, m, 1, at("b"), api.ErrSsiSerial)
	wantOver(t, m, 1)
	wantFlags(t, m, 3, true, false)
}

func TestReadThatMakesAPivotUnderWay(t *testing.T) { // P10.2: another one that is under way may have both
	m := underWay(t, usual(), 3)
	pivot(t, m, 1, 2, 3)
	wantFlags(t, m, 2, true, false)
	wantFlags(t, m, 3, false, true)
	begins(t, m, 1)
	reads(t, m, 4, "pivot writes")
	wantFlags(t, m, 1, true, true)
	wantActive(t, m, 1, 2, 3, 4)
}

func TestAPivotReadsNoMore(t *testing.T) { // P10.2, P10.3: also where there is nothing to put in
	m := underWay(t, roomy(), 3)
	pivot(t, m, 1, 2, 3)
	one := m.Clone()
	wantRead(t, one, 1, at("z"), api.ErrSsiSerial)
	wantOver(t, one, 1)
	wantTracked(t, one, 2, 0, 1, 1)
	one = m.Clone()
	wantScan(t, one, 1, "z", "", "", api.ErrSsiSerial)
	wantOver(t, one, 1)
	wantTracked(t, one, 2, 0, 1, 1)
	wantRead(t, m, 1, at("pivot reads"), api.ErrSsiSerial) // noted already, and put in
	wantOver(t, m, 1)
}

func TestScan(t *testing.T) { // P10.3: which rows are of a range
	for _, x := range []struct {
		from, to string
		is       string // the keys, of those that are written below, that are of it
	}{
		{"", "", "01234567"},
		{"", "a", "01"},
		{"a", "", "234567"},
		{"a", "b", "234"},
		{"a", "a\x00", "2"},
		{"a\x00", "b", "34"},
		{"b", "b\x00", "5"},
		{"b\x00", "", "67"},
		{"\x00", "a", "1"},
		{"", "\x00", "0"},
		{"\xff", "", "7"},
		{"\xff\x00", "", ""},
		{"bb", "\x80", ""},
		{"\x01", "A", ""},
		{"aa", "ab", "4"},
	} {
		for i, key := range []string{"", "\x00", "a", "a\x00", "aa", "b", "\x80", "\xff"} {
			is := false
			for _, c := range x.is {
				is = is || int(c-'0') == i
			}
			wantScanned(t, x.from, x.to, key, is)
		}
	}
}

// wantScanned holds whether a row is of a range: of one that writes it ahead of the scan, of one that has committed, and of one that writes it behind it.
func wantScanned(t *testing.T, from, to, key string, is bool) {
	t.Helper()
	m := underWay(t, usual(), 3)
	writes(t, m, 2, key)
	wantWrite(t, m, 2, api.Lock{Table: "u", Key: "a"}, 0, api.OK)
	scans(t, m, 1, from, to)
	wantFlags(t, m, 1, false, is)
	wantFlags(t, m, 2, is, false)
	wantTracked(t, m, 3, 0, 1, 2)

	m = underWay(t, usual(), 3)
	writes(t, m, 2, key)
	wantWrite(t, m, 2, api.Lock{Table: "s", Key: "a"}, 0, api.OK)
	wantWrite(t, m, 2, api.Lock{Table: "u", Key: "a"}, 0, api.OK)
	commits(t, m, 2, 1)
	scans(t, m, 1, from, to)
	wantFlags(t, m, 1, false, is)
	scans(t, m, 3, from, to)
	wantFlags(t, m, 3, false, is)

	m = underWay(t, usual(), 3)
	scans(t, m, 1, from, to)
	writes(t, m, 2, key)
	wantWrite(t, m, 2, api.Lock{Table: "u", Key: key}, 0, api.OK)
	wantFlags(t, m, 1, false, is)
	wantFlags(t, m, 2, is, false)
}

func TestScanOfNoKeys(t *testing.T) { // P10.3: nothing changes
	m := underWay(t, usual(), 3)
	writes(t, m, 2, "a", "b")
	pivot(t, m, 1, 2, 3)
	want := m.Tracked()
	for _, x := range [][2]string{{"a", "a"}, {"b", "a"}, {"a\x00", "a"}, {"\xff", "\x00"}, {"b", "ab"}} {
		wantScan(t, m, 1, "t", x[0], x[1], api.OK)
		wantScan(t, m, 3, "t", x[0], x[1], api.OK)
		wantScan(t, m, 3, "", x[0], x[1], api.OK)
	}
	if m.Tracked() != want {
		t.Error(m.Tracked(), want)
	}
	wantFlags(t, m, 1, true, true)
}

func TestScanOfWhatItLocks(t *testing.T) { // P10.3: it is noted, and it depends on nobody
	m := underWay(t, usual(), 2)
	writes(t, m, 1, "a", "b")
	scans(t, m, 1, "a", "c")
	wantTracked(t, m, 2, 0, 1, 2)
	wantFlags(t, m, 1, false, false)
	writes(t, m, 2, "aa")
	wantFlags(t, m, 1, false, true)
}

func TestScanOfSeveralWriters(t *testing.T) { // P10.3
	m := underWay(t, roomy(), 6)
	for tx, key := range map[int64]string{2: "b", 3: "c", 4: "d", 5: "e"} {
		writes(t, m, tx, key)
	}
	commits(t, m, 4, 1)
	commits(t, m, 5, 2)
	wantBegin(t, m, 7, 2)
	scans(t, m, 7, "b", "e\x00") // 4 and 5 have ended ahead of it
	wantFlags(t, m, 7, false, true)
	wantFlags(t, m, 2, true, false)
	wantFlags(t, m, 3, true, false)
	wantFlags(t, m, 1, false, false)
	scans(t, m, 1, "d", "f")
	wantFlags(t, m, 1, false, true)
	wantFlags(t, m, 6, false, false)
}

func TestScanThatPutsNothingIn(t *testing.T) { // P10.3: if one committed one would be a pivot, no other one's flags change
	for _, keys := range [][2]string{{"b", "c"}, {"c", "b"}} {
		m := underWay(t, usual(), 4)
		reads(t, m, 2, "a")
		writes(t, m, 3, "a") // 2 has Out
		writes(t, m, 2, keys[0])
		writes(t, m, 4, keys[1])
		commits(t, m, 2, 1)
		wantScan(t, m, 1, "t", "b", "", api.ErrSsiSerial)
		wantOver(t, m, 1)
		wantFlags(t, m, 4, false, false)
		wantFlags(t, m, 3, true, false)
	}
}

func TestReadsThatHaveNoRoom(t *testing.T) { // P10.2, P10.3
	m := underWay(t, api.Caps{Active: 3, Kept: 3, Reads: 2, Locks: 5}, 3)
	reads(t, m, 1, "a")
	reads(t, m, 2, "a")
	writes(t, m, 3, "b", "c")
	one := m.Clone()
	wantRead(t, one, 3, at("a"), api.ErrFull)
	wantOver(t, one, 3)
	wantTracked(t, one, 2, 0, 2, 0)
	wantScan(t, m, 3, "u", "", "", api.ErrFull)
	wantOver(t, m, 3)
	wantTracked(t, m, 2, 0, 2, 0)
	wantFlags(t, m, 1, false, false)
}

func TestFullIsToldAheadOfAPivot(t *testing.T) { // P10.2, P10.3: a note comes ahead of what is put in
	m := underWay(t, api.Caps{Active: 4, Kept: 4, Reads: 3, Locks: 5}, 4)
	pivot(t, m, 1, 2, 3)
	reads(t, m, 4, "x") // three notes, of which no two are of one transaction and table
	one := m.Clone()
	wantRead(t, one, 1, api.Lock{Table: "u", Key: "a"}, api.ErrFull)
	wantOver(t, one, 1)
	one = m.Clone()
	wantScan(t, one, 1, "u", "", "", api.ErrFull)
	wantOver(t, one, 1)
	wantRead(t, m, 1, at("x"), api.ErrSsiSerial) // its two notes of t become one
	wantOver(t, m, 1)
	wantTracked(t, m, 3, 0, 2, 1)
}

func TestNotesThatBecomeCoarse(t *testing.T) { // P10.2, P10.3: nothing is forgotten
	m := underWay(t, api.Caps{Active: 3, Kept: 3, Reads: 2, Locks: 5}, 3)
	reads(t, m, 1, "a", "b", "c")
	wantTracked(t, m, 3, 0, 1, 0)
	scans(t, m, 2, "x", "y")
	wantTracked(t, m, 3, 0, 2, 0)
	writes(t, m, 3, "k") // 1's note is of the whole table by now
	wantFlags(t, m, 1, false, true)
	wantFlags(t, m, 2, false, false)
	wantFlags(t, m, 3, true, false)
	wantWrite(t, m, 3, api.Lock{Table: "u", Key: "a"}, 0, api.OK)
	writes(t, m, 3, "x")
	wantFlags(t, m, 2, false, true)
}

func TestNotesOfKeptOnesBecomeCoarse(t *testing.T) { // P10.2, P10.5
	m := underWay(t, api.Caps{Active: 3, Kept: 3, Reads: 3, Locks: 5}, 3)
	reads(t, m, 1, "a", "b")
	commits(t, m, 1, 0)
	reads(t, m, 2, "a", "b") // four notes: those of 1 become one, though it has committed
	wantTracked(t, m, 2, 1, 3, 0)
	writes(t, m, 3, "z")
	wantFlags(t, m, 3, true, false)
	wantFlags(t, m, 2, false, false)
}
