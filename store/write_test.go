package store_test

import (
	"math"
	"strings"
	"testing"

	"keystone/api"
	"keystone/store"
	"keystone/tuple"
)

func TestInstall(t *testing.T) { // P7.3
	s, m := newStore(t, 3, acct(), pair(), flag()), newModel(acct(), pair(), flag())
	on := []api.Value{tuple.Bool(true)}
	m.installs(t, s)
	m.installs(t, s, put("flag", on), put("acct", ints(1), ints(1)...), put("pair", pairKeys()[4], pairVal(1)...))
	m.installs(t, s, put("acct", ints(1), ints(1)...), put("acct", ints(0), ints(5)...))
	m.installs(t, s, del("flag", on...), del("acct", ints(1)...))
	m.installs(t, s, put("flag", on), put("pair", pairKeys()[4], pairVal(2)...))
	m.installs(t, s)
	m.want(t, s)
	m.wantRows(t, s, "flag", [][]api.Value{on, {tuple.Bool(false)}})
	m.wantRows(t, s, "acct", manyInts(3))
	if s.Versions() != 9 {
		t.Errorf("Versions: %d", s.Versions())
	}
}

func TestInstallOfAnotherCommit(t *testing.T) { // P7.3: ahead of all that is wrong with the writes
	s, m := newStore(t, 3, acct()), newModel(acct())
	for range 3 {
		for _, n := range []int64{math.MinInt64, -1, 0, m.last() - 1, m.last(), m.last() + 2, math.MaxInt64} {
			if n == m.last()+1 {
				continue
			}
			for _, l := range [][]api.Write{nil, {put("acct", ints(1), ints(1)...)}, {put("none", nil)}, {put("acct", nil)}} {
				if e := s.Install(n, l); e != api.ErrCommit {
					t.Errorf("Install(%d, %s): %v", n, tell(l), e)
				}
			}
		}
		m.want(t, s)
		m.installs(t, s, put("acct", ints(1), ints(m.last())...))
	}
}

// wantNot installs what must be refused, and holds what is there against what was there.
func wantNot(t *testing.T, s *store.Store, m *model, want api.Errno, l ...api.Write) {
	t.Helper()
	if e := m.does(t, s, l...); e != want {
		t.Errorf("%s: %v, not %v", tell(l), e, want)
	}
	m.want(t, s)
}

func TestWritesThatDoNotFit(t *testing.T) { // P7.3
	s, m := pairs(t, 4, 3)
	key, val := pairKeys()[5], pairVal(1)
	good := put("pair", pairKeys()[0], val...)
	for _, name := range []string{"", "acct", "pai", "PAIR"} {
		wantNot(t, s, m, api.ErrTable, put(name, key, val...))
		wantNot(t, s, m, api.ErrTable, good, put(name, nil), good)
	}
	for _, k := range append(wrongLists(), nil, key[:1]) {
		wantNot(t, s, m, api.ErrRow, put("pair", k, val...))
		wantNot(t, s, m, api.ErrRow, del("pair", k...))
		wantNot(t, s, m, api.ErrRow, good, put("pair", k, val...))
	}
	half := api.Value{Kind: api.KPoint, Point: complex(0.5, 0)}
	long := tuple.Bytes(strings.Repeat("x", api.MaxBytes+1))
	for _, v := range [][]api.Value{nil, val[:1], {val[0], {}}, {val[1], val[0]}, {half, val[1]}, {val[0], long}, {val[0], val[1], val[1]}, {val[0], tuple.Int(1)}, make([]api.Value, 99)} {
		wantNot(t, s, m, api.ErrRow, put("pair", key, v...))
		wantNot(t, s, m, api.ErrRow, good, put("pair", key, v...))
	}
	wantNot(t, s, m, api.ErrRow, put("flag", []api.Value{tuple.Bool(true)}, tuple.Int(1)))
	for _, v := range [][]api.Value{val, val[:1], {{}}} {
		wantNot(t, s, m, api.ErrRow, api.Write{Table: "pair", Key: key, Val: v, Gone: true})
	}
}

func TestWritesOfEmptyLists(t *testing.T) { // P7.3, R3: nil and empty lists are the same
	s, m := newStore(t, 3, acct(), flag()), newModel(acct(), flag())
	on := []api.Value{tuple.Bool(true)}
	m.installs(t, s, api.Write{Table: "flag", Key: on, Val: []api.Value{}})
	m.installs(t, s, []api.Write{}...)
	m.installs(t, s, api.Write{Table: "flag", Key: on, Val: []api.Value{}, Gone: true})
	m.want(t, s)
	wantNot(t, s, m, api.ErrRow, api.Write{Table: "flag", Key: []api.Value{}})
}

func TestTwoWritesOfOneRow(t *testing.T) { // P7.3: behind what is wrong with any write
	s, m := newStore(t, 3, acct(), pair(), flag()), newModel(acct(), pair(), flag())
	a, b := put("acct", ints(1), ints(1)...), put("acct", ints(2), ints(1)...)
	wantNot(t, s, m, api.ErrWrites, a, a)
	wantNot(t, s, m, api.ErrWrites, a, b, put("acct", ints(1), ints(7)...))
	wantNot(t, s, m, api.ErrWrites, a, b, del("acct", ints(2)...))
	wantNot(t, s, m, api.ErrWrites, del("acct", ints(3)...), b, del("acct", ints(3)...))
	wantNot(t, s, m, api.ErrTable, a, a, put("none", nil))
	wantNot(t, s, m, api.ErrRow, a, a, put("acct", nil))
	wantNot(t, s, m, api.ErrTable, a, put("none", nil), put("acct", nil))
	wantNot(t, s, m, api.ErrRow, a, put("acct", nil), put("none", nil))
	other := acct()
	other.Name = "other"
	wantErr(t, "Declare", s.Declare(other), api.OK)
	m.tables = append(m.tables, other)
	m.installs(t, s, a, b, put("other", ints(1), ints(1)...), del("other", ints(2)...))
	m.want(t, s)
}

func TestAWriteThatTakesAwayNothing(t *testing.T) { // P7.3
	s, m := newStore(t, 3, acct()), newModel(acct())
	m.installs(t, s, del("acct", ints(1)...))
	m.installs(t, s, put("acct", ints(1), ints(1)...), del("acct", ints(2)...))
	m.installs(t, s, del("acct", ints(1)...))
	m.installs(t, s, del("acct", ints(1)...))
	m.want(t, s)
	m.wantRows(t, s, "acct", manyInts(4))
	if n, e := s.Newest("acct", ints(1)); n != 3 || e != api.OK || s.Versions() != 2 || s.Last() != 4 {
		t.Errorf("Newest %d, %v, Versions %d, Last %d", n, e, s.Versions(), s.Last())
	}
	if n, e := s.Newest("acct", ints(2)); n != 0 || e != api.OK {
		t.Errorf("Newest of a row that never was: %d, %v", n, e)
	}
}

// full is a store in which the row 1 of acct has as many versions as there may be, and is there, and the row 2 has as many, and is gone.
func full(t *testing.T) (*store.Store, *model) {
	t.Helper()
	s, m := newStore(t, 3, acct()), newModel(acct())
	for i := range int64(api.MaxVersions) {
		two := put("acct", ints(2), ints(i)...)
		if i%2 == 1 {
			two = del("acct", ints(2)...)
		}
		m.installs(t, s, put("acct", ints(1), ints(i)...), two)
	}
	return s, m
}

func TestTooManyVersions(t *testing.T) { // P7.3: at last
	s, m := full(t)
	one, other := put("acct", ints(1), ints(1)...), put("acct", ints(3), ints(1)...)
	wantNot(t, s, m, api.ErrFull, one)
	wantNot(t, s, m, api.ErrFull, other, one)
	wantNot(t, s, m, api.ErrFull, one, other)
	wantNot(t, s, m, api.ErrFull, del("acct", ints(1)...))
	wantNot(t, s, m, api.ErrFull, put("acct", ints(2), ints(1)...))
	wantNot(t, s, m, api.ErrWrites, one, other, other)
	wantNot(t, s, m, api.ErrWrites, one, one)
	wantNot(t, s, m, api.ErrRow, one, put("acct", nil))
	wantNot(t, s, m, api.ErrTable, one, put("none", nil))
	m.installs(t, s, other, del("acct", ints(2)...)) // the row 2 has no version more by that
	m.want(t, s)
	m.collects(t, s, 1) // takes none
	wantNot(t, s, m, api.ErrFull, one)
	m.collects(t, s, 2)
	m.installs(t, s, one)
	wantNot(t, s, m, api.ErrFull, one)
	m.installs(t, s, put("acct", ints(2), ints(1)...))
	m.want(t, s)
	m.wantRows(t, s, "acct", manyInts(5))
}

func TestCheckChangesNothing(t *testing.T) { // P7.3
	s, m := pairs(t, 3, 4)
	for range 3 {
		wantErr(t, "Check", s.Check([]api.Write{put("pair", pairKeys()[0], pairVal(7)...), del("pair", pairKeys()[1]...)}), api.OK)
		wantErr(t, "Check", s.Check(nil), api.OK)
		m.want(t, s)
	}
	m.wantRows(t, s, "pair", pairKeys()[:8])
}
