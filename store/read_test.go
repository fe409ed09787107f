package store_test

import (
	"math"
	"slices"
	"strings"
	"testing"

	"keystone/api"
	"keystone/store"
	"keystone/tuple"
)

func TestTheExample(t *testing.T) { // P7.2, P7.3, P7.4
	s, m := newStore(t, 3, acct()), newModel(acct())
	m.installs(t, s, put("acct", ints(1), ints(10)...))
	m.installs(t, s, put("acct", ints(1), ints(20)...), put("acct", ints(2), ints(5)...))
	for at, want := range []int64{0, 10, 20} {
		r, is, e := s.Get("acct", ints(1), int64(at))
		if e != api.OK || is != (at > 0) || is && !sameRow(r, api.Row{Key: ints(1), Val: ints(want)}) {
			t.Errorf("Get at %d: %v, %v, %v", at, r, is, e)
		}
	}
	if r, is, e := s.Next("acct", ints(1), true, 1); is || e != api.OK || !sameRow(r, api.Row{}) {
		t.Errorf("Next at 1: %v, %v, %v", r, is, e)
	}
	if r, is, e := s.Next("acct", ints(1), true, 2); !is || e != api.OK || !sameRow(r, api.Row{Key: ints(2), Val: ints(5)}) {
		t.Errorf("Next at 2: %v, %v, %v", r, is, e)
	}
	wantErr(t, "Install(2)", s.Install(2, nil), api.ErrCommit)
	if n, e := s.Collect(2); n != 1 || e != api.OK {
		t.Errorf("Collect(2): %d, %v", n, e)
	}
	if _, is, e := s.Get("acct", ints(1), 1); is || e != api.ErrCommit {
		t.Errorf("Get at 1, behind that: %v, %v", is, e)
	}
}

// pairs is a store of pair with some commits, and its model.
func pairs(t *testing.T, order int, commits int) (*store.Store, *model) {
	t.Helper()
	s, m := newStore(t, order, pair(), flag()), newModel(pair(), flag())
	n, keys := numbers(order), pairKeys()
	for range commits {
		var l []api.Write
		for i, k := range keys {
			switch n.below(6) {
			case 0, 1:
				l = append(l, put("pair", k, pairVal(i+len(m.snapshots))...))
			case 2:
				l = append(l, del("pair", k...))
			}
		}
		if n.below(2) == 0 {
			l = append(l, put("flag", []api.Value{tuple.Bool(n.below(2) == 0)}))
		}
		m.installs(t, s, l...)
	}
	return s, m
}

func TestReads(t *testing.T) { // P7.2
	for _, order := range []int{3, 4, 64} {
		s, m := pairs(t, order, 5)
		m.want(t, s)
		m.wantRows(t, s, "pair", pairKeys())
		m.wantRows(t, s, "flag", [][]api.Value{{tuple.Bool(false)}, {tuple.Bool(true)}})
	}
}

func TestReadsOfNothing(t *testing.T) { // P7.2
	s, m := newStore(t, 3, pair(), flag()), newModel(pair(), flag())
	m.wantRows(t, s, "pair", pairKeys())
	m.installs(t, s)
	m.wantRows(t, s, "pair", pairKeys())
	m.installs(t, s, put("pair", pairKeys()[0], pairVal(1)...))
	m.installs(t, s, del("pair", pairKeys()[0]...))
	m.wantRows(t, s, "pair", pairKeys())
}

func TestReadsOfManyRows(t *testing.T) { // P7.2: the first row that is seen may lie far behind others
	s, m := newStore(t, 3, acct()), newModel(acct())
	var puts, dels []api.Write
	for i := range int64(40) {
		puts = append(puts, put("acct", ints(i), ints(i)...))
		if i%13 != 12 {
			dels = append(dels, del("acct", ints(i)...))
		}
	}
	m.installs(t, s, puts...)
	m.installs(t, s, dels...)
	m.installs(t, s, del("acct", ints(12)...), put("acct", ints(5), ints(1)...))
	m.want(t, s)
	m.wantRows(t, s, "acct", manyInts(41))
}

func TestAWideTable(t *testing.T) { // P7.2: as many columns as there may be, and bytes as long
	kinds := []int{api.KBool, api.KInt, api.KBytes, api.KBool, api.KInt, api.KBytes, api.KBool, api.KBytes}
	wide := api.Table{Name: "wide", Key: columns(kinds...), Val: columns(kinds...)}
	s, m := newStore(t, 3, wide), newModel(wide)
	var keys [][]api.Value
	for i := range 8 {
		bit := func(n int) int64 { return int64(i >> n & 1) }
		long := strings.Repeat("x", api.MaxBytes-1)
		keys = append(keys, []api.Value{
			tuple.Bool(bit(0) == 1), tuple.Int(bit(1)), tuple.Bytes(long + string(rune('a'+bit(2)))), tuple.Bool(true),
			tuple.Int(-bit(2)), tuple.Bytes(""), tuple.Bool(false), tuple.Bytes(strings.Repeat("\x00", api.MaxBytes-int(bit(0)))),
		})
	}
	for i, k := range keys {
		m.installs(t, s, put("wide", k, keys[len(keys)-1-i]...))
	}
	m.want(t, s)
	m.collects(t, s, m.last()-1)
	m.wantRows(t, s, "wide", keys)
}

// wrongLists are lists that fit no key of pair, nor the beginning of one.
func wrongLists() [][]api.Value {
	long := tuple.Bytes(strings.Repeat("x", api.MaxBytes+1))
	wrong := [][]api.Value{
		{{}}, ints(1), {long}, {tuple.Bool(false)}, {tuple.Point(1, 1)},
		{tuple.Bytes(""), tuple.Bytes("")}, {tuple.Bytes(""), {}}, {tuple.Bytes(""), {Kind: api.KInt, Yes: true}},
		{long, tuple.Int(1)}, {{Kind: api.KBytes, Int: 1}, tuple.Int(1)},
		{tuple.Bytes(""), tuple.Int(1), tuple.Int(1)}, {tuple.Bytes(""), tuple.Int(1), {}},
		{tuple.Bytes(""), {Kind: api.KInt, Point: complex(0, 1)}}, {{Kind: 5}}, {{Kind: -1}},
	}
	return append(wrong, make([]api.Value, 100), slices.Repeat(ints(1), 17))
}

// wantRefused holds the error of Get against what it must be.
func wantRefused(t *testing.T, s *store.Store, table string, key []api.Value, at int64, want api.Errno) {
	t.Helper()
	if r, is, e := s.Get(table, key, at); e != want || is || !sameRow(r, api.Row{}) {
		t.Errorf("Get(%q, %s, %d): %v, %v, %v, not %v", table, text(key), at, r, is, e, want)
	}
}

// wantNextRefused holds the error of Next against what it must be; of which Scan tells nothing.
func wantNextRefused(t *testing.T, s *store.Store, table string, from []api.Value, at int64, want api.Errno) {
	t.Helper()
	for _, beyond := range []bool{false, true} {
		if r, is, e := s.Next(table, from, beyond, at); e != want || is || !sameRow(r, api.Row{}) {
			t.Errorf("Next(%q, %s, %v, %d): %v, %v, %v, not %v", table, text(from), beyond, at, r, is, e, want)
		}
	}
	for _, to := range [][]api.Value{nil, from, {tuple.Bytes("a")}} {
		for r := range s.Scan(table, from, to, at) {
			t.Errorf("Scan(%q, %s, %s, %d): %v", table, text(from), text(to), at, r)
		}
		for r := range s.Scan(table, to, from, at) {
			t.Errorf("Scan(%q, %s, %s, %d): %v", table, text(to), text(from), at, r)
		}
	}
}

// wantNewest holds the error of Newest against what it must be.
func wantNewest(t *testing.T, s *store.Store, table string, key []api.Value, want api.Errno) {
	t.Helper()
	if n, e := s.Newest(table, key); n != 0 || e != want {
		t.Errorf("Newest(%q, %s): %d, %v, not %v", table, text(key), n, e, want)
	}
}

func TestReadsThatAreRefused(t *testing.T) { // P7.2, R2: the table, then the key, then the snapshot
	s, m := pairs(t, 4, 6)
	m.collects(t, s, 2)
	key := pairKeys()[3]
	outside := []int64{math.MinInt64, -1, 0, 1, 7, math.MaxInt64}
	for _, at := range append(outside, 2, 6) {
		for _, table := range []string{"", "pai", "pairs", "PAIR", strings.Repeat("p", 999)} {
			for _, k := range append(wrongLists(), key, nil) {
				wantRefused(t, s, table, k, at, api.ErrTable)
				wantNextRefused(t, s, table, k, at, api.ErrTable)
				wantNewest(t, s, table, k, api.ErrTable)
			}
		}
		for _, k := range wrongLists() {
			wantRefused(t, s, "pair", k, at, api.ErrRow)
			wantNextRefused(t, s, "pair", k, at, api.ErrRow)
			wantNewest(t, s, "pair", k, api.ErrRow)
		}
		for _, k := range [][]api.Value{nil, {}, key[:1]} { // beginnings are no keys
			wantRefused(t, s, "pair", k, at, api.ErrRow)
			wantNewest(t, s, "pair", k, api.ErrRow)
		}
	}
	for _, at := range outside {
		wantRefused(t, s, "pair", key, at, api.ErrCommit)
		for _, k := range [][]api.Value{nil, key[:1], key} {
			wantNextRefused(t, s, "pair", k, at, api.ErrCommit)
		}
	}
	m.want(t, s)
}

func TestANoughtOfEitherSign(t *testing.T) { // P7.2: a value is well formed, if the point of another kind is a nought of either sign
	minus := math.Copysign(0, -1)
	one := api.Value{Kind: api.KInt, Int: 1, Point: complex(minus, minus)}
	s, m := newStore(t, 3, acct()), newModel(acct())
	m.installs(t, s, put("acct", []api.Value{one}, one))
	m.want(t, s)
	m.wantRows(t, s, "acct", [][]api.Value{ints(1), {one}, ints(0)})
	wantErr(t, "the same row twice", m.does(t, s, put("acct", ints(1), one), put("acct", []api.Value{one}, one)), api.ErrWrites)
}

func TestAScanIsAsItWas(t *testing.T) { // P7.2, R3
	s, m := pairs(t, 3, 6)
	want := m.between("pair", nil, nil, 4)
	scan, none := s.Scan("pair", nil, nil, 4), s.Scan("pair", nil, nil, 7)
	m.installs(t, s, put("pair", pairKeys()[1], pairVal(99)...), del("pair", pairKeys()[2]...))
	wantErr(t, "Declare", s.Declare(acct()), api.OK)
	m.tables = append(m.tables, acct())
	m.collects(t, s, 7)
	m.installs(t, s, put("pair", pairKeys()[2], pairVal(98)...))
	for range 2 {
		if got := slices.Collect(scan); len(want) == 0 || !slices.EqualFunc(got, want, sameRow) {
			t.Errorf("Scan: %v, not %v", got, want)
		}
	}
	for r := range none {
		t.Errorf("Scan of a snapshot that was not there: %v", r)
	}
	for r := range s.Scan("pair", nil, nil, 4) {
		t.Errorf("Scan of a snapshot that is there no more: %v", r)
	}
	m.want(t, s)
}

func TestAScanWhileItIsGoneThrough(t *testing.T) { // P7.2, R3
	s, m := newStore(t, 3, acct()), newModel(acct())
	var puts []api.Write
	for i := range int64(9) {
		puts = append(puts, put("acct", ints(i), ints(i)...))
	}
	m.installs(t, s, puts...)
	var got []api.Row
	for r := range s.Scan("acct", ints(2), ints(6), 1) {
		got = append(got, r)
		n := r.Key[0].Int
		m.installs(t, s, del("acct", ints(n+1)...), put("acct", ints(n), ints(-n)...))
		m.collects(t, s, m.last())
	}
	if want := m.between("acct", ints(2), ints(6), 1); len(want) != 5 || !slices.EqualFunc(got, want, sameRow) {
		t.Errorf("Scan: %v", got)
	}
	m.want(t, s)
}

func TestAScanIsLeftAndNested(t *testing.T) { // P7.2, R3
	s, m := pairs(t, 3, 3)
	want := m.between("pair", nil, nil, 3)
	scan := s.Scan("pair", nil, nil, 3)
	for most := range len(want) + 1 {
		n := 0
		for r := range scan {
			if n == most {
				break
			}
			if !sameRow(r, want[n]) {
				t.Errorf("row %d: %v", n, r)
			}
			n++
		}
	}
	n := 0
	for r := range scan {
		for q := range scan {
			if sameRow(r, q) {
				n++
			}
		}
	}
	if n != len(want) {
		t.Errorf("nested: %d", n)
	}
}
