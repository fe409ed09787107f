package store_test

import (
	"math"
	"slices"
	"strings"
	"testing"

	"keystone/api"
	"keystone/store"
	"keystone/tuple"
)

// useAll calls all calls of a store with some things.
func useAll(s *store.Store, table string, l, other []api.Value, at int64) {
	s.Get(table, l, at)
	for _, beyond := range []bool{false, true} {
		s.Next(table, l, beyond, at)
	}
	for range s.Scan(table, l, other, at) {
	}
	for range s.Scan(table, l, other, at) {
		break
	}
	s.Newest(table, l)
	for _, gone := range []bool{false, true} {
		w := []api.Write{{Table: table, Key: l, Val: other, Gone: gone}}
		s.Check(w)
		s.Install(at, w)
		s.Check(append(w, w...))
	}
	s.Content(at)
	s.Collect(at)
	s.Tables()
	s.Last()
	s.Oldest()
	s.Versions()
}

func TestNothingPanics(t *testing.T) { // R1
	lists := append(wrongLists(), nil, ints(1), pairKeys()[3], pairVal(1), []api.Value{tuple.Point(math.MaxInt64, 1)}, []api.Value{{Kind: api.KPoint, Point: complex(math.NaN(), math.Inf(1))}}, make([]api.Value, 5000))
	made, _ := pairs(t, 3, 3)
	empty, _ := store.New(3)
	for _, s := range []*store.Store{nil, new(store.Store), empty, made} {
		for i, l := range lists {
			for _, at := range []int64{math.MinInt64, -1, 0, 1, 3, 4, math.MaxInt64 - 1, math.MaxInt64} {
				for _, table := range []string{"", "pair", "flag", "none", strings.Repeat("x", 1<<16)} {
					useAll(s, table, l, lists[(i*7)%len(lists)], at)
				}
			}
		}
		for _, x := range append(badTables(), goodTables()...) {
			s.Declare(x)
		}
		s.Declare(api.Table{Name: strings.Repeat("x", 1<<20), Key: make([]api.Column, 1<<20), Val: make([]api.Column, 1<<20)})
		s.Check(make([]api.Write, 1<<16))
	}
}

func TestStoresThatNoCallMade(t *testing.T) { // R5
	for _, s := range []*store.Store{nil, new(store.Store)} {
		for _, x := range append(badTables(), acct()) { // ErrMade is ahead of all else
			wantErr(t, "Declare", s.Declare(x), api.ErrMade)
		}
		for _, at := range []int64{-1, 0, 1} {
			for _, k := range [][]api.Value{nil, {{}}, ints(1)} {
				wantRefused(t, s, "acct", k, at, api.ErrMade)
				wantNextRefused(t, s, "acct", k, at, api.ErrMade)
				wantNewest(t, s, "acct", k, api.ErrMade)
				wantErr(t, "Install", s.Install(at, []api.Write{put("acct", k, k...)}), api.ErrMade)
				wantErr(t, "Check", s.Check([]api.Write{put("acct", k, k...)}), api.ErrMade)
			}
			wantErr(t, "Install", s.Install(at, nil), api.ErrMade)
			if n, e := s.Collect(at); n != 0 || e != api.ErrMade {
				t.Errorf("Collect: %d, %v", n, e)
			}
			if l, e := s.Content(at); len(l) > 0 || e != api.ErrMade {
				t.Errorf("Content: %v, %v", l, e)
			}
		}
		wantErr(t, "Check", s.Check(nil), api.ErrMade)
		if len(s.Tables()) > 0 || s.Last() != 0 || s.Oldest() != 0 || s.Versions() != 0 {
			t.Errorf("Tables %v, Last %d, Oldest %d, Versions %d", s.Tables(), s.Last(), s.Oldest(), s.Versions())
		}
	}
}

// scribble writes over a list, and over its spare room.
func scribble[T any](l []T, with T) {
	l = l[:cap(l)]
	for i := range l {
		l[i] = with
	}
}

func scribbleRow(r api.Row) {
	scribble(r.Key, tuple.Bytes("scribble"))
	scribble(r.Val, tuple.Bytes("scribble"))
}

// roomy is a list with some spare room behind it.
func roomy[T any](l []T, behind T) []T {
	l = append(slices.Clone(l), behind, behind)
	return l[:len(l)-2]
}

// behindIt tells whether the room behind a list is as roomy has made it.
func behindIt[T comparable](l []T, behind T) bool {
	return slices.Equal(l[len(l):len(l)+2], []T{behind, behind})
}

func TestWhatIsHandedInIsNotKept(t *testing.T) { // R3
	x, column := pair(), api.Column{Name: "scribble", Kind: 9}
	x.Key, x.Val = roomy(x.Key, column), roomy(x.Val, column)
	s, m := newStore(t, 3, x), newModel(pair())
	scribble(x.Key, column)
	scribble(x.Val, column)
	m.want(t, s)

	behind := tuple.Bytes("behind")
	key, val := roomy(pairKeys()[3], behind), roomy(pairVal(1), behind)
	l := []api.Write{put("pair", key, val...), del("pair", pairKeys()[4]...)}
	l[0].Val = val
	wantErr(t, "Install", s.Install(1, l), api.OK)
	m.install([]api.Write{put("pair", pairKeys()[3], pairVal(1)...), del("pair", pairKeys()[4]...)})
	scan := s.Scan("pair", key[:1], key, 1)
	scribble(key, behind)
	scribble(val, behind)
	clear(l)
	m.want(t, s)
	m.wantRows(t, s, "pair", pairKeys()[:6])
	if got := slices.Collect(scan); !slices.EqualFunc(got, m.snapshots[1]["pair"], sameRow) {
		t.Errorf("Scan: %v", got)
	}
}

func TestWhatIsHandedInIsNotChanged(t *testing.T) { // R3
	behind, column := tuple.Bytes("behind"), api.Column{Name: "behind", Kind: 3}
	x := pair()
	x.Key, x.Val = roomy(x.Key, column), roomy(x.Val, column)
	s, _ := pairs(t, 3, 4)
	s.Declare(x)
	x.Name = "other"
	wantErr(t, "Declare", s.Declare(x), api.OK)
	if y := pair(); !slices.Equal(x.Key, y.Key) || !slices.Equal(x.Val, y.Val) || !behindIt(x.Key, column) || !behindIt(x.Val, column) {
		t.Error("the table was changed")
	}
	for i, k := range pairKeys() {
		key, val := roomy(k, behind), roomy(pairVal(i), behind)
		l := append([]api.Write{{Table: "pair", Key: key, Val: val}, {Table: "pair", Key: pairKeys()[(i+1)%36], Gone: true}}, put("behind", nil))[:2]
		s.Check(l)
		wantErr(t, "Install", s.Install(s.Last()+1, l), api.OK)
		s.Get("pair", key, s.Last())
		s.Next("pair", key[:1], true, s.Last())
		s.Newest("pair", key)
		for r := range s.Scan("pair", key[:1], key, s.Last()) {
			scribbleRow(r)
		}
		if !slices.Equal(key, k) || !slices.Equal(val, pairVal(i)) || !behindIt(key, behind) || !behindIt(val, behind) {
			t.Fatal("the lists were changed")
		}
		if l[0].Table != "pair" || !l[1].Gone || !slices.Equal(l[1].Key, pairKeys()[(i+1)%36]) || l[:3][2].Table != "behind" {
			t.Fatal("the writes were changed")
		}
	}
}

func TestAnswersAreNewMemory(t *testing.T) { // R3
	s, m := pairs(t, 3, 5)
	for at := range int64(6) {
		for _, k := range pairKeys() {
			r, _, _ := s.Get("pair", k, at)
			scribbleRow(r)
			r, _, _ = s.Next("pair", k[:1], false, at)
			scribbleRow(r)
		}
		l, _ := s.Content(at)
		for _, c := range l {
			for i, r := range c.Rows {
				if want := m.snapshots[at][c.Table][i]; !sameRow(r, want) {
					t.Fatalf("Content(%d): %v, not %v", at, r, want)
				}
				scribbleRow(r) // the rows behind it must stay as they are
			}
			scribble(c.Rows, api.Row{})
		}
		scribble(l, api.Content{})
	}
	tables := s.Tables()
	for i, x := range tables {
		if !sameTable(x, m.tables[i]) {
			t.Fatalf("Tables: %v", x)
		}
		scribble(x.Key, api.Column{Name: "scribble"})
		scribble(x.Val, api.Column{Name: "scribble"})
	}
	scribble(tables, api.Table{})
	m.want(t, s)
	m.wantRows(t, s, "pair", pairKeys())
}

func TestRowsOfAScanAreNewMemory(t *testing.T) { // R3
	s, m := pairs(t, 3, 5)
	want := m.between("pair", nil, nil, 5)
	scan := s.Scan("pair", nil, nil, 5)
	for range 3 {
		n := 0
		for r := range scan {
			if !sameRow(r, want[n]) {
				t.Fatalf("row %d: %v", n, r)
			}
			scribbleRow(r)
			n++
		}
		for _, r := range slices.Collect(scan) {
			scribbleRow(r)
		}
	}
	m.want(t, s)
}

func TestStoresKnowNothingOfEachOther(t *testing.T) { // R4
	s, m := pairs(t, 3, 4)
	other, n := pairs(t, 3, 4)
	m.installs(t, s, put("pair", pairKeys()[0], pairVal(77)...), del("pair", pairKeys()[9]...))
	m.collects(t, s, 5)
	wantErr(t, "Declare", s.Declare(acct()), api.OK)
	m.tables = append(m.tables, acct())
	n.want(t, other)
	n.wantRows(t, other, "pair", pairKeys()[:12])
	n.installs(t, other, put("flag", []api.Value{tuple.Bool(true)}))
	m.want(t, s)
}
