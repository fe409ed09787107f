package store_test

import (
	"slices"
	"testing"

	"keystone/api"
	"keystone/store"
)

// view is what a store answers of a snapshot.
type view struct {
	content []api.Content
	scan    []api.Row
	nexts   []api.Row
	gets    []api.Row
}

func viewOf(t *testing.T, s *store.Store, at int64) view {
	t.Helper()
	c, e := s.Content(at)
	if e != api.OK {
		t.Fatalf("Content(%d): %v", at, e)
	}
	v := view{content: c, scan: slices.Collect(s.Scan("pair", pairKeys()[6][:1], pairKeys()[28], at))}
	for _, k := range pairKeys() {
		r, _, _ := s.Get("pair", k, at)
		v.gets = append(v.gets, r)
		r, _, _ = s.Next("pair", k, true, at)
		v.nexts = append(v.nexts, r)
	}
	return v
}

func sameContent(a, b api.Content) bool {
	return a.Table == b.Table && slices.EqualFunc(a.Rows, b.Rows, sameRow)
}

// same tells whether two views are the same, but for tables that one has not.
func (v view) same(w view) bool {
	n := min(len(v.content), len(w.content))
	return slices.EqualFunc(v.content[:n], w.content[:n], sameContent) && slices.EqualFunc(v.scan, w.scan, sameRow) && slices.EqualFunc(v.nexts, w.nexts, sameRow) && slices.EqualFunc(v.gets, w.gets, sameRow)
}

// someWrites are writes of some rows, of which some are gone, or may not be.
func someWrites(n *numbers) []api.Write {
	var l []api.Write
	for range n.below(12) {
		k := oneOf(n, pairKeys())
		switch n.below(20) {
		case 0:
			l = append(l, put("pair", k[:1], pairVal(1)...))
		case 1:
			l = append(l, put("none", k))
		case 2:
			l = append(l, put("acct", ints(int64(n.below(9))), ints(int64(n.below(100)))...))
		case 3, 4, 5, 6:
			l = append(l, del("pair", k...))
		default:
			l = append(l, put("pair", k, pairVal(n.below(1000))...))
		}
	}
	return l
}

func TestSnapshotsStay(t *testing.T) { // P7.5, P7.6: the model lays each commit's writes over the last one's rows
	for seed := range 12 {
		n := numbers(seed)
		s, m := newStore(t, 3+seed, pair()), newModel(pair())
		views := []view{viewOf(t, s, 0)}
		writes := 0
		for step := range 150 {
			l := someWrites(&n)
			if m.does(t, s, l...) == api.OK {
				writes += len(l)
				views = append(views, viewOf(t, s, m.last()))
			}
			if n.below(15) == 0 {
				m.collects(t, s, m.oldest+int64(n.below(int(m.last()-m.oldest)+1)))
			}
			if step == 70 {
				wantErr(t, "Declare", s.Declare(acct()), api.OK)
				m.tables = append(m.tables, acct())
			}
			if s.Versions() > writes { // P7.7
				t.Fatalf("%d versions of %d writes", s.Versions(), writes)
			}
			at := m.oldest + int64(n.below(int(m.last()-m.oldest)+1))
			if !viewOf(t, s, at).same(views[at]) {
				t.Fatalf("seed %d: the snapshot %d is another one", seed, at)
			}
		}
		for at := m.oldest; at <= m.last(); at++ {
			if !viewOf(t, s, at).same(views[at]) {
				t.Fatalf("seed %d: the snapshot %d is another one", seed, at)
			}
		}
		m.want(t, s)
	}
}

func TestNoMoreVersionsThanRows(t *testing.T) { // P7.7
	for seed := range 20 {
		n := numbers(seed)
		s, m := newStore(t, 4, pair(), acct()), newModel(pair(), acct())
		for range 80 {
			m.does(t, s, someWrites(&n)...)
			if n.below(8) > 0 {
				continue
			}
			m.collects(t, s, m.last())
			l, e := s.Content(s.Last())
			rows := 0
			for _, c := range l {
				rows += len(c.Rows)
			}
			if e != api.OK || s.Versions() != rows {
				t.Fatalf("%d versions of %d rows", s.Versions(), rows)
			}
		}
	}
}
