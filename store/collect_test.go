package store_test

import (
	"math"
	"testing"

	"keystone/api"
)

func TestCollect(t *testing.T) { // P7.4
	for oldest := range int64(8) {
		s, m := pairs(t, 3, 7)
		m.collects(t, s, oldest)
		m.want(t, s)
		m.wantRows(t, s, "pair", pairKeys()[:16])
		for later := oldest; later <= 7; later++ {
			m.collects(t, s, later)
			m.collects(t, s, later)
			m.want(t, s)
		}
		m.wantRows(t, s, "pair", pairKeys())
	}
}

func TestCollectOfSnapshotsThatThereAreNot(t *testing.T) { // P7.4
	s, m := pairs(t, 3, 7)
	for _, oldest := range []int64{0, 3, 7} {
		m.collects(t, s, oldest)
		for _, other := range []int64{math.MinInt64, -1, oldest - 1, 8, math.MaxInt64} {
			if n, e := s.Collect(other); n != 0 || e != api.ErrCommit {
				t.Errorf("Collect(%d) behind Collect(%d): %d, %v", other, oldest, n, e)
			}
		}
		m.want(t, s)
	}
}

func TestCollectOfNothing(t *testing.T) { // P7.4
	s, m := newStore(t, 3), newModel()
	m.collects(t, s, 0)
	m.want(t, s)
	m.installs(t, s)
	m.collects(t, s, 1)
	m.want(t, s)
}

func TestWhatIsCollectedMayComeAgain(t *testing.T) { // P7.4
	s, m := newStore(t, 3, acct()), newModel(acct())
	for round := range int64(4) {
		for i := range int64(20) {
			m.installs(t, s, put("acct", ints(i), ints(round)...))
		}
		for i := range int64(20) {
			if (i+round)%3 > 0 {
				m.installs(t, s, del("acct", ints(i)...))
			}
		}
		m.collects(t, s, m.last())
		m.want(t, s)
		m.wantRows(t, s, "acct", manyInts(21))
		if n, e := s.Newest("acct", ints(1+round)); n != m.chain("acct", ints(1+round)).Last() || e != api.OK {
			t.Errorf("Newest: %d, %v", n, e)
		}
	}
}

func TestNewestOfWhatWasCollected(t *testing.T) { // P7.2, P7.4: as the chain's Last
	s, m := newStore(t, 3, acct()), newModel(acct())
	m.installs(t, s, put("acct", ints(1), ints(1)...), put("acct", ints(2), ints(1)...))
	m.installs(t, s, del("acct", ints(1)...))
	m.installs(t, s)
	for _, w := range []struct{ oldest, one, versions int64 }{{0, 2, 3}, {1, 2, 3}, {2, 0, 1}, {3, 0, 1}} {
		m.collects(t, s, w.oldest)
		one, _ := s.Newest("acct", ints(1))
		two, _ := s.Newest("acct", ints(2))
		if one != w.one || two != 1 || int64(s.Versions()) != w.versions {
			t.Errorf("Collect(%d): Newest %d, %d, Versions %d", w.oldest, one, two, s.Versions())
		}
	}
	m.want(t, s)
}
