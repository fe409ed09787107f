package ssi_test

import (
	"math"
	"testing"

	"keystone/api"
	"keystone/ssi"
)

func TestExampleOfSkew(t *testing.T) { // P10.2, P10.4, P10.5
	m := newManager(t, usual(), 0)
	wantBegin(t, m, 1, 0)
	wantBegin(t, m, 2, 0)
	reads(t, m, 1, "a", "b")
	reads(t, m, 2, "a", "b")
	writes(t, m, 1, "a")
	wantFlags(t, m, 1, true, false)
	wantFlags(t, m, 2, false, true)
	wantWrite(t, m, 2, at("b"), 0, api.ErrSsiSerial)
	wantOver(t, m, 2)
	wantFlags(t, m, 1, true, false)
	commits(t, m, 1, 1)
	wantTracked(t, m, 0, 0, 0, 0)
}

func TestExamplesOfWriteConflicts(t *testing.T) { // P10.4
	m := underWay(t, usual(), 2)
	writes(t, m, 1, "a")
	wantWrite(t, m, 2, at("a"), 0, api.ErrLockHeld)
	wantActive(t, m, 1)
	for _, last := range []int64{0, 1} {
		m = underWay(t, usual(), 2)
		writes(t, m, 1, "a")
		commits(t, m, 1, 1)
		wantWrite(t, m, 2, at("a"), last, api.ErrLockLate)
		wantTracked(t, m, 0, 0, 0, 0)
	}
}

func TestExampleOfAReaderThatIsKept(t *testing.T) { // P10.4, P10.5
	m := underWay(t, usual(), 1)
	reads(t, m, 1, "a")
	begins(t, m, 1)
	commits(t, m, 1, 0)
	wantTracked(t, m, 1, 1, 1, 0)
	writes(t, m, 2, "a")
	wantFlags(t, m, 2, true, false)
	commits(t, m, 2, 1)
	wantTracked(t, m, 0, 0, 0, 0)
}

func TestAbort(t *testing.T) { // P10.6
	m := underWay(t, usual(), 3)
	reads(t, m, 1, "a")
	scans(t, m, 1, "b", "c")
	writes(t, m, 1, "d", "e")
	reads(t, m, 2, "d")
	writes(t, m, 3, "a")
	wantFlags(t, m, 1, true, true)
	wantTracked(t, m, 3, 0, 3, 3)
	aborts(t, m, 1)
	wantOver(t, m, 1)
	wantTracked(t, m, 2, 0, 1, 1)
	wantFlags(t, m, 2, false, true) // what was put in stays
	wantFlags(t, m, 3, true, false)
	writes(t, m, 2, "e") // its locks and notes are gone
	if m.Now() != 0 {
		t.Error("Now", m.Now())
	}
	for _, tx := range []int64{math.MinInt64, -1, 0, 1, 4, math.MaxInt64} {
		wantOver(t, m, tx)
	}
	aborts(t, m, 2, 3)
	wantTracked(t, m, 0, 0, 0, 0)
}

func TestWhatIsAskedChangesNothing(t *testing.T) { // P10.6
	m, want := newModelled(t, usual(), 3)
	n := numbers(106)
	for range 200 {
		want.does(t, m, &n)
		for range 2 {
			want.want(t, m)
		}
	}
}

func TestActive(t *testing.T) { // P10.6: rising
	m := underWay(t, roomy(), 64)
	n := numbers(10)
	for len(m.Active()) > 0 {
		aborts(t, m, oneOf(&n, m.Active()))
		for i, tx := range m.Active() {
			if i > 0 && tx <= m.Active()[i-1] {
				t.Fatal(m.Active())
			}
		}
	}
	wantActive(t, m)
	wantBegin(t, m, 65, 0)
}

func TestOldest(t *testing.T) { // P10.6
	m := newManager(t, roomy(), 100)
	for i := range int64(10) {
		begins(t, m, 2)
		if i%2 == 0 {
			wantWrite(t, m, 2*i+2, api.Lock{Table: "t", Key: string(rune('a' + i))}, 0, api.OK)
		}
		m.Commit(2*i + 2)
	}
	for i := range int64(10) {
		if want := 100 + (i+1)/2; m.Oldest() != want {
			t.Fatalf("Oldest with %d first: %d, not %d", 2*i+1, m.Oldest(), want)
		}
		aborts(t, m, 2*i+1)
	}
	if m.Oldest() != 105 || m.Now() != 105 {
		t.Error(m.Oldest(), m.Now())
	}
}

func TestClone(t *testing.T) { // P10.6: all of the same
	for _, caps := range []api.Caps{usual(), roomy(), {Active: 6, Kept: 2, Reads: 3, Locks: 3}} {
		for seed := range 40 {
			m, want := newModelled(t, caps, 9)
			n := numbers(seed)
			for range 30 {
				want.does(t, m, &n)
			}
			c := m.Clone()
			if c == nil || c == m {
				t.Fatal("no other manager")
			}
			want.want(t, c)
			other := want.clone()
			for range 40 { // each goes its own way
				want.does(t, m, &n)
				other.want(t, c)
				other.does(t, c, &n)
				want.want(t, m)
			}
		}
	}
}

func TestACloneHasAllNotes(t *testing.T) { // P10.6
	m := underWay(t, api.Caps{Active: 4, Kept: 4, Reads: 6, Locks: 4}, 4)
	scans(t, m, 1, "b", "d")
	reads(t, m, 1, "a", "x")
	wantScan(t, m, 1, "u", "", "", api.OK)
	scans(t, m, 2, "c", "")
	commits(t, m, 2, 0)
	wantTracked(t, m, 3, 1, 5, 0)
	c := m.Clone()
	wantTracked(t, c, 3, 1, 5, 0)
	aborts(t, m, 1, 3, 4)
	for key, in := range map[string]bool{"": false, "a": true, "b": true, "c": true, "d": true, "aa": false, "x": true, "y": true} {
		one := c.Clone()
		wantWrite(t, one, 3, at(key), 0, api.OK)
		wantFlags(t, one, 3, in, false)
		wantFlags(t, one, 1, false, key == "a" || key == "b" || key == "c" || key == "x")
	}
	wantWrite(t, c, 3, api.Lock{Table: "u", Key: "k"}, 0, api.OK)
	wantFlags(t, c, 1, false, true)
	reads(t, c, 4, "p", "q") // the caps are the same: 7 notes
	wantTracked(t, c, 3, 1, 5, 1)
}

func TestClonesOfClones(t *testing.T) { // P10.6, R4
	for seed := range 30 {
		n := numbers(seed)
		m, want := newModelled(t, usual(), 0)
		real, models := []*ssi.Manager{m}, []*model{want}
		for range 80 {
			i := n.below(len(real))
			models[i].does(t, real[i], &n)
			if n.below(10) == 0 {
				i = n.below(len(real))
				real, models = append(real, real[i].Clone()), append(models, models[i].clone())
			}
			for i, m := range models {
				m.want(t, real[i])
			}
		}
	}
}
