package ssi_test

import (
	"math"
	"strings"
	"testing"

	"keystone/api"
	"keystone/ssi"
)

// useAll calls all calls of a manager.
func useAll(m *ssi.Manager, tx, last int64, table, key, to string) {
	x := api.Lock{Table: table, Key: key}
	m.Read(tx, x)
	m.Scan(tx, table, key, to)
	m.Write(tx, x, last)
	m.Read(tx, x)
	m.Scan(tx, to, key, table)
	m.Snapshot(tx)
	m.Flags(tx)
	m.Active()
	m.Now()
	m.Oldest()
	m.Tracked()
	c := m.Clone()
	c.Begin()
	c.Write(tx+1, x, last)
	c.Commit(tx)
	c.Abort(tx)
	m.Begin()
	m.Commit(tx)
	m.Abort(tx)
}

func TestNothingPanics(t *testing.T) { // R1
	long := strings.Repeat("\xff", 1<<16)
	many := []int64{math.MinInt64, -1, 0, 1, 2, 3, 7, 50, math.MaxInt64}
	for _, made := range []func() *ssi.Manager{
		func() *ssi.Manager { return nil },
		func() *ssi.Manager { return new(ssi.Manager) },
		func() *ssi.Manager { return underWay(t, api.Caps{Active: 1, Kept: 0, Reads: 1, Locks: 1}, 1) },
		func() *ssi.Manager { return underWay(t, usual(), 3) },
		func() *ssi.Manager { m := newManager(t, roomy(), math.MaxInt64); begins(t, m, 60); return m },
	} {
		m := made()
		for i, tx := range many {
			for j, last := range many {
				for _, key := range []string{"", "a", "\x00", "\xff", long} {
					useAll(m, tx, last, "t", key, "b")
					useAll(m, many[(i+j)%len(many)], last, key, "b", key)
					useAll(m, tx, tx, long, key, "")
				}
			}
		}
	}
}

func TestNewOfAnything(t *testing.T) { // R1, R2: no manager beside an error
	l := []int{math.MinInt, -1, 0, 1, 64, 65, 1024, 1025, 4096, 4097, 65536, 65537, math.MaxInt}
	for _, active := range l {
		for _, kept := range l {
			for _, reads := range l {
				for _, locks := range l {
					is := active >= 1 && active <= 64 && kept >= 0 && kept <= 1024 && reads >= 1 && reads <= 65536 && locks >= 1 && locks <= 4096
					m, e := ssi.New(api.Caps{Active: active, Kept: kept, Reads: reads, Locks: locks}, 0)
					if is != (e == api.OK) || is != (m != nil) || !is && e != api.ErrArg {
						t.Fatalf("New(%d, %d, %d, %d): %v, %v", active, kept, reads, locks, m, e)
					}
				}
			}
		}
	}
}

func TestManagersThatNoCallMade(t *testing.T) { // R5
	for _, m := range []*ssi.Manager{nil, new(ssi.Manager)} {
		for range 2 {
			wantNoBegin(t, m, api.ErrMade)
			for _, tx := range []int64{math.MinInt64, -1, 0, 1, math.MaxInt64} { // ErrMade is ahead of all else
				for _, x := range []api.Lock{{}, at("a")} {
					wantRead(t, m, tx, x, api.ErrMade)
					wantScan(t, m, tx, x.Table, x.Key, "", api.ErrMade)
					wantScan(t, m, tx, x.Table, "b", x.Key, api.ErrMade)
					wantWrite(t, m, tx, x, tx, api.ErrMade)
				}
				wantNoCommit(t, m, tx, api.ErrMade)
				if e := m.Abort(tx); e != api.ErrMade {
					t.Errorf("Abort: %v", e)
				}
				if s, e := m.Snapshot(tx); s != 0 || e != api.ErrMade {
					t.Errorf("Snapshot: %d, %v", s, e)
				}
				if f, e := m.Flags(tx); f != (api.Flags{}) || e != api.ErrMade {
					t.Errorf("Flags: %v, %v", f, e)
				}
			}
			wantActive(t, m)
			wantTracked(t, m, 0, 0, 0, 0)
			if m.Now() != 0 || m.Oldest() != 0 || m.Clone() != nil {
				t.Errorf("Now %d, Oldest %d, Clone %v", m.Now(), m.Oldest(), m.Clone())
			}
		}
	}
}

func TestAnswersAreNewMemory(t *testing.T) { // R3
	m, want := newModelled(t, usual(), 0)
	n := numbers(3)
	for range 200 {
		want.does(t, m, &n)
		l := m.Active()
		l = l[:cap(l)]
		for i := range l {
			l[i] = 77
		}
		want.want(t, m)
	}
}

func TestManagersKnowNothingOfEachOther(t *testing.T) { // R4
	n := numbers(4)
	one, wantOne := newModelled(t, usual(), 0)
	other, wantOther := newModelled(t, usual(), 9)
	for range 300 {
		wantOne.does(t, one, &n)
		wantOther.want(t, other)
		wantOther.does(t, other, &n)
		wantOne.want(t, one)
	}
}

func TestSameActsSameAnswers(t *testing.T) { // R4: not by the order in which a map is gone through
	for range 30 {
		for seed := range 5 {
			n := numbers(seed)
			m, want := newModelled(t, api.Caps{Active: 12, Kept: 6, Reads: 9, Locks: 9}, 0)
			for range 100 {
				want.does(t, m, &n)
				want.want(t, m)
			}
		}
	}
}
