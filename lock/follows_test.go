package lock_test

import (
	"testing"

	"keystone/api"
	"keystone/lock"
)

func TestFixedScripts(t *testing.T) { // P8.2 to P8.5
	for seed := range 30 {
		n := numbers(seed)
		most := 1 + n.below(60)
		m, want := newManager(t, most), &model{most: most}
		for step := range 150 {
			want.does(t, m, &n)
			want.want(t, m)
			want.wantHolders(t, m, step%len(tables()))
		}
	}
}

// holdersOf are who holds each lock; 0: nobody.
func holdersOf(m *lock.Manager) []int64 {
	var l []int64
	for _, x := range locks() {
		tx, _ := m.Holder(x)
		l = append(l, tx)
	}
	return l
}

func TestWhatIsHeldStaysHeld(t *testing.T) { // P8.5
	n := numbers(85)
	m := newManager(t, 70)
	for range 2000 {
		was := holdersOf(m)
		tx, released := 1+int64(n.below(6)), n.below(20) == 0
		if released {
			m.Release(tx)
		} else {
			m.Take(tx, int64(n.below(4)), int64(n.below(4)), oneOf(&n, locks()))
		}
		for i, now := range holdersOf(m) {
			if was[i] != 0 && now != was[i] && !(released && was[i] == tx && now == 0) {
				t.Fatalf("%q was held by %d, and is held by %d", locks()[i], was[i], now)
			}
		}
	}
}

// race is what two transactions do with one row. What one that commits has locked becomes another row.
type race struct {
	m        *lock.Manager
	now      int64 // the last commit number
	last     int64 // the row's last commit
	snapshot [2]int64
	holds    [2]bool
	wrote    [2]bool // whether it has committed the row with the snapshot that it has
}

// does is one act of a race: who takes, commits, or leaves it.
func (r *race) does(act int) api.Errno {
	who := act % 2
	tx := int64(who + 1)
	switch act / 2 {
	case 0:
		e := r.m.Take(tx, r.snapshot[who], r.last, at("a"))
		r.holds[who] = r.holds[who] || e == api.OK
		return e
	case 1:
		r.now++
		if r.m.Release(tx) > 0 {
			r.last = r.now
			r.wrote[who] = true
		}
	case 2:
		r.m.Release(tx)
	}
	r.holds[who] = false
	return api.OK
}

// wantFirst holds what an act has come to against what must be.
func (r *race) wantFirst(t *testing.T, acts []int) {
	t.Helper()
	if r.holds[0] && r.holds[1] {
		t.Fatalf("%v: both hold it", acts)
	}
	if r.wrote[0] && r.wrote[1] {
		t.Fatalf("%v: both have written it", acts)
	}
	for who := range 2 {
		if r.holds[who] && r.wrote[1-who] {
			t.Fatalf("%v: one holds what the other one has written", acts)
		}
	}
}

// wantLater has both ask again with the snapshot that there is now: just one of them takes the row.
func (r *race) wantLater(t *testing.T, acts []int) {
	t.Helper()
	for _, act := range []int{4, 5} {
		r.does(act)
	}
	r.snapshot = [2]int64{r.now, r.now}
	if a, b := r.does(0), r.does(1); a != api.OK || b != api.ErrLockHeld {
		t.Fatalf("%v, and a later snapshot: %v, %v", acts, a, b)
	}
}

func TestFirstCommitterWins(t *testing.T) { // P8.6: whatever two do, in six acts
	const many = 6
	for _, start := range []race{{}, {now: 5, last: 5, snapshot: [2]int64{5, 5}}, {now: 9, last: 4, snapshot: [2]int64{9, 9}}, {now: 9, last: 4, snapshot: [2]int64{6, 6}}} {
		for script := range many * many * many * many * many * many {
			r := start
			r.m = newManager(t, 4)
			var acts []int
			for range 6 {
				acts = append(acts, script%many)
				script /= many
				r.does(acts[len(acts)-1])
				r.wantFirst(t, acts)
			}
			r.wantLater(t, acts)
		}
	}
}

func TestARowThatBecameAnotherOne(t *testing.T) { // P8.2, P8.6
	m := newManager(t, 4)
	wantTake(t, m, 1, 5, 5, at("a"), api.OK)
	wantTake(t, m, 2, 5, 5, at("a"), api.ErrLockHeld)
	wantRelease(t, m, 1, 1) // as its commit 6
	for snapshot := range int64(6) {
		wantTake(t, m, 2, snapshot, 6, at("a"), api.ErrLockLate)
	}
	if m.Len() != 0 {
		t.Error("a lock of a row that became another one")
	}
	wantTake(t, m, 2, 6, 6, at("a"), api.OK)
}
