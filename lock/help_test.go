package lock_test

import (
	"slices"
	"testing"

	"keystone/api"
	"keystone/lock"
)

// numbers tells one number behind the other, always the same ones.
type numbers uint64

func (n *numbers) below(most int) int {
	*n = *n*6364136223846793005 + 1442695040888963407
	return int(uint64(*n)>>33) % most
}

// oneOf is one of some things.
func oneOf[T any](n *numbers, l []T) T {
	return l[n.below(len(l))]
}

// tables and keys are texts as they are ordered, written out so that the tests have their order from nowhere else.
func tables() []string {
	return []string{"", "\x00", "t", "t\x00", "ta", "u", "\xff"}
}

func keys() []string {
	return []string{"", "\x00", "\x00\x00", "\x00\xff", "A", "a", "a\x00", "aa", "ab", "b", "z\xff", "\x80", "\xc3\xa4", "\xff", "\xff\x00", "\xff\xff"}
}

// locks are those of all tables and keys, as they are ordered.
func locks() []api.Lock {
	var l []api.Lock
	for _, x := range tables() {
		for _, k := range keys() {
			l = append(l, api.Lock{Table: x, Key: k})
		}
	}
	return l
}

func at(key string) api.Lock {
	return api.Lock{Table: "t", Key: key}
}

func newManager(t *testing.T, most int) *lock.Manager {
	t.Helper()
	m, e := lock.New(most)
	if m == nil || e != api.OK {
		t.Fatalf("New(%d): %v, %v", most, m, e)
	}
	return m
}

func wantTake(t *testing.T, m *lock.Manager, tx, snapshot, last int64, x api.Lock, want api.Errno) {
	t.Helper()
	if e := m.Take(tx, snapshot, last, x); e != want {
		t.Fatalf("Take(%d, %d, %d, %q): %v, not %v", tx, snapshot, last, x, e, want)
	}
}

// takes takes locks of rows that nobody has written.
func takes(t *testing.T, m *lock.Manager, tx int64, l ...api.Lock) {
	t.Helper()
	for _, x := range l {
		wantTake(t, m, tx, 0, 0, x, api.OK)
	}
}

func wantRelease(t *testing.T, m *lock.Manager, tx int64, want int) {
	t.Helper()
	if n := m.Release(tx); n != want {
		t.Fatalf("Release(%d): %d, not %d", tx, n, want)
	}
}

// model is the locks that must be held, by their numbers among all locks, in the order in which they were taken.
type model struct {
	most  int
	taken []taken
}

type taken struct {
	lock int
	tx   int64
}

func (m *model) holder(i int) int64 {
	for _, x := range m.taken {
		if x.lock == i {
			return x.tx
		}
	}
	return 0
}

// takes takes a lock of the real manager, too, and holds the answers against each other.
func (m *model) takes(t *testing.T, real *lock.Manager, tx, snapshot, last int64, i int) {
	t.Helper()
	want := api.OK
	if holder := m.holder(i); holder != 0 && holder != tx {
		want = api.ErrLockHeld
	} else if holder == 0 && last > snapshot {
		want = api.ErrLockLate
	} else if holder == 0 && len(m.taken) == m.most {
		want = api.ErrFull
	} else if holder == 0 {
		m.taken = append(m.taken, taken{i, tx})
	}
	wantTake(t, real, tx, snapshot, last, locks()[i], want)
}

// releases releases the locks of the real manager, too, and holds the answers against each other.
func (m *model) releases(t *testing.T, real *lock.Manager, tx int64) {
	t.Helper()
	var left []taken
	for _, x := range m.taken {
		if x.tx != tx {
			left = append(left, x)
		}
	}
	wantRelease(t, real, tx, len(m.taken)-len(left))
	m.taken = left
}

// held are a transaction's locks, in their order.
func (m *model) held(tx int64) []api.Lock {
	var l []api.Lock
	for i, x := range locks() {
		if tx != 0 && m.holder(i) == tx {
			l = append(l, x)
		}
	}
	return l
}

// holders are those that hold one of a table's locks, from the number of one key on, below that of another.
func (m *model) holders(table, from, to int) []int64 {
	var l []int64
	for tx := int64(1); tx < 9; tx++ {
		for i := from; i < to; i++ {
			if m.holder(table*len(keys())+i) == tx {
				l = append(l, tx)
				break
			}
		}
	}
	return l
}

// want holds what a manager tells, but for the ranges, against what it must tell.
func (m *model) want(t *testing.T, real *lock.Manager) {
	t.Helper()
	if real.Len() != len(m.taken) {
		t.Fatalf("Len: %d, not %d", real.Len(), len(m.taken))
	}
	for i, x := range locks() {
		tx, held := real.Holder(x)
		if want := m.holder(i); tx != want || held != (want != 0) {
			t.Fatalf("Holder(%q): %d, %v, not %d", x, tx, held, want)
		}
	}
	for tx := int64(-1); tx < 10; tx++ {
		if l := real.Held(tx); !slices.Equal(l, m.held(tx)) {
			t.Fatalf("Held(%d): %q, not %q", tx, l, m.held(tx))
		}
	}
}

// wantHolders holds what a manager tells of a table's ranges against what it must tell.
func (m *model) wantHolders(t *testing.T, real *lock.Manager, table int) {
	t.Helper()
	for i, from := range keys() {
		for j, to := range keys() {
			if to == "" {
				j = len(keys())
			}
			if l := real.Holders(tables()[table], from, to); !slices.Equal(l, m.holders(table, i, j)) {
				t.Fatalf("Holders(%q, %q, %q): %v, not %v", tables()[table], from, to, l, m.holders(table, i, j))
			}
		}
	}
}

// wantAll holds all that a manager tells against what it must tell.
func (m *model) wantAll(t *testing.T, real *lock.Manager) {
	t.Helper()
	m.want(t, real)
	for table := range tables() {
		m.wantHolders(t, real, table)
	}
}

// does takes or releases something.
func (m *model) does(t *testing.T, real *lock.Manager, n *numbers) {
	t.Helper()
	tx := 1 + int64(n.below(8))
	if n.below(12) == 0 {
		m.releases(t, real, tx)
		return
	}
	m.takes(t, real, tx, int64(n.below(9)), int64(n.below(3)), n.below(len(locks())))
}
