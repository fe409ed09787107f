package ssi_test

import (
	"testing"

	"keystone/api"
	"keystone/ssi"
)

// tables and keys are texts that begin alike, are empty, or stand at an end of the order of bytes.
func tables() []string {
	return []string{"t", "u", "", "t\x00"}
}

func keys() []string {
	return []string{"a", "b", "", "a\x00", "\xff", "aa", "\x00", "\xff\xff"}
}

// someLock is a row of some few, so that transactions meet.
func someLock(n *numbers) api.Lock {
	return api.Lock{Table: oneOf(n, tables()[:1+n.below(4)]), Key: oneOf(n, keys()[:1+n.below(8)])}
}

// someTx is a transaction that is under way, or, at times, any number.
func (m *model) someTx(n *numbers) int64 {
	if l := m.active(); len(l) > 0 && n.below(30) > 0 {
		return oneOf(n, l)
	}
	return int64(n.below(len(m.all)+3)) - 1
}

// someLast is a commit number that a transaction's snapshot has, or, at times, none that it has.
func (m *model) someLast(tx int64, n *numbers) int64 {
	if who := m.is(tx); who != nil && n.below(25) > 0 {
		return int64(n.below(int(who.snapshot) + 1))
	}
	return m.now + int64(n.below(4)) - 1
}

// does does something with a manager, as the model says that it must go.
func (m *model) does(t *testing.T, real *ssi.Manager, n *numbers) {
	t.Helper()
	tx, x := m.someTx(n), someLock(n)
	switch act := n.below(100); {
	case act < 15:
		m.begins(t, real)
	case act < 40:
		wantRead(t, real, tx, x, m.read(tx, x))
	case act < 52:
		to := someLock(n).Key
		wantScan(t, real, tx, x.Table, x.Key, to, m.scan(tx, x.Table, x.Key, to))
	case act < 80:
		last := m.someLast(tx, n)
		if n.below(40) == 0 {
			last = -1
		}
		wantWrite(t, real, tx, x, last, m.write(tx, x, last))
	case act < 95:
		m.commits(t, real, tx)
	default:
		m.aborts(t, real, tx)
	}
}

func (m *model) begins(t *testing.T, real *ssi.Manager) {
	t.Helper()
	wantTx, wantSnapshot, want := m.begin()
	if tx, snapshot, e := real.Begin(); tx != wantTx || snapshot != wantSnapshot || e != want {
		t.Fatalf("Begin: %d, %d, %v, not %d, %d, %v", tx, snapshot, e, wantTx, wantSnapshot, want)
	}
}

func (m *model) commits(t *testing.T, real *ssi.Manager, tx int64) {
	t.Helper()
	wantNow, want := m.commit(tx)
	if now, e := real.Commit(tx); now != wantNow || e != want {
		t.Fatalf("Commit(%d): %d, %v, not %d, %v", tx, now, e, wantNow, want)
	}
}

func (m *model) aborts(t *testing.T, real *ssi.Manager, tx int64) {
	t.Helper()
	want := api.ErrSsiNone
	if m.is(tx) != nil {
		m.abort(tx)
		want = api.OK
	}
	if e := real.Abort(tx); e != want {
		t.Fatalf("Abort(%d): %v, not %v", tx, e, want)
	}
}
