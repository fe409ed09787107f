package ssi_test

import (
	"slices"
	"testing"

	"keystone/api"
	"keystone/ssi"
)

// numbers tells one number behind the other, always the same ones.
type numbers uint64

func (n *numbers) below(most int) int {
	*n = *n*6364136223846793005 + 1442695040888963407
	return int(uint64(*n)>>33) % most
}

// oneOf is one of some things.
func oneOf[T any](n *numbers, l []T) T {
	return l[n.below(len(l))]
}

func usual() api.Caps {
	return api.Caps{Active: 4, Kept: 4, Reads: 10, Locks: 10}
}

// roomy are caps that nothing here comes to.
func roomy() api.Caps {
	return api.Caps{Active: api.MaxActive, Kept: api.MaxKept, Reads: api.MaxNotes, Locks: api.MaxLocks}
}

func at(key string) api.Lock {
	return api.Lock{Table: "t", Key: key}
}

func newManager(t *testing.T, caps api.Caps, now int64) *ssi.Manager {
	t.Helper()
	m, e := ssi.New(caps, now)
	if m == nil || e != api.OK {
		t.Fatalf("New(%v, %d): %v, %v", caps, now, m, e)
	}
	return m
}

// underWay is a manager with some transactions, the number 1 first.
func underWay(t *testing.T, caps api.Caps, many int) *ssi.Manager {
	t.Helper()
	m := newManager(t, caps, 0)
	begins(t, m, many)
	return m
}

func begins(t *testing.T, m *ssi.Manager, many int) {
	t.Helper()
	for range many {
		if _, _, e := m.Begin(); e != api.OK {
			t.Fatalf("Begin: %v", e)
		}
	}
}

func wantBegin(t *testing.T, m *ssi.Manager, tx, snapshot int64) {
	t.Helper()
	if n, s, e := m.Begin(); n != tx || s != snapshot || e != api.OK {
		t.Fatalf("Begin: %d, %d, %v, not %d, %d", n, s, e, tx, snapshot)
	}
}

func wantNoBegin(t *testing.T, m *ssi.Manager, want api.Errno) {
	t.Helper()
	if n, s, e := m.Begin(); n != 0 || s != 0 || e != want {
		t.Fatalf("Begin: %d, %d, %v, not %v", n, s, e, want)
	}
}

func wantRead(t *testing.T, m *ssi.Manager, tx int64, x api.Lock, want api.Errno) {
	t.Helper()
	if e := m.Read(tx, x); e != want {
		t.Fatalf("Read(%d, %q): %v, not %v", tx, x, e, want)
	}
}

func wantScan(t *testing.T, m *ssi.Manager, tx int64, table, from, to string, want api.Errno) {
	t.Helper()
	if e := m.Scan(tx, table, from, to); e != want {
		t.Fatalf("Scan(%d, %q, %q, %q): %v, not %v", tx, table, from, to, e, want)
	}
}

func wantWrite(t *testing.T, m *ssi.Manager, tx int64, x api.Lock, last int64, want api.Errno) {
	t.Helper()
	if e := m.Write(tx, x, last); e != want {
		t.Fatalf("Write(%d, %q, %d): %v, not %v", tx, x, last, e, want)
	}
}

// reads, scans and writes are such as are taken.
func reads(t *testing.T, m *ssi.Manager, tx int64, keys ...string) {
	t.Helper()
	for _, k := range keys {
		wantRead(t, m, tx, at(k), api.OK)
	}
}

func scans(t *testing.T, m *ssi.Manager, tx int64, from, to string) {
	t.Helper()
	wantScan(t, m, tx, "t", from, to, api.OK)
}

func writes(t *testing.T, m *ssi.Manager, tx int64, keys ...string) {
	t.Helper()
	for _, k := range keys {
		wantWrite(t, m, tx, at(k), 0, api.OK)
	}
}

func commits(t *testing.T, m *ssi.Manager, tx, want int64) {
	t.Helper()
	if n, e := m.Commit(tx); n != want || e != api.OK {
		t.Fatalf("Commit(%d): %d, %v, not %d", tx, n, e, want)
	}
}

func wantNoCommit(t *testing.T, m *ssi.Manager, tx int64, want api.Errno) {
	t.Helper()
	if n, e := m.Commit(tx); n != 0 || e != want {
		t.Fatalf("Commit(%d): %d, %v, not %v", tx, n, e, want)
	}
}

func aborts(t *testing.T, m *ssi.Manager, l ...int64) {
	t.Helper()
	for _, tx := range l {
		if e := m.Abort(tx); e != api.OK {
			t.Fatalf("Abort(%d): %v", tx, e)
		}
	}
}

func wantFlags(t *testing.T, m *ssi.Manager, tx int64, in, out bool) {
	t.Helper()
	if f, e := m.Flags(tx); f != (api.Flags{In: in, Out: out}) || e != api.OK {
		t.Fatalf("Flags(%d): %v, %v, not %v, %v", tx, f, e, in, out)
	}
}

func wantActive(t *testing.T, m *ssi.Manager, want ...int64) {
	t.Helper()
	if l := m.Active(); !slices.Equal(l, want) {
		t.Fatalf("Active: %v, not %v", l, want)
	}
}

func wantTracked(t *testing.T, m *ssi.Manager, active, kept, reads, locks int) {
	t.Helper()
	want := api.Tracked{Active: active, Kept: kept, Reads: reads, Locks: locks}
	if got := m.Tracked(); got != want {
		t.Fatalf("Tracked: %+v, not %+v", got, want)
	}
}

// wantOver holds that a transaction is under way no more: none of its calls is taken.
func wantOver(t *testing.T, m *ssi.Manager, tx int64) {
	t.Helper()
	if slices.Contains(m.Active(), tx) {
		t.Fatalf("%d is under way", tx)
	}
	wantRead(t, m, tx, at("a"), api.ErrSsiNone)
	wantScan(t, m, tx, "t", "", "", api.ErrSsiNone)
	wantWrite(t, m, tx, at("a"), 0, api.ErrSsiNone)
	wantNoCommit(t, m, tx, api.ErrSsiNone)
	if e := m.Abort(tx); e != api.ErrSsiNone {
		t.Fatalf("Abort(%d): %v", tx, e)
	}
	if s, e := m.Snapshot(tx); s != 0 || e != api.ErrSsiNone {
		t.Fatalf("Snapshot(%d): %d, %v", tx, s, e)
	}
	if f, e := m.Flags(tx); f != (api.Flags{}) || e != api.ErrSsiNone {
		t.Fatalf("Flags(%d): %v, %v", tx, f, e)
	}
}

// pivot has a transaction, under way beside two others, read what the first of these writes, and write what the second one reads: it has both flags, each of the others one.
func pivot(t *testing.T, m *ssi.Manager, tx, writer, reader int64) {
	t.Helper()
	reads(t, m, tx, "pivot reads")
	writes(t, m, writer, "pivot reads")
	writes(t, m, tx, "pivot writes")
	reads(t, m, reader, "pivot writes")
	wantFlags(t, m, tx, true, true)
}
