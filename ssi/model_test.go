package ssi_test

import (
	"maps"
	"slices"
	"testing"

	"keystone/api"
	"keystone/siread"
	"keystone/ssi"
)

// model is what a manager must be, told as the chapter tells it: all transactions that ever began, when they began and ended, and nothing worked out ahead.
type model struct {
	caps  api.Caps
	now   int64
	clock int // how many transactions have begun or ended
	all   []*acts
	notes *siread.Reads
}

// acts are what a transaction has done.
type acts struct {
	snapshot int64
	began    int
	ended    int // 0: it is under way
	kept     bool
	flags    api.Flags
	wrote    map[api.Lock]bool
}

func newModel(caps api.Caps, now int64) *model {
	notes, _ := siread.New(caps.Reads)
	return &model{caps: caps, now: now, notes: notes}
}

// newModelled is a manager, and what it must be.
func newModelled(t *testing.T, caps api.Caps, now int64) (*ssi.Manager, *model) {
	t.Helper()
	return newManager(t, caps, now), newModel(caps, now)
}

func (m *model) clone() *model {
	c := *m
	c.all = nil
	for _, x := range m.all {
		y := *x
		y.wrote = maps.Clone(x.wrote)
		c.all = append(c.all, &y)
	}
	c.notes, _ = siread.New(m.caps.Reads)
	for _, tx := range m.notes.Txns() {
		for _, x := range m.notes.Of(tx) {
			c.notes.Note(tx, x)
		}
	}
	return &c
}

// is is a transaction that is under way; nil, if there is none of that number.
func (m *model) is(tx int64) *acts {
	if tx < 1 || tx > int64(len(m.all)) || m.all[tx-1].ended != 0 {
		return nil
	}
	return m.all[tx-1]
}

func (m *model) active() []int64 {
	var l []int64
	for i, x := range m.all {
		if x.ended == 0 {
			l = append(l, int64(i+1))
		}
	}
	return l
}

func (m *model) keptOnes() int {
	n := 0
	for _, x := range m.all {
		if x.kept {
			n++
		}
	}
	return n
}

func (m *model) locks() int {
	n := 0
	for _, x := range m.all {
		if x.ended == 0 {
			n += len(x.wrote)
		}
	}
	return n
}

func concurrent(a, b *acts) bool {
	return (b.ended == 0 || a.began < b.ended) && (a.ended == 0 || b.began < a.ended)
}

// others are those that a transaction can depend on: under way or kept, and concurrent with it.
func (m *model) others(tx int64) []int64 {
	var l []int64
	for i, x := range m.all {
		if int64(i+1) != tx && (x.ended == 0 || x.kept) && concurrent(x, m.all[tx-1]) {
			l = append(l, int64(i+1))
		}
	}
	return l
}

func (m *model) end(tx int64) {
	m.clock++
	m.all[tx-1].ended = m.clock
	for i, x := range m.all {
		if !x.kept {
			continue
		}
		x.kept = slices.ContainsFunc(m.active(), func(other int64) bool { return concurrent(x, m.all[other-1]) })
		if !x.kept {
			m.notes.Drop(int64(i + 1))
		}
	}
}

func (m *model) abort(tx int64) {
	m.notes.Drop(tx)
	x := m.all[tx-1]
	x.wrote, x.flags = nil, api.Flags{}
	m.end(tx)
}

func (m *model) begin() (int64, int64, api.Errno) {
	if len(m.active()) == m.caps.Active {
		return 0, 0, api.ErrFull
	}
	m.clock++
	m.all = append(m.all, &acts{snapshot: m.now, began: m.clock, wrote: map[api.Lock]bool{}})
	return int64(len(m.all)), m.now, api.OK
}

// putIn puts in dependencies between a transaction and some others, if it may.
func (m *model) putIn(tx int64, others []int64, writes bool) api.Errno {
	var was []api.Flags
	for _, x := range m.all {
		was = append(was, x.flags)
	}
	for _, other := range others {
		reader, writer := m.all[tx-1], m.all[other-1]
		if writes {
			reader, writer = writer, reader
		}
		reader.flags.Out, writer.flags.In = true, true
	}
	for i, x := range m.all {
		if x.flags.In && x.flags.Out && (int64(i+1) == tx || x.kept) {
			for i, x := range m.all {
				x.flags = was[i]
			}
			m.abort(tx)
			return api.ErrSsiSerial
		}
	}
	return api.OK
}

func (m *model) read(tx int64, x api.Lock) api.Errno {
	who := m.is(tx)
	if who == nil {
		return api.ErrSsiNone
	}
	if who.wrote[x] {
		return api.OK
	}
	return m.note(tx, api.Read{Table: x.Table, Kind: api.RKey, From: x.Key}, func(y api.Lock) bool { return y == x })
}

func (m *model) scan(tx int64, table, from, to string) api.Errno {
	if m.is(tx) == nil {
		return api.ErrSsiNone
	}
	if to != "" && to <= from {
		return api.OK
	}
	return m.note(tx, api.Read{Table: table, Kind: api.RRange, From: from, To: to}, func(y api.Lock) bool {
		return y.Table == table && y.Key >= from && (to == "" || y.Key < to)
	})
}

func (m *model) note(tx int64, x api.Read, is func(api.Lock) bool) api.Errno {
	if e := m.notes.Note(tx, x); e != api.OK {
		m.abort(tx)
		return e
	}
	var writers []int64
	for _, other := range m.others(tx) {
		for y := range m.all[other-1].wrote {
			if is(y) {
				writers = append(writers, other)
			}
		}
	}
	return m.putIn(tx, writers, false)
}

func (m *model) write(tx int64, x api.Lock, last int64) api.Errno {
	who := m.is(tx)
	switch {
	case who == nil:
		return api.ErrSsiNone
	case last < 0:
		return api.ErrArg
	case who.wrote[x]:
		return api.OK
	}
	if e := m.take(tx, x, last); e != api.OK {
		m.abort(tx)
		return e
	}
	who.wrote[x] = true
	var readers []int64
	for _, other := range m.others(tx) {
		if slices.Contains(m.notes.Readers(x.Table, x.Key), other) {
			readers = append(readers, other)
		}
	}
	return m.putIn(tx, readers, true)
}

// take is why a transaction may not write a row.
func (m *model) take(tx int64, x api.Lock, last int64) api.Errno {
	e := api.OK
	for _, other := range m.others(tx) {
		if m.all[other-1].wrote[x] && m.all[other-1].ended == 0 {
			return api.ErrLockHeld
		} else if m.all[other-1].wrote[x] {
			e = api.ErrLockLate
		}
	}
	if last > m.all[tx-1].snapshot {
		return api.ErrLockLate
	}
	if m.locks() == m.caps.Locks {
		return api.ErrFull
	}
	return e
}

func (m *model) commit(tx int64) (int64, api.Errno) {
	who := m.is(tx)
	if who == nil {
		return 0, api.ErrSsiNone
	}
	if who.flags.In && who.flags.Out {
		m.abort(tx)
		return 0, api.ErrSsiSerial
	}
	beside := len(m.active()) > 1
	did := len(who.wrote) > 0 || len(m.notes.Of(tx)) > 0
	if beside && did && m.keptOnes() == m.caps.Kept {
		m.abort(tx)
		return 0, api.ErrFull
	}
	if len(who.wrote) > 0 {
		m.now++
	}
	if who.kept = beside && did; !who.kept {
		m.notes.Drop(tx)
	}
	m.end(tx)
	return m.now, api.OK
}

// want holds all that a manager tells against what it must tell.
func (m *model) want(t *testing.T, real *ssi.Manager) {
	t.Helper()
	active := m.active()
	wantActive(t, real, active...)
	wantTracked(t, real, len(active), m.keptOnes(), m.notes.Len(), m.locks())
	oldest := m.now
	for _, tx := range active {
		x := m.all[tx-1]
		oldest = min(oldest, x.snapshot)
		wantFlags(t, real, tx, x.flags.In, x.flags.Out)
		if s, e := real.Snapshot(tx); s != x.snapshot || e != api.OK {
			t.Fatalf("Snapshot(%d): %d, %v, not %d", tx, s, e, x.snapshot)
		}
	}
	if real.Now() != m.now || real.Oldest() != oldest {
		t.Fatalf("Now %d, Oldest %d, not %d, %d", real.Now(), real.Oldest(), m.now, oldest)
	}
}
