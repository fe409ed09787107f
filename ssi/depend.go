package ssi

import (
	"maps"
	"sort"

	"keystone/api"
)

// Read notes that a transaction has read a row, or that there is none.
func (m *Manager) Read(tx int64, at api.Lock) api.Errno {
	if e := m.refusal(tx); e != api.OK {
		return e
	}
	if m.holds(tx, at) {
		return api.OK
	}
	writers := m.keptWritersOf(tx, at)
	if holder, held := m.locks.Holder(at); held {
		writers = append(writers, holder)
	}
	return m.note(tx, api.Read{Table: at.Table, Kind: api.RKey, From: at.Key}, writers)
}

// Scan notes that a transaction has read all rows of a table from one key on, below another.
func (m *Manager) Scan(tx int64, table, from, to string) api.Errno {
	if e := m.refusal(tx); e != api.OK {
		return e
	}
	if to != "" && to <= from {
		return api.OK
	}
	writers := append(m.keptWriters(tx, table, from, to), m.locks.Holders(table, from, to)...)
	return m.note(tx, api.Read{Table: table, Kind: api.RRange, From: from, To: to}, writers)
}

// Write lets a transaction write a row whose last commit is told.
func (m *Manager) Write(tx int64, at api.Lock, last int64) api.Errno {
	e := m.refusal(tx)
	switch {
	case e != api.OK:
		return e
	case last < 0:
		return api.ErrArg
	case m.holds(tx, at):
		return api.OK
	}
	e = m.locks.Take(tx, m.active[tx], last, at)
	if e == api.OK && len(m.keptWritersOf(tx, at)) > 0 {
		e = api.ErrLockLate // last does not say so, if the row has no version of what was written
	}
	if e != api.OK {
		m.abort(tx)
		return e
	}
	return m.depend(tx, m.reads.Readers(at.Table, at.Key), api.Flags{In: true}, api.Flags{Out: true})
}

// note notes what a transaction has read, which some have written.
func (m *Manager) note(tx int64, x api.Read, writers []int64) api.Errno {
	if e := m.reads.Note(tx, x); e != api.OK {
		m.abort(tx)
		return e
	}
	return m.depend(tx, writers, api.Flags{Out: true}, api.Flags{In: true})
}

// depend puts in the dependencies between a transaction under way and those of some others that are concurrent with it, each of which gives one flag to the one and one to the other; or, if that may not be, aborts the transaction.
func (m *Manager) depend(tx int64, others []int64, own, theirs api.Flags) api.Errno {
	put, ok := m.try(tx, others, own, theirs)
	if !ok {
		m.abort(tx)
		return api.ErrSsiSerial
	}
	put()
	return api.OK
}

// try tells whether dependencies may be put in, and how; until that is done nothing has changed.
func (m *Manager) try(tx int64, others []int64, own, theirs api.Flags) (put func(), ok bool) {
	then := map[int64]api.Flags{tx: m.flags[tx]}
	for _, other := range others {
		if other != tx && m.isConcurrent(tx, other) {
			then[tx] = with(then[tx], own)
			then[other] = with(m.flags[other], theirs)
		}
	}
	for n, f := range then {
		if both(f) && (n == tx || !m.isActive(n)) { // another one that is under way is asked when it does something itself
			return nil, false
		}
	}
	return func() { maps.Copy(m.flags, then) }, true
}

// isConcurrent tells whether a transaction, under way or kept, is concurrent with one that is under way.
func (m *Manager) isConcurrent(tx, other int64) bool {
	return m.isActive(other) || tx <= m.kept[other].begun
}

// keptWritersOf are those kept that are concurrent with a transaction under way, and have written a row.
func (m *Manager) keptWritersOf(tx int64, at api.Lock) []int64 {
	return m.keptWriters(tx, at.Table, at.Key, at.Key+"\x00") // no key is between these two
}

// keptWriters are those kept that are concurrent with a transaction under way, and have written a row of a table from one key on, below another.
func (m *Manager) keptWriters(tx int64, table, from, to string) []int64 {
	var l []int64
	for other, p := range m.kept {
		if m.isConcurrent(tx, other) && p.wroteIn(table, from, to) {
			l = append(l, other)
		}
	}
	return l
}

// wroteIn tells whether it has written a row of a table from one key on, below another; without an end, if that is empty.
func (p past) wroteIn(table, from, to string) bool {
	i := sort.Search(len(p.wrote), func(i int) bool {
		at := p.wrote[i]
		return at.Table > table || at.Table == table && at.Key >= from
	})
	return i < len(p.wrote) && p.wrote[i].Table == table && (to == "" || p.wrote[i].Key < to)
}

// holds tells whether a transaction holds a lock.
func (m *Manager) holds(tx int64, at api.Lock) bool {
	holder, held := m.locks.Holder(at)
	return held && holder == tx
}

// with is the flags that are in one of two.
func with(a, b api.Flags) api.Flags {
	return api.Flags{In: a.In || b.In, Out: a.Out || b.Out}
}

// both tells whether the flags are those of a pivot.
func both(f api.Flags) bool {
	return f.In && f.Out
}
