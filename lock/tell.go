package lock

import (
	"cmp"
	"slices"
	"strings"

	"keystone/api"
)

// Holder is the transaction that holds a lock; false, if none does.
func (m *Manager) Holder(at api.Lock) (int64, bool) {
	tx, held := m.all()[at]
	return tx, held
}

// Holders are the transactions that hold a lock of a table from one key on, below another, rising, each once.
func (m *Manager) Holders(table, from, to string) []int64 {
	var l []int64
	for at, tx := range m.all() {
		if at.Table == table && isIn(at.Key, from, to) {
			l = append(l, tx)
		}
	}
	slices.Sort(l)
	return slices.Compact(l)
}

// Held are the locks that a transaction holds, in their order.
func (m *Manager) Held(tx int64) []api.Lock {
	var l []api.Lock
	for at, holder := range m.all() {
		if holder == tx {
			l = append(l, at)
		}
	}
	slices.SortFunc(l, compare)
	return l
}

// Len is how many locks are held.
func (m *Manager) Len() int {
	return len(m.all())
}

// isIn tells whether a key is from one on, below another. As no key is below the empty one, that one says that there is no end.
func isIn(key, from, to string) bool {
	return from <= key && (to == "" || key < to)
}

// compare tells which of two locks stands ahead.
func compare(a, b api.Lock) int {
	return cmp.Or(strings.Compare(a.Table, b.Table), strings.Compare(a.Key, b.Key))
}
