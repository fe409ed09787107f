package siread

import (
	"cmp"
	"slices"
	"strings"

	"keystone/api"
)

// Readers are the transactions that have a note of which a key is one, rising.
func (r *Reads) Readers(table, key string) []int64 {
	x := api.Read{Table: table, Kind: api.RKey, From: key}
	var l []int64
	for txn, tables := range r.all() {
		if tables[table].cover(x) {
			l = append(l, txn)
		}
	}
	slices.Sort(l)
	return l
}

// Of are the notes of a transaction, in their order.
func (r *Reads) Of(txn int64) []api.Read {
	var l []api.Read
	for _, some := range r.all()[txn] {
		for _, x := range some {
			l = append(l, *x)
		}
	}
	slices.SortFunc(l, func(a, b api.Read) int {
		return cmp.Or(strings.Compare(a.Table, b.Table), cmp.Compare(a.Kind, b.Kind), strings.Compare(a.From, b.From), strings.Compare(a.To, b.To))
	})
	return l
}

// Txns are the transactions that have notes, rising.
func (r *Reads) Txns() []int64 {
	var l []int64
	for txn := range r.all() {
		l = append(l, txn)
	}
	slices.Sort(l)
	return l
}
