package store

import (
	"iter"

	"keystone/api"
	"keystone/chain"
	"keystone/tree"
	"keystone/tuple"
)

// aboveAll is above the bytes of all keys: they begin with a kind, and none is as great.
const aboveAll = "\xff"

// table is a table's rows, each with its versions.
type table struct {
	as     api.Table              // as it was declared
	rows   *tree.Tree             // from key bytes to the numbers of chains
	chains map[int64]*chain.Chain // by their numbers; none is empty
	given  int64                  // numbers up to this one have been given to chains
}

// newTable is a table without rows.
func newTable(t api.Table, order int) (*table, api.Errno) {
	rows, e := tree.New(order)
	if e != api.OK {
		return nil, e
	}
	return &table{as: copiedTable(t), rows: rows, chains: map[int64]*chain.Chain{}}, api.OK
}

// chain is the versions of the row with some key bytes; nil, if it has none. (In a nil chain no snapshot sees anything.)
func (t *table) chain(k string) *chain.Chain {
	n, there := t.rows.Get(k)
	if !there {
		return nil
	}
	return t.chains[n]
}

// rowOf is what a snapshot sees of a row, by its key bytes and its versions.
func rowOf(k string, c *chain.Chain, at int64) (api.Row, bool) {
	val, is := c.At(at)
	if !is {
		return api.Row{}, false
	}
	key, e := tuple.FromKey(k)
	return api.Row{Key: key, Val: val}, e == api.OK
}

// seen goes through the rows that a snapshot sees, from some key bytes on, below others. It tells what is there when it is gone through: who hands it out remembers its rows.
func (t *table) seen(from, below string, at int64) iter.Seq[api.Row] {
	return func(tell func(api.Row) bool) {
		for k, n := range t.rows.Scan(from, below) {
			if r, is := rowOf(k, t.chains[n], at); is && !tell(r) {
				return
			}
		}
	}
}

// add makes a version of a row by a commit.
func (t *table) add(at int64, x change) {
	c := t.chain(x.key)
	if c == nil {
		c = chain.New()
		t.given++
		t.chains[t.given] = c
		t.rows.Put(x.key, t.given)
	}
	if x.gone {
		c.Drop(at)
	} else {
		c.Put(at, x.val)
	}
}

// collect takes out the versions that no snapshot from one on sees, and tells how many.
func (t *table) collect(oldest int64) int {
	taken := 0
	for k, n := range t.rows.Scan("", aboveAll) {
		c := t.chains[n]
		taken += c.Collect(oldest)
		if c.Len() == 0 {
			delete(t.chains, n)
			t.rows.Delete(k)
		}
	}
	return taken
}
