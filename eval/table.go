package eval

import (
	"slices"
	"sort"

	"keystone/api"
)

// maxBlock is how many rows a block has at most.
const maxBlock = 256

// table is a table's rows as a run has them, rising by their keys, in blocks, none of which is empty: so a row that comes or goes moves no more than those of its block. Keys and values in it never change.
type table struct {
	blocks [][]api.Row
}

// place is a block, and a row of it; at the end of a table it is the block behind the last one.
type place struct {
	block, row int
}

func newTable(l []api.Row) *table {
	t := &table{}
	for some := range slices.Chunk(l, maxBlock) {
		t.blocks = append(t.blocks, copied(some))
	}
	return t
}

// first is the place of the first row whose key is such as is asked for, where all keys above one that is such are so, too.
func (t *table) first(such func(key []api.Value) bool) place {
	i := sort.Search(len(t.blocks), func(i int) bool {
		b := t.blocks[i]
		return such(b[len(b)-1].Key)
	})
	if i == len(t.blocks) {
		return place{i, 0}
	}
	b := t.blocks[i]
	return place{i, sort.Search(len(b), func(j int) bool { return such(b[j].Key) })}
}

func (t *table) isEnd(at place) bool {
	return at.block == len(t.blocks)
}

// row is the one at a place that is not the end.
func (t *table) row(at place) api.Row {
	return t.blocks[at.block][at.row]
}

// find is the place of a key's row; false, if there is none: the place ahead of which it would stand.
func (t *table) find(key []api.Value) (place, bool) {
	at := t.first(func(k []api.Value) bool { return held(k, key) >= 0 })
	return at, !t.isEnd(at) && held(t.row(at).Key, key) == 0
}

// put puts a row at the place that find has told for its key.
func (t *table) put(at place, is bool, row api.Row) {
	if is {
		t.blocks[at.block][at.row] = row
	} else {
		t.insert(at, row)
	}
}

// insert puts a row ahead of a place.
func (t *table) insert(at place, row api.Row) {
	if len(t.blocks) == 0 {
		t.blocks = [][]api.Row{{row}}
		return
	}
	if t.isEnd(at) {
		at.block--
		at.row = len(t.blocks[at.block])
	}
	b := slices.Insert(t.blocks[at.block], at.row, row)
	if len(b) > maxBlock {
		half := len(b) / 2
		t.blocks = slices.Insert(t.blocks, at.block+1, copied(b[half:]))
		b = b[:half]
	}
	t.blocks[at.block] = b
}

func (t *table) remove(at place) {
	b := slices.Delete(t.blocks[at.block], at.row, at.row+1)
	t.blocks[at.block] = b
	if len(b) == 0 {
		t.blocks = slices.Delete(t.blocks, at.block, at.block+1)
	}
}

// all are copies of the rows.
func (t *table) all() []api.Row {
	var l []api.Row
	for _, b := range t.blocks {
		for _, row := range b {
			l = append(l, copyRow(row))
		}
	}
	return l
}

func copyRow(row api.Row) api.Row {
	return api.Row{Key: copied(row.Key), Val: copied(row.Val)}
}

// copied is a list of its own, as long as another one.
func copied[T any](l []T) []T {
	return append([]T(nil), l...)
}
