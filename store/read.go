package store

import (
	"iter"
	"slices"

	"keystone/api"
)

// Get is the row with a key, as a snapshot sees it; false, if it sees none.
func (s *Store) Get(table string, key []api.Value, at int64) (api.Row, bool, api.Errno) {
	t, k, e := s.find(table, key)
	if e != api.OK {
		return api.Row{}, false, e
	}
	if !s.there(at) {
		return api.Row{}, false, api.ErrCommit
	}
	r, is := rowOf(k, t.chain(k), at)
	return r, is, api.OK
}

// Next is the first row that a snapshot sees whose key's beginning is above another, or, if not beyond, not below it; false, if there is none.
func (s *Store) Next(table string, from []api.Value, beyond bool, at int64) (api.Row, bool, api.Errno) {
	t, e := s.table(table)
	if e != api.OK {
		return api.Row{}, false, e
	}
	k, e := t.beginningBytes(from)
	if e != api.OK {
		return api.Row{}, false, e
	}
	if !s.there(at) {
		return api.Row{}, false, api.ErrCommit
	}
	if beyond {
		k = above(k)
	}
	r, is := first(t.seen(k, aboveAll, at))
	return r, is, api.OK
}

// first is the first row that is told; false, if none is.
func first(rows iter.Seq[api.Row]) (api.Row, bool) {
	for r := range rows {
		return r, true
	}
	return api.Row{}, false
}

// Scan goes through the rows that a snapshot sees, from the keys on whose beginning is one, up to those whose beginning is another.
func (s *Store) Scan(table string, from, to []api.Value, at int64) iter.Seq[api.Row] {
	// What is done behind this call may take out the snapshot, so the rows are remembered.
	l := s.between(table, from, to, at)
	return func(tell func(api.Row) bool) {
		for _, r := range l {
			if !tell(copiedRow(r)) {
				return
			}
		}
	}
}

// between are the rows that a scan tells.
func (s *Store) between(table string, from, to []api.Value, at int64) []api.Row {
	t, e := s.table(table)
	if e != api.OK {
		return nil
	}
	low, wrongFrom := t.beginningBytes(from)
	high, wrongTo := t.beginningBytes(to)
	if wrongFrom != api.OK || wrongTo != api.OK || !s.there(at) {
		return nil
	}
	return slices.Collect(t.seen(low, above(high), at))
}

// Newest is the commit that made the last version of a row; 0, if it has none.
func (s *Store) Newest(table string, key []api.Value) (int64, api.Errno) {
	t, k, e := s.find(table, key)
	if e != api.OK {
		return 0, e
	}
	return t.chain(k).Last(), api.OK
}

// Content is all rows that a snapshot sees, table by table.
func (s *Store) Content(at int64) ([]api.Content, api.Errno) {
	if !s.made() {
		return nil, api.ErrMade
	}
	if !s.there(at) {
		return nil, api.ErrCommit
	}
	var l []api.Content
	for _, t := range s.tables {
		l = append(l, api.Content{Table: t.as.Name, Rows: slices.Collect(t.seen("", aboveAll, at))})
	}
	return l, api.OK
}

// table is the table of a name.
func (s *Store) table(name string) (*table, api.Errno) {
	if !s.made() {
		return nil, api.ErrMade
	}
	t := s.byName[name]
	if t == nil {
		return nil, api.ErrTable
	}
	return t, api.OK
}

// find is a table, and the bytes of a key of it.
func (s *Store) find(name string, key []api.Value) (*table, string, api.Errno) {
	t, e := s.table(name)
	if e != api.OK {
		return nil, "", e
	}
	k, e := t.keyBytes(key)
	if e != api.OK {
		return nil, "", e
	}
	return t, k, api.OK
}

// copiedRow is a row as new memory.
func copiedRow(r api.Row) api.Row {
	return api.Row{Key: slices.Clone(r.Key), Val: slices.Clone(r.Val)}
}
