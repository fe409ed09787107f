package store

import "keystone/api"

// change is a write of a table that there is, which fits it.
type change struct {
	table *table
	key   string
	val   []api.Value
	gone  bool
}

// place is where a row lies.
type place struct {
	table string
	key   string
}

// Install makes rows what the next commit has written.
func (s *Store) Install(n int64, l []api.Write) api.Errno {
	if !s.made() {
		return api.ErrMade
	}
	if n != s.last+1 {
		return api.ErrCommit
	}
	changes, e := s.changes(l)
	if e != api.OK {
		return e
	}
	for _, x := range changes {
		x.table.add(n, x)
	}
	s.versions += len(changes)
	s.last = n
	return api.OK
}

// Check tells what Install of the next commit would answer.
func (s *Store) Check(l []api.Write) api.Errno {
	if !s.made() {
		return api.ErrMade
	}
	_, e := s.changes(l)
	return e
}

// Collect takes out the versions that only snapshots below one need, which are no more there then; how many that were.
func (s *Store) Collect(oldest int64) (int, api.Errno) {
	if !s.made() {
		return 0, api.ErrMade
	}
	if !s.there(oldest) {
		return 0, api.ErrCommit
	}
	taken := 0
	for _, t := range s.tables {
		taken += t.collect(oldest)
	}
	s.versions -= taken
	s.oldest = oldest
	return taken, api.OK
}

// changes are those of some writes that add a version each, if all can be installed as the next commit.
func (s *Store) changes(l []api.Write) ([]change, api.Errno) {
	all, e := s.fitting(l)
	if e != api.OK {
		return nil, e
	}
	if haveTwice(all) {
		return nil, api.ErrWrites
	}
	var adding []change
	for _, x := range all {
		if !s.adds(x) {
			continue
		}
		if x.table.chain(x.key).Len() >= api.MaxVersions {
			return nil, api.ErrFull
		}
		adding = append(adding, x)
	}
	return adding, api.OK
}

// fitting are writes, each with its table, if they fit their tables.
func (s *Store) fitting(l []api.Write) ([]change, api.Errno) {
	var all []change
	for _, w := range l {
		t, k, e := s.find(w.Table, w.Key)
		if e != api.OK {
			return nil, e
		}
		if !t.takes(w) {
			return nil, api.ErrRow
		}
		all = append(all, change{table: t, key: k, val: w.Val, gone: w.Gone})
	}
	return all, api.OK
}

// takes tells whether a write has behind its key what it must have.
func (t *table) takes(w api.Write) bool {
	if w.Gone {
		return len(w.Val) == 0
	}
	return fits(w.Val, t.as.Val)
}

// haveTwice tells whether two changes are of one row.
func haveTwice(l []change) bool {
	times := map[place]int{}
	for _, x := range l {
		at := place{x.table.as.Name, x.key}
		times[at]++
		if times[at] > 1 {
			return true
		}
	}
	return false
}

// adds tells whether a change adds a version: a row that is not there can't go.
func (s *Store) adds(x change) bool {
	_, is := x.table.chain(x.key).At(s.last)
	return is || !x.gone
}
