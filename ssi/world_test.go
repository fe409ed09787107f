package ssi_test

import (
	"maps"
	"slices"
	"testing"

	"keystone/api"
	"keystone/ssi"
)

// world is rows in all their versions, which transactions read and write as a manager lets them.
type world struct {
	m       *ssi.Manager
	now     int64
	clock   int
	values  int                  // how many values were made: each is another one
	rows    map[string][]version // by key
	running map[int64]*run
	done    []*run // those that have committed
	refused map[api.Errno]int
}

// version is what a row became by a commit; the value 0: gone.
type version struct {
	at    int64
	value int
}

// run is what a transaction has seen and written.
type run struct {
	tx, snapshot int64
	began, ended int
	alone        bool // none other was ever concurrent with it
	told         bool // a read of it was told
	beside       bool // one that was concurrent with it was told of a read
	seen         []saw
	wrote        map[string]int
}

// saw is what was seen of a row, ahead of any write of it by the same transaction.
type saw struct {
	key   string
	value int
}

// newWorld is a world in which some rows are there, and some are not.
func newWorld(t *testing.T, caps api.Caps, there ...string) *world {
	t.Helper()
	w := &world{now: 3, rows: map[string][]version{}, running: map[int64]*run{}, refused: map[api.Errno]int{}}
	w.m = newManager(t, caps, w.now)
	for i, key := range there {
		w.values++
		w.rows[key] = []version{{int64(i%3 + 1), w.values}}
	}
	return w
}

// at is what a row is in a snapshot.
func (w *world) at(key string, snapshot int64) int {
	value := 0
	for _, v := range w.rows[key] {
		if v.at <= snapshot {
			value = v.value
		}
	}
	return value
}

func (w *world) last(key string) int64 {
	if l := w.rows[key]; len(l) > 0 {
		return l[len(l)-1].at
	}
	return 0
}

// begin begins a transaction; nil, if the manager has no room.
func (w *world) begin(t *testing.T) *run {
	t.Helper()
	tx, snapshot, e := w.m.Begin()
	if e == api.ErrFull {
		return nil
	}
	if e != api.OK || snapshot != w.now {
		t.Fatalf("Begin: %d, %d, %v", tx, snapshot, e)
	}
	w.clock++
	r := &run{tx: tx, snapshot: snapshot, began: w.clock, alone: len(w.running) == 0, wrote: map[string]int{}}
	for _, other := range w.running {
		other.alone = false
		r.beside = r.beside || other.told
	}
	w.running[tx] = r
	return r
}

// sees has a transaction see rows of which it was told that it may.
func (w *world) sees(r *run, keys ...string) {
	for _, key := range keys {
		if _, own := r.wrote[key]; !own {
			r.seen = append(r.seen, saw{key, w.at(key, r.snapshot)})
		}
	}
}

// tells keeps in mind that a read of a transaction is told.
func (w *world) tells(r *run) {
	r.told = true
	for _, other := range w.running {
		other.beside = other.beside || other != r
	}
}

func (w *world) read(t *testing.T, r *run, key string) bool {
	t.Helper()
	w.tells(r)
	if !w.goes(t, r, w.m.Read(r.tx, at(key))) {
		return false
	}
	w.sees(r, key)
	return true
}

func (w *world) scan(t *testing.T, r *run, all []string, from, to string) bool {
	t.Helper()
	w.tells(r)
	if !w.goes(t, r, w.m.Scan(r.tx, "t", from, to)) {
		return false
	}
	for _, key := range all {
		if key >= from && (to == "" || key < to) {
			w.sees(r, key)
		}
	}
	return true
}

// write has a transaction write a row, or, with gone, let it go.
func (w *world) write(t *testing.T, r *run, key string, gone bool) bool {
	t.Helper()
	if !w.goes(t, r, w.m.Write(r.tx, at(key), w.last(key))) {
		return false
	}
	w.values++
	r.wrote[key] = w.values
	if gone {
		r.wrote[key] = 0
	}
	return true
}

func (w *world) commit(t *testing.T, r *run) bool {
	t.Helper()
	n, e := w.m.Commit(r.tx)
	if !w.goes(t, r, e) {
		return false
	}
	if len(r.wrote) > 0 {
		w.now++
	}
	if n != w.now {
		t.Fatalf("Commit(%d): %d, not %d", r.tx, n, w.now)
	}
	for key, value := range r.wrote {
		w.rows[key] = append(w.rows[key], version{w.now, value})
	}
	w.end(r)
	w.wantFirst(t, r)
	w.done = append(w.done, r)
	return true
}

func (w *world) abort(t *testing.T, r *run) {
	t.Helper()
	aborts(t, w.m, r.tx)
	w.end(r)
}

func (w *world) end(r *run) {
	w.clock++
	r.ended = w.clock
	delete(w.running, r.tx)
}

// goes tells whether a transaction goes on behind an answer; if it is refused, it must be such a refusal as there may be.
func (w *world) goes(t *testing.T, r *run, e api.Errno) bool {
	t.Helper()
	if e == api.OK {
		return true
	}
	w.refused[e]++
	switch e {
	case api.ErrSsiSerial:
		if r.alone {
			t.Fatalf("%d is alone, and could not be serial", r.tx)
		}
		if !r.told && !r.beside {
			t.Fatalf("%d could not be serial, and no read was told", r.tx)
		}
	case api.ErrLockHeld, api.ErrLockLate:
		if r.alone {
			t.Fatalf("%d is alone, and was refused with %v", r.tx, e)
		}
	case api.ErrFull:
	default:
		t.Fatalf("%d was refused with %v", r.tx, e)
	}
	w.end(r)
	return false
}

// wantFirst holds one that commits against those that have committed, and were concurrent with it: none has written a row that it has written.
func (w *world) wantFirst(t *testing.T, r *run) {
	t.Helper()
	for _, other := range w.done {
		if r.began > other.ended {
			continue
		}
		for key := range other.wrote {
			if _, is := r.wrote[key]; is {
				t.Fatalf("%d and %d are concurrent, and have both written %q", other.tx, r.tx, key)
			}
		}
	}
}

// wantSerial holds that the committed ones have an order by which each has seen what those ahead of it have left.
func (w *world) wantSerial(t *testing.T) {
	t.Helper()
	first := map[string]int{}
	for key := range w.rows {
		first[key] = w.at(key, 3)
	}
	if !serial(w.done, first) {
		for _, r := range w.done {
			t.Logf("%d: from %d to %d, saw %v, wrote %v", r.tx, r.began, r.ended, r.seen, r.wrote)
		}
		t.Fatalf("%d have committed, and have no order", len(w.done))
	}
}

// serial tells whether some can be done one behind the other, from some rows on.
func serial(left []*run, rows map[string]int) bool {
	for i, r := range left {
		if slices.ContainsFunc(r.seen, func(s saw) bool { return rows[s.key] != s.value }) {
			continue
		}
		behind := maps.Clone(rows)
		maps.Copy(behind, r.wrote)
		if serial(slices.Delete(slices.Clone(left), i, i+1), behind) {
			return true
		}
	}
	return len(left) == 0
}
