package ssi_test

import (
	"maps"
	"slices"
	"testing"

	"keystone/api"
)

// runs are a world's transactions that are under way, in the order in which they began.
func (w *world) runs() []*run {
	var l []*run
	for _, tx := range w.m.Active() {
		l = append(l, w.running[tx])
	}
	return l
}

// does has some transaction do something with some row of a world.
func (w *world) does(t *testing.T, n *numbers, all []string, reads bool) {
	t.Helper()
	l := w.runs()
	if len(l) == 0 || len(l) < 4 && n.below(6) == 0 {
		w.begin(t)
		return
	}
	r, key := oneOf(n, l), oneOf(n, all)
	switch act := n.below(100); {
	case act < 35 && reads:
		w.read(t, r, key)
	case act < 47 && reads:
		w.scan(t, r, all, key, oneOf(n, append([]string{""}, all...)))
	case act < 78:
		w.write(t, r, key, n.below(4) == 0)
	case act < 96:
		w.commit(t, r)
	default:
		w.abort(t, r)
	}
}

// plays has transactions do things until some have committed, and holds that these have an order.
func (w *world) plays(t *testing.T, n *numbers, all []string, reads bool) {
	t.Helper()
	for i := 0; i < 60 && len(w.done) < 7; i++ {
		w.does(t, n, all, reads)
		wantActive(t, w.m, slices.Sorted(maps.Keys(w.running))...)
	}
	w.wantSerial(t)
}

func TestSerializable(t *testing.T) { // P10.7, P10.8, P10.9
	many, refused := 0, 0
	for seed := range 12000 {
		n := numbers(seed)
		caps := roomy()
		if n.below(4) == 0 {
			caps = api.Caps{Active: 2 + n.below(3), Kept: n.below(4), Reads: 1 + n.below(8), Locks: 1 + n.below(5)}
		}
		all := []string{"a", "b", "c", "d"}[:2+n.below(3)]
		w := newWorld(t, caps, all[:n.below(3)]...)
		w.plays(t, &n, all, true)
		many += len(w.done)
		refused += w.refused[api.ErrSsiSerial]
	}
	if many < 40000 || refused < 4000 {
		t.Errorf("too few: %d have committed, %d could not be serial", many, refused)
	}
}

func TestFirstCommitterWins(t *testing.T) { // P10.8, P10.9: whatever is written without a read
	for seed := range 2000 {
		n := numbers(seed)
		w := newWorld(t, roomy(), "a")
		w.plays(t, &n, []string{"a", "b", "c"}, false)
		if w.refused[api.ErrSsiSerial] > 0 {
			t.Fatalf("no read was told, and %v", w.refused)
		}
	}
}

// program is what a transaction does: a letter for what, and one for the row.
type program []string

// step has a program's transaction do its next step; false, if it has ended, and can't do it.
func (w *world) step(t *testing.T, r *run, step string, all []string) bool {
	t.Helper()
	switch step[0] {
	case 'r':
		return w.read(t, r, step[1:])
	case 's':
		return w.scan(t, r, all, step[1:2], step[2:])
	case 'w':
		return w.write(t, r, step[1:], false)
	case 'd':
		return w.write(t, r, step[1:], true)
	}
	return w.commit(t, r)
}

// schedule runs programs in one order, which says whose next step it is.
func schedule(t *testing.T, caps api.Caps, programs []program, order []int) *world {
	t.Helper()
	all := []string{"x", "y", "z"}
	w := newWorld(t, caps, "x", "y")
	runs, place := make([]*run, len(programs)), make([]int, len(programs))
	for _, i := range order {
		switch {
		case place[i] == 0:
			runs[i] = w.begin(t)
		case runs[i] != nil && !w.step(t, runs[i], programs[i][place[i]-1], all):
			runs[i] = nil
		}
		place[i]++
	}
	return w
}

// schedules goes through all orders in which programs can go on beside each other.
func schedules(programs []program, yield func(order []int)) {
	var order []int
	place := make([]int, len(programs))
	var next func()
	next = func() {
		over := true
		for i, p := range programs {
			if place[i] <= len(p) {
				over = false
				place[i]++
				order = append(order, i)
				next()
				order = order[:len(order)-1]
				place[i]--
			}
		}
		if over {
			yield(order)
		}
	}
	next()
}

// wantSchedules holds that all schedules of programs are serial, and that those in which one is done behind the other come to an end for all.
func wantSchedules(t *testing.T, programs ...program) {
	t.Helper()
	schedules(programs, func(order []int) {
		w := schedule(t, roomy(), programs, order)
		w.wantSerial(t)
		if len(slices.Compact(slices.Clone(order))) == len(programs) && len(w.done) != len(programs) {
			t.Fatalf("%v, one behind the other: %d have committed", order, len(w.done))
		}
		wantTracked(t, w.m, 0, 0, 0, 0)
	})
}

func TestAllSchedulesOfTwo(t *testing.T) { // P10.7: each two of some programs
	programs := []program{
		{"rx", "ry", "wx", "c"},
		{"rx", "ry", "wy", "c"},
		{"sx", "wz", "c"}, // all rows from x on: some that are not there
		{"sxz", "wy", "wz", "c"},
		{"rz", "dx", "c"},
		{"wx", "rx", "wy", "c"},
		{"wy", "wx", "c"},
		{"rz", "rx", "wz", "c"},
	}
	for _, a := range programs {
		for _, b := range programs {
			wantSchedules(t, a, b)
		}
	}
}

func TestAllSchedulesOfThree(t *testing.T) { // P10.7
	for _, programs := range [][]program{
		{{"ry", "rx", "wy", "c"}, {"rx", "wx", "c"}, {"rx", "ry", "c"}}, // the third one, which only reads, makes it other than serial
		{{"rx", "wy", "c"}, {"ry", "wz", "c"}, {"rz", "wx", "c"}},       // a round of three
		{{"sxz", "wz", "c"}, {"ry", "wy", "c"}, {"sz", "rx", "c"}},
	} {
		wantSchedules(t, programs...)
	}
}

func TestAlone(t *testing.T) { // P10.9: behind whatever others have done
	for seed := range 1000 {
		n := numbers(seed)
		all := []string{"a", "b", "c"}
		w := newWorld(t, roomy(), "a")
		w.plays(t, &n, all, true)
		for _, r := range w.runs() {
			if n.below(2) == 0 {
				w.abort(t, r)
			} else {
				w.commit(t, r)
			}
		}
		for range 3 {
			r := w.begin(t)
			for _, key := range all {
				if !w.read(t, r, key) || !w.write(t, r, key, false) || !w.scan(t, r, all, key, "") || !w.write(t, r, oneOf(&n, all), true) || !w.read(t, r, key) {
					t.Fatalf("%d, alone, is refused: %v", r.tx, w.refused)
				}
			}
			if !w.commit(t, r) {
				t.Fatalf("%d, alone, is refused: %v", r.tx, w.refused)
			}
		}
	}
}

func TestNoReadNoRefusal(t *testing.T) { // P10.9: though others, which were not concurrent, were told of reads
	for seed := range 500 {
		n := numbers(seed)
		all := []string{"a", "b", "c"}
		w := newWorld(t, roomy(), "a")
		w.plays(t, &n, all, true)
		for _, r := range w.runs() {
			w.abort(t, r)
		}
		was := w.refused[api.ErrSsiSerial]
		for range 60 {
			w.does(t, &n, all, false)
		}
		if w.refused[api.ErrSsiSerial] != was {
			t.Fatal("no read was told, and one could not be serial")
		}
	}
}
