package log_test

import (
	"testing"

	"keystone/api"
	"keystone/disk"
	"keystone/log"
)

// act is an Append, or a Checkpoint.
type act struct {
	checkpoint bool
	b          []byte
}

func (a act) do(l *log.Log) api.Errno {
	if a.checkpoint {
		return l.Checkpoint(a.b)
	}
	return l.Append(a.b)
}

// behind is what the records are, if it is done.
func (a act) behind(records [][]byte) [][]byte {
	if a.checkpoint {
		return [][]byte{a.b}
	}
	return append(records[:len(records):len(records)], a.b)
}

// eachKeep goes through all that may become of the writes that are pending.
func eachKeep(d *disk.Disk, do func(keep []int)) {
	writes := len(d.Pending())
	codes := 1
	for range writes {
		codes *= 3
	}
	for code := range codes {
		keep := make([]int, writes)
		for i := range keep {
			keep[i] = code % 3
			code /= 3
		}
		do(keep)
	}
}

// eachCut does an act on clones of a disk, with a loss of power ahead of each write, and all that may become of the writes; it hands on the disks behind that, each with its records, which must be those that were there, or those behind the act.
func eachCut(t *testing.T, d *disk.Disk, records [][]byte, a act, next func(*disk.Disk, [][]byte)) {
	t.Helper()
	done := false
	for cut := 0; !done; cut++ {
		planned := d.Clone()
		l, _ := opens(t, planned)
		plans(t, planned, cut)
		e := a.do(l)
		done = e == api.OK
		if !done && e != api.ErrDiskOff {
			t.Fatalf("a cut at %d: %v", cut, e)
		}
		eachKeep(planned, func(keep []int) {
			crashed := planned.Clone()
			crashes(t, crashed, keep...)
			_, now := opens(t, crashed)
			same := sameRecords(now, records)
			if !sameRecords(now, a.behind(records)) && (done || !same) {
				t.Fatalf("a cut at %d, keep %v: records of %v bytes behind those of %v and an act of %d", cut, keep, sizes(now), sizes(records), len(a.b))
			}
			wantRecords(t, crashed, now...) // the next Open tells the same
			next(crashed, now)
		})
	}
}

func nothing(*disk.Disk, [][]byte) {}

func TestEveryCrashOfAnAct(t *testing.T) { // P3.5
	for _, size := range []int{0, 1, 40, 41, 120, 200} {
		for _, checkpoint := range []bool{false, true} {
			d := newDisk(t, 2+2*7)
			l := formats(t, d)
			a := act{checkpoint, record(9, size)}
			eachCut(t, d, nil, a, nothing)
			appends(t, l, record(1, 30))
			eachCut(t, d, [][]byte{record(1, 30)}, a, nothing)
			checkpoints(t, l, record(2, 30))
			eachCut(t, d, [][]byte{record(2, 30)}, a, nothing)
			appends(t, l, record(3, 5))
			eachCut(t, d, [][]byte{record(2, 30), record(3, 5)}, a, nothing)
		}
	}
}

func TestEveryCrashOfTwoActs(t *testing.T) { // P3.5: what a lost record has left is not mixed with the next one
	acts := []act{{false, record(1, 90)}, {false, record(2, 90)}, {false, record(3, 41)}, {false, nil}, {true, record(4, 80)}, {true, record(5, 41)}}
	for _, first := range acts {
		for _, second := range acts {
			d := newDisk(t, 2+2*7)
			l := formats(t, d)
			checkpoints(t, l, record(8, 10))
			was := [][]byte{record(8, 10)}
			eachCut(t, d, was, first, func(d *disk.Disk, now [][]byte) {
				eachCut(t, d, now, second, nothing)
			})
		}
	}
}

func TestEveryCrashOfThreeActs(t *testing.T) { // P3.5
	acts := []act{{false, record(1, 80)}, {false, record(2, 80)}, {true, record(3, 80)}, {true, record(4, 3)}}
	for _, first := range acts {
		for _, second := range acts {
			for _, third := range acts {
				d := newDisk(t, 2+2*8)
				l := formats(t, d)
				appends(t, l, record(7, 10))
				was := [][]byte{record(7, 10)}
				eachCut(t, d, was, first, func(d *disk.Disk, now [][]byte) {
					n := numbers(len(now))
					eachCut(t, d, now, second, func(d *disk.Disk, now [][]byte) {
						if n.below(4) == 0 { // some of them: all would take too long
							eachCut(t, d, now, third, nothing)
						}
					})
				})
			}
		}
	}
}

func TestOldRecordsDoNotComeBack(t *testing.T) { // P3.5: an area is used anew, and its old records stand on the boundaries of the new ones
	for seed := range 60 {
		n := numbers(seed)
		d := newDisk(t, 2+2*6)
		l := formats(t, d)
		var records [][]byte
		for i := range 30 {
			a := act{l.Room() == 0 || n.below(4) == 0, record(i, n.below(40))}
			if e := a.do(l); e != api.OK {
				t.Fatalf("script %d: %v", seed, e)
			}
			records = a.behind(records)
			wantRecords(t, d, records...)
			if n.below(5) == 0 {
				l = wantRecords(t, d, records...)
			}
		}
	}
}

// life is a log on a disk, with the records that must be there.
type life struct {
	n       numbers
	d       *disk.Disk
	l       *log.Log
	records [][]byte
}

// act is one that fits.
func (f *life) act() act {
	most := f.l.Room()
	a := act{checkpoint: most == 0 || f.n.below(5) == 0}
	if a.checkpoint {
		most = area(f.d)
	}
	if f.n.below(3) > 0 {
		most = min(most, 3)
	}
	size := f.n.below(most*api.LogLoad + 1)
	if f.n.below(2) == 0 { // so that many are of one size
		size = log.Blocks(size) * api.LogLoad
	}
	a.b = record(f.n.below(250), size)
	return a
}

// comesBack turns the power off and on, and opens the log; within that the power may go, too.
func (f *life) comesBack(t *testing.T, maybe ...[]byte) {
	t.Helper()
	crashes(t, f.d, f.n.keep(f.d)...)
	for range f.n.below(4) {
		plans(t, f.d, f.n.below(6))
		if _, _, e := log.Open(f.d); e != api.OK && e != api.ErrDiskOff {
			t.Fatalf("Open: %v", e)
		}
		crashes(t, f.d, f.n.keep(f.d)...)
	}
	l, now := opens(t, f.d)
	if !sameRecords(now, f.records) {
		if maybe == nil || !sameRecords(now, maybe) {
			t.Fatalf("records of %v bytes, not those of %v, nor those of %v", sizes(now), sizes(f.records), sizes(maybe))
		}
		f.records = now
	}
	wantRoom(t, l, f.d, now...)
	f.l = wantRecords(t, f.d, now...)
}

func TestManyLives(t *testing.T) { // P3.5, P3.6
	for seed := range 1500 {
		f := &life{n: numbers(seed)}
		f.d = newDisk(t, api.MinLog+f.n.below(20))
		f.l = formats(t, f.d)
		for range 60 {
			a := f.act()
			cut := f.n.below(40) - 1
			plans(t, f.d, cut)
			behind := a.behind(f.records)
			switch e := a.do(f.l); {
			case e == api.OK:
				f.records = behind
				plans(t, f.d, -1)
				wantRoom(t, f.l, f.d, f.records...)
				if f.n.below(9) == 0 {
					f.comesBack(t)
				}
			case e == api.ErrDiskOff && f.d.Off():
				f.comesBack(t, behind...)
			default:
				t.Fatalf("script %d: %v", seed, e)
			}
		}
	}
}
