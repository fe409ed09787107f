package disk_test

import (
	"math"
	"testing"

	"keystone/api"
)

func TestCrash(t *testing.T) { // P2.7
	a, b, whole, torn, none := filled(1), filled(2), api.KeepWhole, api.KeepTorn, api.KeepNone
	for _, c := range []struct {
		keep []int
		want []byte // nil: torn
	}{
		{nil, filled(9)},
		{[]int{none}, filled(9)},
		{[]int{none, none}, filled(9)},
		{[]int{whole}, a},
		{[]int{whole, none}, a},
		{[]int{none, whole}, b},
		{[]int{whole, whole}, b},
		{[]int{torn}, nil},
		{[]int{torn, none}, nil},
		{[]int{none, torn}, nil},
		{[]int{whole, torn}, nil},
		{[]int{torn, torn}, nil},
		{[]int{torn, whole}, b},
	} {
		for _, off := range []bool{false, true} {
			d := load(t, append(filled(9), filled(8)...))
			writes(t, d, 0, a)
			writes(t, d, 0, b)
			plans(t, d, 0)
			if off {
				d.Sync()
			}
			crashes(t, d, c.keep...)
			if d.Off() || left(d) != 9 {
				t.Errorf("Crash(%v): power is on, and there is no plan", c.keep)
			}
			wantPending(t, d)
			wantRead(t, d, 1, filled(8))
			wantCounts(t, d, 2, 0)
			if c.want == nil {
				wantUnread(t, d, 0, api.ErrDiskTorn)
				wantImage(t, d, append(noughts(1), filled(8)...), 0)
			} else {
				wantRead(t, d, 0, c.want)
				wantImage(t, d, append(c.want, filled(8)...))
			}
		}
	}
}

func TestCrashOfTornBlocks(t *testing.T) { // P2.7
	d := load(t, noughts(4), 0, 1, 2, 3)
	for n := range 3 {
		writes(t, d, n, filled(n))
	}
	crashes(t, d, api.KeepNone, api.KeepWhole, api.KeepTorn)
	want := noughts(4)
	copy(want[api.BlockSize:], filled(1))
	wantImage(t, d, want, 0, 2, 3)
	wantUnread(t, d, 0, api.ErrDiskTorn)
	wantRead(t, d, 1, filled(1))
}

func TestCrashOfBlocksOutOfOrder(t *testing.T) { // P2.7: the numbers are those of the writes, not of the blocks
	d := newDisk(t, 3)
	writes(t, d, 2, filled(1))
	writes(t, d, 0, filled(2))
	writes(t, d, 1, filled(3))
	writes(t, d, 2, filled(4))
	crashes(t, d, api.KeepWhole, api.KeepNone, api.KeepTorn)
	wantRead(t, d, 0, noughts(1))
	wantUnread(t, d, 1, api.ErrDiskTorn)
	wantRead(t, d, 2, filled(1))
}

func TestCrashOfWhatMayNotBe(t *testing.T) { // P2.7
	for _, off := range []bool{false, true} {
		d := load(t, noughts(2), 1)
		writes(t, d, 0, filled(1))
		writes(t, d, 0, filled(2))
		plans(t, d, 0)
		if off {
			d.Sync()
		}
		was := tell(d)
		for _, keep := range [][]int{
			{0, 0, 0}, {1, 1, 1}, {3}, {-1}, {1, 3}, {1, -1}, {2, math.MaxInt}, {math.MinInt, 1}, {3, 1, 1},
		} {
			if e := d.Crash(keep); e != api.ErrArg || unlike(d, was, 0) {
				t.Errorf("Crash(%v): %v", keep, e)
			}
		}
	}
	d := newDisk(t, 1)
	if e := d.Crash([]int{0}); e != api.ErrArg {
		t.Errorf("Crash([0]) with nothing pending: %v", e)
	}
}

func TestDiskGoesOnBehindACrash(t *testing.T) { // P2.7
	d := newDisk(t, 2)
	writes(t, d, 0, filled(1))
	writes(t, d, 1, filled(2))
	plans(t, d, 0)
	d.Write(0, filled(3))
	crashes(t, d, api.KeepTorn, api.KeepWhole)
	writes(t, d, 0, filled(4))
	wantRead(t, d, 0, filled(4))
	wantRead(t, d, 1, filled(2))
	syncs(t, d)
	wantImage(t, d, append(filled(4), filled(2)...))
	wantCounts(t, d, 3, 1)
}

func TestExamples(t *testing.T) { // the chapter's examples
	d := newDisk(t, 2)
	wantRead(t, d, 1, noughts(1))
	writes(t, d, 1, filled(7))
	wantRead(t, d, 1, filled(7))
	wantImage(t, d, noughts(2))
	crashes(t, d)
	wantRead(t, d, 1, noughts(1))

	d = newDisk(t, 1)
	writes(t, d, 0, filled(1))
	writes(t, d, 0, filled(2))
	crashes(t, d, 1, 2)
	wantUnread(t, d, 0, api.ErrDiskTorn)
	writes(t, d, 0, filled(3))
	wantRead(t, d, 0, filled(3))
	crashes(t, d)
	wantUnread(t, d, 0, api.ErrDiskTorn)

	d = newDisk(t, 1)
	plans(t, d, 1)
	writes(t, d, 0, filled(1))
	if e := d.Write(0, filled(2)); e != api.ErrDiskOff || !d.Off() {
		t.Errorf("the write behind a plan of 1: %v", e)
	}
	wantUnread(t, d, 0, api.ErrDiskOff)
	crashes(t, d, 1)
	wantRead(t, d, 0, filled(1))
}
