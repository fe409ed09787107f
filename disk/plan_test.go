package disk_test

import (
	"math"
	"testing"

	"keystone/api"
)

func TestPlanCountsWritesAndSyncsTogether(t *testing.T) { // P2.3 to P2.5
	for n := range 6 {
		d := newDisk(t, 1)
		plans(t, d, n)
		for i := range n {
			if d.Off() {
				t.Fatalf("Plan(%d): off ahead of number %d", n, i)
			}
			if i%2 == 0 {
				writes(t, d, 0, filled(i))
			} else {
				syncs(t, d)
			}
		}
		if d.Off() {
			t.Errorf("Plan(%d): off ahead of the one that is refused", n)
		}
		was := tell(d)
		was.off = true
		if e := d.Write(0, filled(9)); e != api.ErrDiskOff || !tell(d).same(was) {
			t.Errorf("Plan(%d): the write behind it: %v", n, e)
		}
	}
}

func TestPlanRefusesASync(t *testing.T) { // P2.4
	d := newDisk(t, 1)
	plans(t, d, 1)
	writes(t, d, 0, filled(1))
	if e := d.Sync(); e != api.ErrDiskOff || !d.Off() {
		t.Errorf("Sync behind a plan of 1: %v", e)
	}
	wantPending(t, d, api.Pending{Block: 0, Data: filled(1)})
	wantImage(t, d, noughts(1))
	wantCounts(t, d, 1, 0)
}

func TestPlanTakesThePlaceOfAnother(t *testing.T) { // P2.5
	d := newDisk(t, 1)
	for _, n := range []int{0, 5, 2, 8, 0, 3} {
		plans(t, d, n)
		if left(d) != n {
			t.Errorf("Plan(%d) lets %d through", n, left(d))
		}
	}
	for _, n := range []int{-1, -2, math.MinInt} {
		plans(t, d, 1)
		plans(t, d, n)
		if left(d) != 9 {
			t.Errorf("Plan(%d) lets %d through", n, left(d))
		}
	}
	plans(t, d, math.MaxInt)
	if left(d) != 9 {
		t.Error("the greatest plan lets nothing through")
	}
}

func TestPlanWithoutPower(t *testing.T) { // P2.5
	for _, n := range []int{-1, 0, 3} {
		d := newDisk(t, 1)
		plans(t, d, 0)
		d.Sync()
		if e := d.Plan(n); e != api.ErrDiskOff || !d.Off() {
			t.Errorf("Plan(%d) without power: %v", n, e)
		}
		crashes(t, d)
		if left(d) != 9 {
			t.Errorf("Plan(%d) without power is kept", n)
		}
	}
}

func TestWhatIsRefusedCountsAsNone(t *testing.T) { // P2.5
	d := load(t, noughts(2), 1)
	for _, n := range []int{0, 1, 2} {
		plans(t, d, n)
		d.Write(-1, filled(1))
		d.Write(2, filled(1))
		d.Write(0, filled(1)[:63])
		d.Write(0, nil)
		d.Read(0)
		d.Read(1)
		d.Read(2)
		d.Crash([]int{1})
		d.Image()
		d.Pending()
		if d.Off() || left(d) != n {
			t.Errorf("of a plan of %d there are %d left", n, left(d))
		}
	}
}

func TestPlanIsOver(t *testing.T) { // P2.3: there is no plan any more behind its end
	d := newDisk(t, 1)
	plans(t, d, 0)
	d.Write(0, filled(1))
	crashes(t, d)
	if d.Off() || left(d) != 9 {
		t.Error("a plan goes on behind the crash")
	}
}
