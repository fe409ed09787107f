package disk_test

import (
	"testing"

	"keystone/api"
)

func TestAllIsToldWithoutPower(t *testing.T) { // P2.6
	d := load(t, append(append(filled(1), filled(2)...), filled(3)...), 2)
	writes(t, d, 1, filled(4))
	syncs(t, d)
	writes(t, d, 2, filled(5))
	writes(t, d, 0, filled(6))
	plans(t, d, 0)
	if d.Off() {
		t.Error("off already")
	}
	d.Write(0, filled(7))
	if !d.Off() {
		t.Error("not off")
	}
	if d.Blocks() != 3 {
		t.Errorf("Blocks: %d", d.Blocks())
	}
	wantPending(t, d, api.Pending{Block: 2, Data: filled(5)}, api.Pending{Block: 0, Data: filled(6)})
	wantImage(t, d, append(append(filled(1), filled(4)...), noughts(1)...), 2)
	wantCounts(t, d, 3, 1)
}

func TestImageOfTornBlocks(t *testing.T) { // P2.6
	d := newDisk(t, 5)
	for _, n := range []int{4, 0, 2} {
		writes(t, d, n, filled(n))
	}
	crashes(t, d, api.KeepTorn, api.KeepTorn, api.KeepTorn)
	wantImage(t, d, noughts(5), 0, 2, 4)
	writes(t, d, 2, filled(7))
	wantImage(t, d, noughts(5), 0, 2, 4) // a write that is pending mends nothing
	syncs(t, d)
	want := noughts(5)
	copy(want[2*api.BlockSize:], filled(7))
	wantImage(t, d, want, 0, 4)
}

func TestImageLoads(t *testing.T) { // P2.6
	d := load(t, append(append(filled(1), filled(2)...), filled(3)...), 1)
	image, torn := d.Image()
	c := load(t, image, torn...)
	wantImage(t, c, image, torn...)
	wantUnread(t, c, 1, api.ErrDiskTorn)
}

func TestCounts(t *testing.T) { // P2.6
	d := load(t, noughts(2), 1)
	writes(t, d, 0, filled(1))
	writes(t, d, 0, filled(1))
	syncs(t, d)
	wantCounts(t, d, 2, 1)
	d.Write(2, filled(1))
	d.Write(0, nil)
	d.Read(0)
	d.Crash([]int{1})
	wantCounts(t, d, 2, 1)
	writes(t, d, 1, filled(1))
	plans(t, d, 0)
	d.Sync()
	d.Write(0, filled(1))
	d.Sync()
	wantCounts(t, d, 3, 1)
	crashes(t, d)
	wantCounts(t, d, 3, 1) // a write that is lost has been done all the same
	syncs(t, d)
	wantCounts(t, d, 3, 2)
}
