package disk_test

import (
	"math"
	"testing"

	"keystone/api"
)

var notBlocks = []int{math.MinInt, -1, 3, 4, math.MaxInt} // of a disk of three blocks

func TestReadTellsWhatWasWrittenLast(t *testing.T) { // P2.2, P2.3
	d := load(t, append(append(filled(1), filled(2)...), filled(3)...), 2)
	writes(t, d, 1, filled(4))
	wantRead(t, d, 0, filled(1))
	wantRead(t, d, 1, filled(4))
	writes(t, d, 0, filled(5))
	writes(t, d, 1, filled(6))
	wantRead(t, d, 0, filled(5))
	wantRead(t, d, 1, filled(6))
	wantUnread(t, d, 2, api.ErrDiskTorn)
	writes(t, d, 2, filled(7))
	wantRead(t, d, 2, filled(7)) // though what is lasting is torn
}

func TestReadOfNoBlock(t *testing.T) { // P2.2
	d := load(t, noughts(3), 0)
	for _, n := range notBlocks {
		wantUnread(t, d, n, api.ErrDiskPlace)
	}
}

func TestReadWithoutPower(t *testing.T) { // P2.2
	d := load(t, noughts(3), 1)
	writes(t, d, 2, filled(1))
	plans(t, d, 0)
	d.Sync()
	for _, n := range append([]int{0, 1, 2}, notBlocks...) {
		wantUnread(t, d, n, api.ErrDiskOff)
	}
}

func TestWriteIsPending(t *testing.T) { // P2.3
	d := load(t, append(filled(1), filled(2)...))
	a, b, c := api.Pending{Block: 1, Data: filled(3)}, api.Pending{Block: 0, Data: filled(4)}, api.Pending{Block: 1, Data: filled(5)}
	for i, w := range []api.Pending{a, b, c} {
		writes(t, d, w.Block, w.Data)
		wantPending(t, d, []api.Pending{a, b, c}[:i+1]...)
	}
	wantImage(t, d, append(filled(1), filled(2)...))
	writes(t, d, 1, filled(5))
	wantPending(t, d, a, b, c, c) // the same bytes once more are a write too
}

func TestWriteOfWhatMayNotBe(t *testing.T) { // P2.3
	d := load(t, append(append(filled(1), filled(2)...), filled(3)...), 2)
	writes(t, d, 1, filled(4))
	was := tell(d)
	for _, n := range notBlocks {
		for _, b := range [][]byte{nil, filled(1)[:63], filled(1)} { // the block's number is looked at first
			if e := d.Write(n, b); e != api.ErrDiskPlace || unlike(d, was, 9) {
				t.Errorf("Write(%d) of %d bytes: %v", n, len(b), e)
			}
		}
	}
	for _, size := range []int{0, 1, 63, 65, 128} {
		for n := range 3 {
			if e := d.Write(n, make([]byte, size)); e != api.ErrDiskSize || unlike(d, was, 9) {
				t.Errorf("Write(%d) of %d bytes: %v", n, size, e)
			}
		}
	}
}

func TestWriteAndSyncWithoutPower(t *testing.T) { // P2.3, P2.4
	d := newDisk(t, 3)
	writes(t, d, 1, filled(1))
	plans(t, d, 0)
	d.Sync()
	was := tell(d)
	for _, n := range append([]int{0, 1, 2}, notBlocks...) {
		for _, b := range [][]byte{nil, filled(1)[:63], filled(1)} { // the power is looked at first
			if e := d.Write(n, b); e != api.ErrDiskOff || unlike(d, was, 0) {
				t.Errorf("Write(%d) of %d bytes: %v", n, len(b), e)
			}
		}
	}
	for range 3 {
		if e := d.Sync(); e != api.ErrDiskOff || unlike(d, was, 0) {
			t.Errorf("Sync: %v", e)
		}
	}
}

func TestSync(t *testing.T) { // P2.4
	d := load(t, append(append(filled(1), filled(2)...), filled(3)...), 1, 2)
	writes(t, d, 0, filled(4))
	writes(t, d, 1, filled(5))
	writes(t, d, 0, filled(6))
	syncs(t, d)
	wantPending(t, d)
	want := append(append(filled(6), filled(5)...), noughts(1)...)
	wantImage(t, d, want, 2)
	wantRead(t, d, 0, filled(6))
	wantRead(t, d, 1, filled(5))
	wantUnread(t, d, 2, api.ErrDiskTorn) // it was not written
	crashes(t, d)
	wantImage(t, d, want, 2)
}

func TestSyncOfNothing(t *testing.T) { // P2.4
	d := load(t, filled(1))
	syncs(t, d)
	syncs(t, d)
	wantImage(t, d, filled(1))
	wantCounts(t, d, 0, 2)
}

func TestWritesBehindASync(t *testing.T) { // P2.2 to P2.4
	d := newDisk(t, 2)
	writes(t, d, 0, filled(1))
	writes(t, d, 1, filled(2))
	syncs(t, d)
	writes(t, d, 1, filled(3))
	wantRead(t, d, 0, filled(1))
	wantRead(t, d, 1, filled(3))
	wantPending(t, d, api.Pending{Block: 1, Data: filled(3)})
	wantImage(t, d, append(filled(1), filled(2)...))
}

func TestManyWrites(t *testing.T) { // P2.2, P2.3: what is read hangs on no number of writes ahead
	d := newDisk(t, api.MaxBlocks)
	for round := range 3 {
		for n := range api.MaxBlocks {
			writes(t, d, n, filled(n+round))
		}
	}
	for n := range api.MaxBlocks {
		if b, e := d.Read(n); e != api.OK || string(b) != string(filled(n+2)) {
			t.Fatalf("Read(%d): %v, %v", n, b, e)
		}
	}
	wantCounts(t, d, 3*api.MaxBlocks, 0)
	syncs(t, d)
	wantRead(t, d, 77, filled(79))
}

func TestRefusedReadsChangeNothing(t *testing.T) { // R2
	d := load(t, noughts(3), 0)
	writes(t, d, 1, filled(1))
	plans(t, d, 2)
	was := tell(d)
	for _, n := range append([]int{0}, notBlocks...) {
		d.Read(n)
	}
	if unlike(d, was, 2) {
		t.Error("a Read changes something")
	}
}
