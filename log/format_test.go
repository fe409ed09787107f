package log_test

import (
	"testing"

	"keystone/api"
	"keystone/disk"
	"keystone/log"
)

func wantNoFormat(t *testing.T, d *disk.Disk, want api.Errno) {
	t.Helper()
	if l, e := log.Format(d); l != nil || e != want {
		t.Errorf("Format: %v, %v, not %v", l, e, want)
	}
}

func wantNoOpen(t *testing.T, d *disk.Disk, want api.Errno) {
	t.Helper()
	if l, records, e := log.Open(d); l != nil || len(records) != 0 || e != want {
		t.Errorf("Open: %v, %v, %v, not %v", l, records, e, want)
	}
}

// off turns a disk's power off.
func off(t *testing.T, d *disk.Disk) {
	t.Helper()
	plans(t, d, 0)
	if e := d.Sync(); e != api.ErrDiskOff {
		t.Fatalf("Sync: %v", e)
	}
}

func TestSmallDisks(t *testing.T) { // P3.2
	for blocks := 1; blocks < api.MinLog; blocks++ {
		d := newDisk(t, blocks)
		wantNoFormat(t, d, api.ErrArg)
		wantNoOpen(t, d, api.ErrArg)
		off(t, d) // that comes behind
		wantNoFormat(t, d, api.ErrArg)
		wantNoOpen(t, d, api.ErrArg)
	}
}

func TestAreas(t *testing.T) { // P3.2, P3.4
	for _, c := range []struct{ blocks, area int }{{6, 2}, {7, 2}, {8, 3}, {9, 3}, {10, 4}, {11, 4}, {20, 9}, {api.MaxBlocks, 8191}} {
		d := newDisk(t, c.blocks)
		l := formats(t, d)
		if l.Room() != c.area || l.Count() != 0 {
			t.Errorf("%d blocks: Room %d, Count %d, not %d, 0", c.blocks, l.Room(), l.Count(), c.area)
		}
		wantRecords(t, d)
	}
}

func TestFormatWithoutPower(t *testing.T) { // P3.2
	d := newDisk(t, 10)
	off(t, d)
	wantNoFormat(t, d, api.ErrDiskOff)
	wantNoOpen(t, d, api.ErrDiskOff)

	for _, old := range []bool{false, true} {
		for cut := range 100 {
			d := newDisk(t, 10)
			if old {
				appends(t, formats(t, d), record(1, 30))
			}
			plans(t, d, cut)
			l, e := log.Format(d)
			if e == api.OK && cut > 0 {
				wantRoom(t, l, d)
				break
			}
			if l != nil || e != api.ErrDiskOff || !d.Off() {
				t.Fatalf("a cut at %d: %v, %v", cut, l, e)
			}
		}
	}
}

func TestACutFormatLeavesTheLogOrAnEmptyOne(t *testing.T) {
	n := numbers(1)
	for cut := range 23 {
		for range 40 {
			d := newDisk(t, 20)
			l := formats(t, d)
			for i := range n.below(4) {
				checkpoints(t, l, record(i, 50))
			}
			checkpoints(t, l, record(7, 100))
			appends(t, l, record(8, 41))
			plans(t, d, cut)
			_, e := log.Format(d)
			crashes(t, d, n.keep(d)...)
			_, records := opens(t, d)
			there := sameRecords(records, [][]byte{record(7, 100), record(8, 41)})
			if len(records) > 0 && (e == api.OK || !there) {
				t.Fatalf("a cut at %d: %v, records of %v bytes", cut, e, sizes(records))
			}
		}
	}
}

// used is a disk on which a log was for some time.
func used(t *testing.T, n *numbers, blocks int) *disk.Disk {
	t.Helper()
	d := newDisk(t, blocks)
	l := formats(t, d)
	for i := range 5 + n.below(40) {
		b := record(i, n.below(60))
		if n.below(5) == 0 || log.Blocks(len(b)) > l.Room() {
			checkpoints(t, l, b)
		} else {
			appends(t, l, b)
		}
	}
	return d
}

// whatever is a disk with whatever there: old logs, bytes, blocks that can't be read.
func whatever(t *testing.T, n *numbers, blocks int) *disk.Disk {
	t.Helper()
	image, _ := used(t, n, blocks).Image()
	for range n.below(5) { // pieces of another log, or what is none, here and there
		other, _ := used(t, n, blocks).Image()
		from := n.below(blocks) * api.BlockSize
		copy(image[from:], other[from:from+n.below(len(other)-from)])
		image[n.below(len(image))] ^= byte(n.below(3))
	}
	var torn []int
	for range n.below(4) * n.below(blocks) {
		torn = append(torn, n.below(blocks))
	}
	d, e := disk.Load(image, torn)
	if e != api.OK {
		t.Fatalf("Load: %v", e)
	}
	return d
}

func TestFormatWhateverWasThere(t *testing.T) { // P3.2
	for seed := range 500 {
		n := numbers(seed)
		d := whatever(t, &n, 6+n.below(12))
		if n.below(3) == 0 {
			formats(t, d)
		}
		l := formats(t, d)
		wantRoom(t, l, d)
		crashes(t, d, n.keep(d)...)
		if opened := wantRecords(t, d); n.below(2) == 0 {
			l = opened
		}
		var want [][]byte
		for range 2 { // what was there must not come to count behind a checkpoint either
			for i := range l.Room() {
				b := record(100+i, n.below(40))
				appends(t, l, b)
				want = append(want, b)
				wantRecords(t, d, want...)
			}
			b := record(200, n.below(40))
			checkpoints(t, l, b)
			want = [][]byte{b}
			wantRecords(t, d, want...)
		}
	}
}

func TestNoLogLiesThere(t *testing.T) { // P3.2
	wantNoOpen(t, newDisk(t, 6), api.ErrLog)
	wantNoOpen(t, newDisk(t, 10), api.ErrLog)
	for seed := range 50 {
		n := numbers(seed)
		image := make([]byte, (6+n.below(9))*api.BlockSize)
		for i := range image {
			image[i] = byte(n.below(256))
		}
		var torn []int
		for i := range n.below(6) {
			torn = append(torn, i)
		}
		d, _ := disk.Load(image, torn)
		was, _ := d.Counts()
		wantNoOpen(t, d, api.ErrLog)
		if now, _ := d.Counts(); now != was {
			t.Error("Open writes where no log lies")
		}
	}
	torn := []int{0, 1, 2, 3, 4, 5, 6, 7}
	d, _ := disk.Load(make([]byte, len(torn)*api.BlockSize), torn)
	wantNoOpen(t, d, api.ErrLog)
}

func TestALogOfAnotherSize(t *testing.T) { // P3.2: its areas do not lie there
	n := numbers(3)
	image, _ := used(t, &n, 20).Image()
	for _, blocks := range []int{6, 10, 19, 22, 30, 40} {
		other := make([]byte, blocks*api.BlockSize)
		copy(other, image)
		d, _ := disk.Load(other, nil)
		wantNoOpen(t, d, api.ErrLog)
	}
}

func TestOpenTellsTheCheckpointFirst(t *testing.T) { // P3.2
	d := newDisk(t, 30)
	l := formats(t, d)
	a, b, c := record(1, 100), record(2, 0), record(3, 41)
	appends(t, l, a)
	appends(t, l, b)
	wantRecords(t, d, a, b)
	checkpoints(t, l, c)
	wantRecords(t, d, c)
	appends(t, l, b)
	appends(t, l, a)
	wantRecords(t, d, c, b, a)
	checkpoints(t, l, nil)
	wantRecords(t, d, nil)
	appends(t, l, a)
	l = wantRecords(t, d, nil, a)
	appends(t, l, c) // a log that Open found goes on
	checkpoints(t, l, b)
	appends(t, l, b)
	wantRecords(t, d, b, b)
	wantRoom(t, l, d, b, b)
}
