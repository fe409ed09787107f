package disk_test

import (
	"bytes"
	"slices"
	"testing"

	"keystone/api"
	"keystone/disk"
)

// filled is a block's bytes, no two alike, told from those of another seed.
func filled(seed int) []byte {
	b := make([]byte, api.BlockSize)
	for i := range b {
		b[i] = byte(seed*31 + i*7 + 1)
	}
	return b
}

func noughts(blocks int) []byte {
	return make([]byte, blocks*api.BlockSize)
}

func newDisk(t *testing.T, blocks int) *disk.Disk {
	t.Helper()
	d, e := disk.New(blocks)
	if d == nil || e != api.OK {
		t.Fatalf("New(%d): %v", blocks, e)
	}
	return d
}

func load(t *testing.T, image []byte, torn ...int) *disk.Disk {
	t.Helper()
	d, e := disk.Load(image, torn)
	if d == nil || e != api.OK {
		t.Fatalf("Load of %d bytes, torn %v: %v", len(image), torn, e)
	}
	return d
}

func writes(t *testing.T, d *disk.Disk, n int, b []byte) {
	t.Helper()
	if e := d.Write(n, b); e != api.OK {
		t.Fatalf("Write(%d): %v", n, e)
	}
}

func syncs(t *testing.T, d *disk.Disk) {
	t.Helper()
	if e := d.Sync(); e != api.OK {
		t.Fatalf("Sync: %v", e)
	}
}

func plans(t *testing.T, d *disk.Disk, n int) {
	t.Helper()
	if e := d.Plan(n); e != api.OK {
		t.Fatalf("Plan(%d): %v", n, e)
	}
}

func crashes(t *testing.T, d *disk.Disk, keep ...int) {
	t.Helper()
	if e := d.Crash(keep); e != api.OK {
		t.Fatalf("Crash(%v): %v", keep, e)
	}
}

func wantRead(t *testing.T, d *disk.Disk, n int, want []byte) {
	t.Helper()
	b, e := d.Read(n)
	if e != api.OK || !bytes.Equal(b, want) {
		t.Errorf("Read(%d): %v, %v, not %v", n, b, e, want)
	}
}

func wantUnread(t *testing.T, d *disk.Disk, n int, want api.Errno) {
	t.Helper()
	b, e := d.Read(n)
	if e != want || len(b) != 0 {
		t.Errorf("Read(%d): %v, %v, not %v", n, b, e, want)
	}
}

func wantImage(t *testing.T, d *disk.Disk, want []byte, wantTorn ...int) {
	t.Helper()
	image, torn := d.Image()
	if !bytes.Equal(image, want) {
		t.Errorf("Image: %v, not %v", image, want)
	}
	if !slices.Equal(torn, wantTorn) {
		t.Errorf("torn blocks: %v, not %v", torn, wantTorn)
	}
}

func wantCounts(t *testing.T, d *disk.Disk, wantWrites, wantSyncs int) {
	t.Helper()
	if w, s := d.Counts(); w != wantWrites || s != wantSyncs {
		t.Errorf("Counts: %d, %d, not %d, %d", w, s, wantWrites, wantSyncs)
	}
}

func wantPending(t *testing.T, d *disk.Disk, want ...api.Pending) {
	t.Helper()
	if got := d.Pending(); !slices.EqualFunc(got, want, samePending) {
		t.Errorf("Pending: %v, not %v", got, want)
	}
}

func samePending(a, b api.Pending) bool {
	return a.Block == b.Block && bytes.Equal(a.Data, b.Data)
}

// facts is all that a disk tells, with the power on or off.
type facts struct {
	blocks        int
	off           bool
	pending       []api.Pending
	image         []byte
	torn          []int
	writes, syncs int
}

func tell(d *disk.Disk) facts {
	var f facts
	f.blocks, f.off, f.pending = d.Blocks(), d.Off(), d.Pending()
	f.image, f.torn = d.Image()
	f.writes, f.syncs = d.Counts()
	return f
}

func (f facts) same(g facts) bool {
	return f.blocks == g.blocks && f.off == g.off && slices.EqualFunc(f.pending, g.pending, samePending) &&
		bytes.Equal(f.image, g.image) && slices.Equal(f.torn, g.torn) && f.writes == g.writes && f.syncs == g.syncs
}

// left is how many writes and syncs a disk still lets through, up to a few; it is asked of a clone, so that the disk stays as it is.
func left(d *disk.Disk) int {
	c := d.Clone()
	for i := range 9 {
		if c.Sync() != api.OK {
			return i
		}
	}
	return 9
}

// unlike tells whether something has changed: what is told, or what is planned.
func unlike(d *disk.Disk, was facts, wasLeft int) bool {
	return !tell(d).same(was) || left(d) != wasLeft
}
