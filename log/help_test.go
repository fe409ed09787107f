package log_test

import (
	"bytes"
	"slices"
	"testing"

	"keystone/api"
	"keystone/disk"
	"keystone/log"
)

// record is so many bytes, told from those of another seed.
func record(seed, size int) []byte {
	b := make([]byte, size)
	for i := range b {
		b[i] = byte(seed*31 + i*7 + i/api.LogLoad + 1)
	}
	return b
}

func newDisk(t *testing.T, blocks int) *disk.Disk {
	t.Helper()
	d, e := disk.New(blocks)
	if d == nil || e != api.OK {
		t.Fatalf("New(%d): %v", blocks, e)
	}
	return d
}

func formats(t *testing.T, d *disk.Disk) *log.Log {
	t.Helper()
	l, e := log.Format(d)
	if l == nil || e != api.OK {
		t.Fatalf("Format: %v", e)
	}
	return l
}

func opens(t *testing.T, d *disk.Disk) (*log.Log, [][]byte) {
	t.Helper()
	l, records, e := log.Open(d)
	if l == nil || e != api.OK {
		t.Fatalf("Open: %v", e)
	}
	return l, records
}

func appends(t *testing.T, l *log.Log, b []byte) {
	t.Helper()
	if e := l.Append(b); e != api.OK {
		t.Fatalf("Append of %d bytes: %v", len(b), e)
	}
}

func checkpoints(t *testing.T, l *log.Log, b []byte) {
	t.Helper()
	if e := l.Checkpoint(b); e != api.OK {
		t.Fatalf("Checkpoint of %d bytes: %v", len(b), e)
	}
}

func plans(t *testing.T, d *disk.Disk, n int) {
	t.Helper()
	if e := d.Plan(n); e != api.OK {
		t.Fatalf("Plan(%d): %v", n, e)
	}
}

func crashes(t *testing.T, d *disk.Disk, keep ...int) {
	t.Helper()
	if e := d.Crash(keep); e != api.OK {
		t.Fatalf("Crash(%v): %v", keep, e)
	}
}

func sameRecords(a, b [][]byte) bool {
	return slices.EqualFunc(a, b, bytes.Equal)
}

// sizes are how many bytes records have, to tell of them.
func sizes(records [][]byte) []int {
	var l []int
	for _, b := range records {
		l = append(l, len(b))
	}
	return l
}

// wantRecords opens the log of a disk, and looks at its records, its room and how many there are.
func wantRecords(t *testing.T, d *disk.Disk, want ...[]byte) *log.Log {
	t.Helper()
	l, records := opens(t, d)
	if !sameRecords(records, want) {
		t.Fatalf("records of %v bytes, not those of %v", sizes(records), sizes(want))
	}
	wantRoom(t, l, d, want...)
	return l
}

// wantRoom looks at the room of a log with such records.
func wantRoom(t *testing.T, l *log.Log, d *disk.Disk, records ...[]byte) {
	t.Helper()
	room := area(d)
	for _, b := range records {
		room -= log.Blocks(len(b))
	}
	if l.Room() != room || l.Count() != len(records) {
		t.Fatalf("Room %d, Count %d, not %d, %d", l.Room(), l.Count(), room, len(records))
	}
}

// area is how many blocks an area of a disk has.
func area(d *disk.Disk) int {
	return (d.Blocks() - 2) / 2
}

// numbers tells one number behind the other, always the same ones.
type numbers uint64

func (n *numbers) below(most int) int {
	*n = *n*6364136223846793005 + 1442695040888963407
	return int(uint64(*n)>>33) % most
}

// keep says of each write that is pending what becomes of it; now and then it is the same of all.
func (n *numbers) keep(d *disk.Disk) []int {
	keep := make([]int, len(d.Pending()))
	all := n.below(9)
	for i := range keep {
		keep[i] = n.below(3)
		if all < 3 {
			keep[i] = all
		}
	}
	return keep
}
