package disk_test

import (
	"bytes"
	"testing"

	"keystone/api"
	"keystone/disk"
)

// numbers tells one number behind the other, always the same ones.
type numbers uint64

func (n *numbers) below(most int) int {
	*n = *n*6364136223846793005 + 1442695040888963407
	return int(uint64(*n)>>33) % most
}

const scripts = 400 // that are gone through of each kind

// does does something with a disk: mostly writes, now and then a sync. It tells whether it was done.
func (n *numbers) does(d *disk.Disk) bool {
	if n.below(7) == 0 {
		return d.Sync() == api.OK
	}
	return d.Write(n.below(d.Blocks()), filled(n.below(250))) == api.OK
}

// keep says of some of the writes that are pending what becomes of them.
func (n *numbers) keep(d *disk.Disk) []int {
	keep := make([]int, n.below(len(d.Pending())+1))
	for i := range keep {
		keep[i] = n.below(3)
	}
	return keep
}

// reads are the bytes of all blocks, nil of those that are torn.
func reads(t *testing.T, d *disk.Disk) [][]byte {
	t.Helper()
	l := make([][]byte, d.Blocks())
	for n := range l {
		b, e := d.Read(n)
		if e != api.OK && e != api.ErrDiskTorn {
			t.Fatalf("Read(%d): %v", n, e)
		}
		if e == api.OK {
			l[n] = b
		}
	}
	return l
}

// sameBlock tells a torn block from one of bytes, too.
func sameBlock(a, b []byte) bool {
	return (a == nil) == (b == nil) && bytes.Equal(a, b)
}

func TestSyncedIsSafe(t *testing.T) { // P2.9
	for seed := range scripts {
		n := numbers(seed)
		d := newDisk(t, 1+n.below(6))
		for range 20 {
			n.does(d)
		}
		syncs(t, d)
		synced := reads(t, d)
		written := make([]bool, d.Blocks())
		for range n.below(9) {
			to := n.below(d.Blocks())
			writes(t, d, to, filled(n.below(250)))
			written[to] = true
		}
		crashes(t, d, n.keep(d)...)
		for k, b := range reads(t, d) {
			if !written[k] && !sameBlock(b, synced[k]) {
				t.Errorf("script %d: block %d was synced as %v, and is read as %v", seed, k, synced[k], b)
			}
		}
	}
}

// mayBe tells whether a block behind a crash is what it may be by P2.10.
func mayBe(b, was []byte, place int, pending []api.Pending) bool {
	if sameBlock(b, was) {
		return true
	}
	for _, w := range pending {
		if w.Block == place && (b == nil || bytes.Equal(b, w.Data)) {
			return true
		}
	}
	return false
}

func TestEachWriteByItself(t *testing.T) { // P2.10
	for seed := range scripts {
		n := numbers(seed)
		d := newDisk(t, 1+n.below(6))
		for range 6 {
			for range n.below(9) {
				n.does(d)
			}
			pending := d.Pending()
			image, torn := d.Image()
			was := reads(t, load(t, image, torn...)) // what is lasting
			crashes(t, d, n.keep(d)...)
			for k, b := range reads(t, d) {
				if !mayBe(b, was[k], k, pending) {
					t.Errorf("script %d: block %d was %v, and is %v", seed, k, was[k], b)
				}
			}
		}
	}
}

func TestEveryCrashOfFewWrites(t *testing.T) { // P2.7, P2.10: of each write whatever becomes of it
	places := []int{0, 1, 0, 2, 0}
	for code := range 3 * 3 * 3 * 3 * 3 { // a digit to the base 3 for each write
		digits := code
		d := newDisk(t, 4)
		want := [][]byte{noughts(1), noughts(1), noughts(1), noughts(1)}
		keep := make([]int, len(places))
		for i, place := range places {
			writes(t, d, place, filled(i))
			keep[i] = digits % 3
			digits /= 3
			switch keep[i] {
			case api.KeepWhole:
				want[place] = filled(i)
			case api.KeepTorn:
				want[place] = nil
			}
		}
		crashes(t, d, keep...)
		for k, b := range reads(t, d) {
			if !sameBlock(b, want[k]) {
				t.Errorf("Crash(%v): block %d is %v, not %v", keep, k, b, want[k])
			}
		}
	}
}

func TestACutIsABeginning(t *testing.T) { // P2.11
	for seed := range scripts {
		n := numbers(seed)
		most := n.below(20)
		cut, whole := newDisk(t, 4), newDisk(t, 4)
		plans(t, cut, most)
		for range most {
			same := n // so that the other disk comes to the same
			if !n.does(cut) || !same.does(whole) {
				t.Fatalf("script %d: power is off ahead of number %d", seed, most)
			}
			if !tell(cut).same(tell(whole)) {
				t.Fatalf("script %d: not the same as without a plan", seed)
			}
		}
		for range 5 {
			if n.does(cut) {
				t.Fatalf("script %d: power is on behind the cut", seed)
			}
			if !cut.Off() {
				t.Fatalf("script %d: Off does not tell it", seed)
			}
			was := tell(whole)
			was.off = true
			if !tell(cut).same(was) {
				t.Fatalf("script %d: something changes behind the cut", seed)
			}
		}
		keep := n.keep(cut)
		crashes(t, cut, keep...)
		crashes(t, whole, keep...)
		if !tell(cut).same(tell(whole)) {
			t.Fatalf("script %d: behind a crash it is not as it would be without a plan", seed)
		}
	}
}
