package disk_test

import (
	"bytes"
	"math"
	"slices"
	"testing"

	"keystone/api"
	"keystone/disk"
)

// useAll calls all calls of a disk.
func useAll(d *disk.Disk, n int, b []byte, keep []int) {
	d.Blocks()
	d.Read(n)
	d.Write(n, b)
	d.Sync()
	d.Plan(n)
	d.Write(n, b)
	d.Read(n)
	d.Off()
	d.Pending()
	d.Crash(keep)
	d.Image()
	d.Counts()
	d.Clone()
}

func TestNothingPanics(t *testing.T) { // R1
	for _, blocks := range []int{1, 3} {
		for _, n := range []int{math.MinInt, -1, 0, 1, 2, 3, math.MaxInt} {
			for _, size := range []int{0, 63, 64, 65} {
				for _, keep := range [][]int{nil, {}, {0}, {1}, {2}, {3}, {-1, 1}, make([]int, 100)} {
					useAll(newDisk(t, blocks), n, make([]byte, size), keep)
					useAll(new(disk.Disk), n, make([]byte, size), keep)
					useAll(nil, n, make([]byte, size), keep)
				}
			}
		}
	}
}

func TestDisksThatNoCallMade(t *testing.T) { // R5
	for _, d := range []*disk.Disk{nil, new(disk.Disk)} {
		for _, n := range []int{-1, 0, 1} { // it is ahead of all else
			for _, b := range [][]byte{nil, filled(1), filled(1)[:63]} {
				if e := d.Write(n, b); e != api.ErrMade {
					t.Errorf("Write(%d): %v", n, e)
				}
			}
			if b, e := d.Read(n); len(b) != 0 || e != api.ErrMade {
				t.Errorf("Read(%d): %v, %v", n, b, e)
			}
			if e := d.Plan(n); e != api.ErrMade {
				t.Errorf("Plan(%d): %v", n, e)
			}
		}
		for _, keep := range [][]int{nil, {0}, {3}} {
			if e := d.Crash(keep); e != api.ErrMade {
				t.Errorf("Crash(%v): %v", keep, e)
			}
		}
		if e := d.Sync(); e != api.ErrMade {
			t.Errorf("Sync: %v", e)
		}
		if !tell(d).same(facts{}) {
			t.Errorf("it tells something: %v", tell(d))
		}
		if d.Clone() != nil {
			t.Error("it has a clone")
		}
	}
}

func TestWhatIsHandedInStaysAsItIs(t *testing.T) { // R3
	room := append(filled(1), filled(2)...)
	wasRoom := bytes.Clone(room)
	keepRoom := []int{2, 1, 1, 0, 7, 8, 9}
	wasKeep := slices.Clone(keepRoom)
	d := load(t, room[:api.BlockSize], keepRoom[3:4]...)
	for range 4 {
		writes(t, d, 0, room[:api.BlockSize])
	}
	crashes(t, d, keepRoom[:4]...)
	writes(t, d, 0, room[:api.BlockSize])
	syncs(t, d)
	d.Write(0, room[:9])
	d.Crash(keepRoom[4:])
	if !bytes.Equal(room, wasRoom) || !slices.Equal(keepRoom, wasKeep) {
		t.Error("what was handed in was changed")
	}
}

// scribble writes over a list and over its spare room.
func scribble(b []byte) {
	b = b[:cap(b)]
	for i := range b {
		b[i] ^= 0x5A
	}
}

func TestNothingIsKeptAsItWasHandedIn(t *testing.T) { // R3
	image, torn := append(filled(1), filled(2)...), []int{1}
	d := load(t, image, torn...)
	scribble(image)
	torn[0] = 0
	wantImage(t, d, append(filled(1), noughts(1)...), 1)

	b := filled(3)
	writes(t, d, 0, b)
	scribble(b)
	wantRead(t, d, 0, filled(3))
	syncs(t, d)
	wantRead(t, d, 0, filled(3))
}

// scribbleTold writes over all that a disk tells.
func scribbleTold(d *disk.Disk) {
	for n := range d.Blocks() {
		b, _ := d.Read(n)
		scribble(b)
	}
	image, torn := d.Image()
	scribble(image)
	torn = torn[:cap(torn)]
	for i := range torn {
		torn[i] = 9
	}
	pending := d.Pending()
	for i := range pending {
		scribble(pending[i].Data)
	}
	pending = pending[:cap(pending)]
	for i := range pending {
		pending[i] = api.Pending{Block: 9}
	}
}

func TestAnswersAreNewMemory(t *testing.T) { // R3
	d := busy(t)
	was, wasRead := tell(d), reads(t, d)
	scribbleTold(d)
	scribbleTold(d.Clone())
	if unlike(d, was, 3) || !slices.EqualFunc(reads(t, d), wasRead, sameBlock) {
		t.Error("a change of what was told changes the disk, or what was told ahead of it")
	}
	upset(t, d)
	scribbleTold(d)
	if !tell(busy(t)).same(was) {
		t.Error("a change of a disk changes what was told of it ahead of that")
	}
}

func TestNoTwoListsOfAnAnswerShareMemory(t *testing.T) { // R3
	d := newDisk(t, 2)
	for i := range 4 {
		writes(t, d, i%2, filled(i))
	}
	for i := range 4 {
		pending := d.Pending()
		scribble(pending[i].Data)
		for k, w := range pending {
			if k != i && !bytes.Equal(w.Data, filled(k)) {
				t.Errorf("the bytes of the writes %d and %d share memory", i, k)
			}
		}
	}
}

func TestDisksKnowNothingOfEachOther(t *testing.T) { // R4
	d, other := busy(t), busy(t)
	was := tell(d)
	upset(t, other)
	if unlike(d, was, 3) {
		t.Error("what is done with one disk changes another one")
	}
}

func TestNilAndEmptyAreTheSame(t *testing.T) { // R3
	for _, none := range [][]byte{nil, {}} {
		if d, e := disk.Load(none, nil); d != nil || e != api.ErrArg {
			t.Errorf("Load: %v", e)
		}
		if e := newDisk(t, 1).Write(0, none); e != api.ErrDiskSize {
			t.Errorf("Write: %v", e)
		}
	}
	for _, none := range [][]int{nil, {}} {
		d := busy(t)
		crashes(t, d, none...)
		wantRead(t, d, 0, filled(4))
		if d, e := disk.Load(filled(1), none); d == nil || e != api.OK {
			t.Errorf("Load: %v", e)
		}
	}
}
