package disk_test

import (
	"math"
	"testing"

	"keystone/api"
	"keystone/disk"
)

func TestNew(t *testing.T) { // P2.1
	for _, blocks := range []int{1, 2, 7, api.MaxBlocks - 1, api.MaxBlocks} {
		d := newDisk(t, blocks)
		if d.Blocks() != blocks {
			t.Errorf("New(%d) has %d blocks", blocks, d.Blocks())
		}
		wantImage(t, d, noughts(blocks))
		wantRead(t, d, 0, noughts(1))
		wantRead(t, d, blocks-1, noughts(1))
		wantUnread(t, d, blocks, api.ErrDiskPlace)
		wantPending(t, d)
		wantCounts(t, d, 0, 0)
		if d.Off() {
			t.Errorf("New(%d) has no power", blocks)
		}
		if left(d) != 9 {
			t.Errorf("New(%d) has a plan", blocks)
		}
	}
}

func TestNewOfWhatMayNotBe(t *testing.T) { // P2.1
	for _, blocks := range []int{math.MinInt, -1, 0, api.MaxBlocks + 1, math.MaxInt} {
		if d, e := disk.New(blocks); d != nil || e != api.ErrArg {
			t.Errorf("New(%d): %v, %v", blocks, d, e)
		}
	}
}

func TestLoad(t *testing.T) { // P2.1
	image := append(append(filled(1), filled(2)...), filled(3)...)
	d := load(t, image)
	if d.Blocks() != 3 || d.Off() || left(d) != 9 {
		t.Error("a disk that was loaded has 3 blocks, power, no plan")
	}
	wantImage(t, d, image)
	for n := range 3 {
		wantRead(t, d, n, filled(n+1))
	}
	wantPending(t, d)
	wantCounts(t, d, 0, 0)

	crashes(t, d)
	wantImage(t, d, image) // so it was lasting
}

func TestLoadTorn(t *testing.T) { // P2.1
	image := append(append(filled(1), filled(2)...), filled(3)...)
	d := load(t, image, 2, 0, 2, 2)
	wantUnread(t, d, 0, api.ErrDiskTorn)
	wantRead(t, d, 1, filled(2))
	wantUnread(t, d, 2, api.ErrDiskTorn)
	wantImage(t, d, append(append(noughts(1), filled(2)...), noughts(1)...), 0, 2)

	d = load(t, filled(1), 0)
	wantImage(t, d, noughts(1), 0)
}

func TestLoadOfTheMost(t *testing.T) { // P2.1
	image := noughts(api.MaxBlocks)
	copy(image[len(image)-api.BlockSize:], filled(5))
	d := load(t, image, 0)
	wantRead(t, d, api.MaxBlocks-1, filled(5))
	wantUnread(t, d, 0, api.ErrDiskTorn)
}

func TestLoadOfWhatMayNotBe(t *testing.T) { // P2.1
	most := api.MaxBlocks * api.BlockSize
	for _, size := range []int{0, 1, 63, 65, 127, 129, most - 1, most + 1, most + api.BlockSize} {
		if d, e := disk.Load(make([]byte, size), nil); d != nil || e != api.ErrArg {
			t.Errorf("Load of %d bytes: %v", size, e)
		}
	}
	for _, torn := range [][]int{{-1}, {2}, {0, 1, 2}, {0, -1, 1}, {math.MinInt}, {math.MaxInt}} {
		if d, e := disk.Load(noughts(2), torn); d != nil || e != api.ErrArg {
			t.Errorf("Load of 2 blocks, torn %v: %v", torn, e)
		}
	}
}
