package log_test

import (
	"testing"

	"keystone/api"
	"keystone/disk"
	"keystone/log"
)

// writesOf is how many blocks are written by something.
func writesOf(d *disk.Disk, do func()) int {
	was, _ := d.Counts()
	do()
	now, _ := d.Counts()
	return now - was
}

func TestFewWrites(t *testing.T) { // P3.7
	for seed := range 200 {
		f := &life{n: numbers(seed)}
		f.d = newDisk(t, api.MinLog+f.n.below(30))
		f.l = formats(t, f.d)
		for range 40 {
			a := f.act()
			if w := writesOf(f.d, func() { f.records = a.behind(f.records); a.do(f.l) }); w > log.Blocks(len(a.b))+4 {
				t.Errorf("script %d: %d blocks are written for %d bytes", seed, w, len(a.b))
			}
			if w := writesOf(f.d, func() { f.l = wantRecords(t, f.d, f.records...) }); w > 4 {
				t.Errorf("script %d: Open writes %d blocks", seed, w)
			}
			if f.n.below(5) > 0 {
				continue
			}
			plans(t, f.d, f.n.below(5))
			b := f.act()
			if e := b.do(f.l); e == api.OK {
				f.records = b.behind(f.records)
			}
			crashes(t, f.d, f.n.keep(f.d)...)
			if w := writesOf(f.d, func() { f.l, f.records = opens(t, f.d) }); w > 4 {
				t.Errorf("script %d: Open behind a crash writes %d blocks", seed, w)
			}
		}
	}
}

func TestAllRoomIsOfUse(t *testing.T) { // P3.6
	for blocks := api.MinLog; blocks < 30; blocks++ {
		for size := 1; size <= (blocks-2)/2; size++ { // of a record, in blocks
			d := newDisk(t, blocks)
			l := formats(t, d)
			var records [][]byte
			for round := range 5 {
				for l.Room() >= size {
					b := record(len(records), size*api.LogLoad)
					appends(t, l, b)
					records = append(records, b)
					wantRoom(t, l, d, records...)
				}
				for l.Room() > 0 { // what is left
					b := record(len(records), api.LogLoad)
					appends(t, l, b)
					records = append(records, b)
				}
				l = wantRecords(t, d, records...)
				wantRefused(t, l, d, l.Append, nil, api.ErrFull)
				b := record(round, size*api.LogLoad) // though no block is free
				if round == 3 {
					b = record(round, area(d)*api.LogLoad)
				}
				checkpoints(t, l, b)
				records = [][]byte{b}
				l = wantRecords(t, d, records...)
			}
		}
	}
}
