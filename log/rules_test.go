package log_test

import (
	"bytes"
	"testing"

	"keystone/api"
	"keystone/disk"
	"keystone/log"
)

func TestNothingPanics(t *testing.T) { // R1
	for seed := range 300 {
		n := numbers(seed)
		d := whatever(t, &n, 6+n.below(12))
		l, _, e := log.Open(d)
		if e != api.OK && e != api.ErrLog {
			t.Errorf("Open: %v", e)
		}
		if n.below(2) == 0 {
			plans(t, d, n.below(9))
		}
		for range 9 {
			size := n.below(2) * n.below(api.MaxRecord+9) / (1 + n.below(1000))
			l.Append(record(1, size))
			if n.below(3) == 0 {
				l.Checkpoint(record(2, size))
			}
			l.Room()
			l.Count()
		}
		log.Format(d)
		log.Open(d)
	}
}

func TestObjectsThatNoCallMade(t *testing.T) { // R5
	for _, d := range []*disk.Disk{nil, new(disk.Disk)} {
		wantNoFormat(t, d, api.ErrMade)
		wantNoOpen(t, d, api.ErrMade)
	}
	for _, l := range []*log.Log{nil, new(log.Log)} {
		for _, size := range []int{0, 1, 300, api.MaxRecord, api.MaxRecord + 1} { // it is ahead of all else
			if e := l.Append(record(1, size)); e != api.ErrMade {
				t.Errorf("Append of %d bytes: %v", size, e)
			}
			if e := l.Checkpoint(record(1, size)); e != api.ErrMade {
				t.Errorf("Checkpoint of %d bytes: %v", size, e)
			}
			if l.Room() != 0 || l.Count() != 0 {
				t.Errorf("Room %d, Count %d", l.Room(), l.Count())
			}
		}
	}
}

// scribble writes over a list and over its spare room.
func scribble(b []byte) {
	b = b[:cap(b)]
	for i := range b {
		b[i] ^= 0x5A
	}
}

func TestWhatIsHandedInStaysAsItIs(t *testing.T) { // R3
	room := record(1, 300)
	was := bytes.Clone(room)
	l := formats(t, newDisk(t, 12))
	for _, size := range []int{0, 1, 39, 40, 41, 79, 90} {
		appends(t, l, room[:size])
		checkpoints(t, l, room[:size])
		l.Append(room) // far too much
		if !bytes.Equal(room, was) {
			t.Fatalf("a record of %d bytes was changed, or what lies behind it", size)
		}
	}
}

func TestNothingIsKeptAsItWasHandedIn(t *testing.T) { // R3
	d := newDisk(t, 20)
	l := formats(t, d)
	a, b := record(1, 90), record(2, 70)
	checkpoints(t, l, a)
	appends(t, l, b)
	scribble(a)
	scribble(b)
	wantRecords(t, d, record(1, 90), record(2, 70))
}

func TestAnswersAreNewMemory(t *testing.T) { // R3
	d := newDisk(t, 40)
	l := formats(t, d)
	want := [][]byte{record(1, 90), record(2, 40), nil, record(3, 1), record(4, 41)}
	for _, b := range want {
		appends(t, l, b)
	}
	for i := range want {
		l, records := opens(t, d)
		scribble(records[i])
		for k, b := range records {
			if k != i && !bytes.Equal(b, want[k]) {
				t.Errorf("the records %d and %d share memory", i, k)
			}
		}
		spare := records[:cap(records)]
		clear(spare)
		if l.Count() != len(want) {
			t.Errorf("Count: %d", l.Count())
		}
		wantRecords(t, d, want...)
	}
}

func TestLogsKnowNothingOfEachOther(t *testing.T) { // R4
	one, other := newDisk(t, 12), newDisk(t, 12)
	l, m := formats(t, one), formats(t, other)
	appends(t, l, record(1, 30))
	was := look(l, one)
	appends(t, m, record(2, 70))
	checkpoints(t, m, record(3, 20))
	off(t, other)
	m.Append(nil)
	if !look(l, one).same(was) {
		t.Error("what is done with one log changes another one")
	}
	wantRecords(t, one, record(1, 30))
}

func TestSameLogSameAnswers(t *testing.T) { // R4
	var first state
	for i := range 5 {
		n := numbers(77)
		d := used(t, &n, 20)
		l, _ := opens(t, d)
		s := look(l, d)
		if i == 0 {
			first = s
		}
		if !s.same(first) {
			t.Fatal("the same acts come to another thing")
		}
	}
}

func TestNilAndEmptyAreTheSame(t *testing.T) { // R3
	var images [][]byte
	for _, none := range [][]byte{nil, {}} {
		d := newDisk(t, 12)
		l := formats(t, d)
		appends(t, l, none)
		checkpoints(t, l, none)
		appends(t, l, none)
		wantRecords(t, d, none, none)
		image, _ := d.Image()
		images = append(images, image)
	}
	if !bytes.Equal(images[0], images[1]) {
		t.Error("nil is another record than an empty list")
	}
}
