package log_test

import (
	"bytes"
	"slices"
	"testing"

	"keystone/api"
	"keystone/disk"
	"keystone/log"
)

// state is all that is to be seen of a log and its disk.
type state struct {
	image         []byte
	torn          []int
	pending       int
	writes, syncs int
	room, count   int
}

func look(l *log.Log, d *disk.Disk) state {
	var s state
	s.image, s.torn = d.Image()
	s.pending = len(d.Pending())
	s.writes, s.syncs = d.Counts()
	s.room, s.count = l.Room(), l.Count()
	return s
}

func (s state) same(o state) bool {
	return bytes.Equal(s.image, o.image) && slices.Equal(s.torn, o.torn) && s.pending == o.pending &&
		s.writes == o.writes && s.syncs == o.syncs && s.room == o.room && s.count == o.count
}

// wantRefused looks whether a record is refused, and nothing changes.
func wantRefused(t *testing.T, l *log.Log, d *disk.Disk, do func([]byte) api.Errno, b []byte, want api.Errno) {
	t.Helper()
	was := look(l, d)
	if e := do(b); e != want {
		t.Errorf("%d bytes: %v, not %v", len(b), e, want)
	}
	if !look(l, d).same(was) {
		t.Errorf("%d bytes: refused, but something has changed", len(b))
	}
}

func TestRoomOfRecords(t *testing.T) { // P3.3, P3.4
	d := newDisk(t, 10)
	l := formats(t, d)
	appends(t, l, record(1, 100))
	wantRoom(t, l, d, record(1, 100))
	wantRefused(t, l, d, l.Append, record(2, 41), api.ErrFull)
	appends(t, l, record(3, 40))
	wantRoom(t, l, d, record(1, 100), record(3, 40))
	wantRefused(t, l, d, l.Append, nil, api.ErrFull)
	wantRefused(t, l, d, l.Append, record(4, 1), api.ErrFull)
	wantRecords(t, d, record(1, 100), record(3, 40))

	wantRefused(t, l, d, l.Checkpoint, record(5, 161), api.ErrFull)
	checkpoints(t, l, record(6, 160))
	wantRoom(t, l, d, record(6, 160))
	wantRefused(t, l, d, l.Append, nil, api.ErrFull)
	checkpoints(t, l, record(7, 41))
	wantRoom(t, l, d, record(7, 41))
	appends(t, l, record(8, 80))
	wantRoom(t, l, d, record(7, 41), record(8, 80))
	wantRecords(t, d, record(7, 41), record(8, 80))
}

func TestLongRecords(t *testing.T) { // P3.3
	most := record(1, api.MaxRecord)
	d := newDisk(t, 2+2*log.Blocks(api.MaxRecord))
	l := formats(t, d)
	appends(t, l, most)
	wantRecords(t, d, most)
	long := record(2, api.MaxRecord+1)
	wantRefused(t, l, d, l.Append, long, api.ErrLong) // there is no room for it either
	wantRefused(t, l, d, l.Checkpoint, long, api.ErrLong)
	wantRefused(t, l, d, l.Append, most, api.ErrFull)
	checkpoints(t, l, record(3, api.MaxRecord))
	wantRecords(t, d, record(3, api.MaxRecord))

	small := newDisk(t, 6)
	l = formats(t, small)
	wantRefused(t, l, small, l.Append, long, api.ErrLong)
	wantRefused(t, l, small, l.Checkpoint, long, api.ErrLong)
	wantRefused(t, l, small, l.Append, most, api.ErrFull)
	wantRefused(t, l, small, l.Checkpoint, most, api.ErrFull)

	large := newDisk(t, api.MaxBlocks)
	l = formats(t, large)
	wantRefused(t, l, large, l.Append, long, api.ErrLong) // though there were room
	wantRefused(t, l, large, l.Checkpoint, long, api.ErrLong)
}

func TestALogThatIsOver(t *testing.T) { // P3.3, P3.4
	for _, checkpoint := range []bool{false, true} {
		d := newDisk(t, 12)
		l := formats(t, d)
		appends(t, l, record(1, 50))
		off(t, d)
		// Nothing is asked of the disk by these: the log goes on.
		wantRefused(t, l, d, l.Append, record(2, 200), api.ErrFull)
		wantRefused(t, l, d, l.Checkpoint, record(2, 201), api.ErrFull)
		wantRefused(t, l, d, l.Append, record(2, api.MaxRecord+1), api.ErrLong)
		wantRoom(t, l, d, record(1, 50))
		do := l.Append
		if checkpoint {
			do = l.Checkpoint
		}
		if e := do(record(3, 20)); e != api.ErrDiskOff {
			t.Errorf("without power: %v", e)
		}
		wantOver(t, l, d)
		crashes(t, d)
		wantOver(t, l, d) // power or none
		l = wantRecords(t, d, record(1, 50))
		appends(t, l, record(4, 20))
		wantRecords(t, d, record(1, 50), record(4, 20))
	}
}

// wantOver looks whether a log is over.
func wantOver(t *testing.T, l *log.Log, d *disk.Disk) {
	t.Helper()
	if l.Room() != 0 || l.Count() != 0 {
		t.Errorf("a log that is over: Room %d, Count %d", l.Room(), l.Count())
	}
	for _, b := range [][]byte{nil, record(1, 20), record(1, 300), record(1, api.MaxRecord+1)} {
		wantRefused(t, l, d, l.Append, b, api.ErrOver)
		wantRefused(t, l, d, l.Checkpoint, b, api.ErrOver)
	}
}

func TestEveryDiskErrorEndsTheLog(t *testing.T) { // P3.3
	for _, checkpoint := range []bool{false, true} {
		cut := 0
		for ; cut < 20; cut++ {
			d := newDisk(t, 12)
			l := formats(t, d)
			do := l.Append
			if checkpoint {
				do = l.Checkpoint
			}
			plans(t, d, cut)
			e := do(record(1, 100))
			if e == api.OK {
				break
			}
			if e != api.ErrDiskOff {
				t.Errorf("a cut at %d: %v", cut, e)
			}
			wantOver(t, l, d)
		}
		if cut < 4 || cut == 20 { // three blocks and a sync at least
			t.Errorf("it is done behind %d writes and syncs", cut)
		}
	}
}
