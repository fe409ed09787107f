package log

import (
	"keystone/api"
	"keystone/disk"
)

// Format makes an empty log, whatever was on the disk. A loss of power leaves the log that was there, or an empty one.
func Format(d *disk.Disk) (*Log, api.Errno) {
	l, e := find(d)
	if e != api.OK {
		return nil, e
	}
	was := l.mark.area
	other := 1 - was
	if e := l.wipe(other); e != api.OK {
		return nil, e
	}
	l.stamp = 1
	if e := l.turnTo(other); e != api.OK {
		return nil, e
	}
	if e := l.wipe(was); e != api.OK { // no stamp must be left that a new record may come to bear
		return nil, e
	}
	return l, api.OK
}

// Open finds the log that lies on a disk, and its records.
func Open(d *disk.Disk) (*Log, [][]byte, api.Errno) {
	l, e := find(d)
	if e != api.OK {
		return nil, nil, e
	}
	if !l.mark.there() {
		return nil, nil, api.ErrLog
	}
	pieces, e := l.readPieces()
	if e != api.OK {
		return nil, nil, e
	}
	l.stamp = l.mark.since
	for _, p := range pieces { // of both areas: what does not count now must not come to count later
		l.stamp = max(l.stamp, p.stamp)
	}
	records := gather(pieces[l.mark.area*l.size:][:l.size], l.mark.since)
	for _, r := range records {
		l.used += Blocks(len(r))
	}
	l.count = len(records)
	return l, records, api.OK
}

// find is a log as far as a disk's marks tell it.
func find(d *disk.Disk) (*Log, api.Errno) {
	blocks := d.Blocks()
	if blocks == 0 { // a disk that a call made has at least one
		return nil, api.ErrMade
	}
	if blocks < api.MinLog {
		return nil, api.ErrArg
	}
	l := &Log{disk: d, size: (blocks - marks) / areas}
	for slot := range marks {
		content, e := readBlock(d, slot)
		if e != api.OK {
			return nil, e
		}
		if m := takeMark(content, l.size); m.newer(l.mark) {
			l.slot, l.mark = slot, m
		}
	}
	return l, api.OK
}

// wipe makes an area's blocks noughts, and waits until they are lasting.
func (l *Log) wipe(area int) api.Errno {
	for i := range l.size {
		if e := l.disk.Write(l.place(area, i), make([]byte, api.BlockSize)); e != api.OK {
			return e
		}
	}
	return l.disk.Sync()
}
