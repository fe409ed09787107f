package log

import (
	"math"

	"keystone/api"
	"keystone/disk"
	"keystone/wire"
)

// maxStamp leaves room for stamps above any that is read.
const maxStamp = math.MaxInt64

// writeBlock writes a content as a block: its frame, and noughts behind.
func writeBlock(d *disk.Disk, n int, content []byte) api.Errno {
	frame, e := wire.Frame(content)
	if e != api.OK {
		return e
	}
	b := make([]byte, api.BlockSize)
	copy(b, frame)
	return d.Write(n, b)
}

// readBlock is a block's content: nothing, if the block can't be read, or bears none.
func readBlock(d *disk.Disk, n int) ([]byte, api.Errno) {
	b, e := d.Read(n)
	if e == api.ErrDiskTorn {
		return nil, api.OK
	}
	if e != api.OK {
		return nil, e
	}
	content, _, _ := wire.TakeFrame(b, 0)
	return content, api.OK
}

// reader takes one thing behind the other from the front of a content.
type reader struct {
	rest []byte
	bad  bool // something did not stand there
}

// number takes a number that is at most so great.
func (r *reader) number(most uint64) uint64 {
	n, size, e := wire.TakeUint(r.rest, 0)
	if e != api.OK || n > most {
		r.bad = true
		return 0
	}
	r.rest = r.rest[size:]
	return n
}

// text takes a text.
func (r *reader) text() string {
	s, size, e := wire.TakeText(r.rest, 0, api.BlockSize)
	if e != api.OK {
		r.bad = true
		return ""
	}
	r.rest = r.rest[size:]
	return s
}
