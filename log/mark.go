package log

import (
	"slices"

	"keystone/api"
	"keystone/wire"
)

const (
	marks = 2              // blocks ahead of the areas, one for each mark
	turns = 3              // one more than there are marks, so that it is always told which one is the newer
	title = "keystone log" // begins a mark
)

// mark says which area is in use, and from which stamp on what lies there counts.
type mark struct {
	turn  int // each mark's is the one behind that of the mark ahead of it; behind the last one comes 0
	area  int
	since uint64 // 0: there is no mark
}

func (m mark) there() bool {
	return m.since > 0
}

// newer tells whether m, if it is there, takes the place of another one.
func (m mark) newer(other mark) bool {
	return m.there() && (!other.there() || m.turn == other.next())
}

// next is the turn of the mark behind it.
func (m mark) next() int {
	return (m.turn + 1) % turns
}

// turnTo makes an area the one in use, from the last stamp on. The mark that was there counts until the new one lies beside it.
func (l *Log) turnTo(area int) api.Errno {
	slot := 1 - l.slot
	m := mark{turn: l.mark.next(), area: area, since: l.stamp}
	if e := writeBlock(l.disk, slot, m.content(l.size)); e != api.OK {
		return e
	}
	if e := l.disk.Sync(); e != api.OK {
		return e
	}
	l.slot, l.mark = slot, m
	return api.OK
}

// content is a mark of areas of some size as a block's content.
func (m mark) content(size int) []byte {
	return slices.Concat(wire.Text(title), wire.Uint(uint64(size)), wire.Uint(uint64(m.turn)), wire.Uint(uint64(m.area)), wire.Uint(m.since))
}

// takeMark is the mark that a content is, if it is one of areas of that size.
func takeMark(content []byte, size int) mark {
	r := reader{rest: content}
	if r.text() != title || r.number(api.MaxBlocks) != uint64(size) {
		return mark{}
	}
	var m mark
	m.turn = int(r.number(turns - 1))
	m.area = int(r.number(areas - 1))
	m.since = r.number(maxStamp)
	if r.bad {
		return mark{}
	}
	return m
}
