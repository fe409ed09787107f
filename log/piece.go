package log

import (
	"slices"

	"keystone/api"
	"keystone/wire"
)

const areas = 2 // behind the marks

// piece is the part of a record that one block bears.
type piece struct {
	stamp  uint64 // the record's; 0: there is no piece
	length int    // the record's
	number int    // among the record's pieces, from 0 on
	bytes  []byte
}

// lay writes a record, under a new stamp, into an area from one of its blocks on, and waits until it is lasting.
func (l *Log) lay(b []byte, area, at int) api.Errno {
	l.stamp++
	for i := range Blocks(len(b)) {
		from, to := bounds(i, len(b))
		p := piece{stamp: l.stamp, length: len(b), number: i, bytes: b[from:to]}
		if e := writeBlock(l.disk, l.place(area, at+i), p.content()); e != api.OK {
			return e
		}
	}
	return l.disk.Sync()
}

// place is the disk's block that is an area's block i.
func (l *Log) place(area, i int) int {
	return marks + area*l.size + i
}

// readPieces are the pieces on both areas' blocks, one area behind the other.
func (l *Log) readPieces() ([]piece, api.Errno) {
	pieces := make([]piece, areas*l.size)
	for i := range pieces {
		content, e := readBlock(l.disk, marks+i)
		if e != api.OK {
			return nil, e
		}
		pieces[i] = takePiece(content)
	}
	return pieces, api.OK
}

// gather puts together the records that stand one behind the other from an area's front on, up to the first place at which no whole one stands that counts.
func gather(area []piece, since uint64) [][]byte {
	var records [][]byte
	at := 0
search:
	for at < len(area) {
		first := area[at]
		end := at + Blocks(first.length)
		if first.stamp < since || end > len(area) {
			break
		}
		record := make([]byte, first.length)
		for i, p := range area[at:end] {
			if p.stamp != first.stamp || p.number != i {
				break search
			}
			copy(record[i*api.LogLoad:], p.bytes)
		}
		records = append(records, record)
		at = end
	}
	return records
}

// content is a piece as a block's content.
func (p piece) content() []byte {
	return slices.Concat(wire.Uint(p.stamp), wire.Uint(uint64(p.length)), wire.Uint(uint64(p.number)), p.bytes)
}

// takePiece is the piece that a content is, if it is one.
func takePiece(content []byte) piece {
	r := reader{rest: content}
	var p piece
	p.stamp = r.number(maxStamp)
	p.length = int(r.number(api.MaxRecord))
	p.number = int(r.number(api.MaxBlocks))
	p.bytes = r.rest
	from, to := bounds(p.number, p.length)
	if r.bad || len(p.bytes) != to-from {
		return piece{}
	}
	return p
}

// bounds are where a piece of a record of so many bytes begins and ends.
func bounds(number, length int) (int, int) {
	from := number * api.LogLoad
	return from, min(from+api.LogLoad, length)
}
