package tuple

import (
	"keystone/api"
	"keystone/wire"
)

// Encode is a list of values as bytes.
func Encode(l []api.Value) ([]byte, api.Errno) {
	if e := CheckList(l); e != api.OK {
		return nil, e
	}
	b := wire.Uint(uint64(len(l)))
	for _, v := range l {
		b = appendRowValue(b, v)
	}
	return b, api.OK
}

// appendRowValue puts a value of a list behind some bytes.
func appendRowValue(b []byte, v api.Value) []byte {
	b = append(b, byte(v.Kind))
	switch v.Kind {
	case api.KInt:
		return append(b, wire.Int(v.Int)...)
	case api.KBool:
		return append(b, boolByte(v.Yes))
	case api.KBytes:
		return append(b, wire.Text(v.Bytes)...)
	}
	b = append(b, wire.Int(int64(real(v.Point)))...)
	return append(b, wire.Int(int64(imag(v.Point)))...)
}

// Decode is the list of values whose bytes these are.
func Decode(b []byte) ([]api.Value, api.Errno) {
	count, size, e := wire.TakeUint(b, 0)
	if e != api.OK || count > maxValues {
		return nil, api.ErrTupleRow
	}
	r := reader{rest: b[size:]}
	l := make([]api.Value, 0, count)
	for range count {
		l = append(l, r.value())
	}
	// The reader takes points from anywhere: whether they are too far away is the list's matter.
	if r.bad || len(r.rest) > 0 || CheckList(l) != api.OK {
		return nil, api.ErrTupleRow
	}
	return l, api.OK
}

// reader takes one thing behind the other from the front of a list's bytes.
type reader struct {
	rest []byte
	bad  bool // something did not stand there
}

// value takes a value: its kind, and what it is.
func (r *reader) value() api.Value {
	switch int(r.single()) {
	case api.KInt:
		return Int(r.number())
	case api.KBool:
		return Bool(r.truth())
	case api.KBytes:
		return Bytes(r.text())
	case api.KPoint:
		re := r.number()
		return Point(re, r.number())
	}
	r.bad = true
	return api.Value{}
}

// single takes a byte.
func (r *reader) single() byte {
	if len(r.rest) == 0 {
		r.bad = true
		return 0
	}
	c := r.rest[0]
	r.rest = r.rest[1:]
	return c
}

// truth takes a bool.
func (r *reader) truth() bool {
	c := r.single()
	if c > 1 {
		r.bad = true
	}
	return c == 1
}

// number takes a number with a sign.
func (r *reader) number() int64 {
	n, size, e := wire.TakeInt(r.rest, 0)
	r.leave(size, e)
	return n
}

// text takes bytes that are not too long.
func (r *reader) text() string {
	s, size, e := wire.TakeText(r.rest, 0, api.MaxBytes)
	r.leave(size, e)
	return s
}

// leave goes on behind so many bytes that were taken.
func (r *reader) leave(size int, e api.Errno) {
	if e != api.OK {
		r.bad = true
	}
	r.rest = r.rest[size:]
}
