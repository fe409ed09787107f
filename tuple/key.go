package tuple

import (
	"cmp"
	"slices"

	"keystone/api"
)

const (
	intSize = 8       // bytes of an int in a key, behind its kind
	middle  = 1 << 63 // added to an int, it brings those below 0 ahead of the others

	noughtByte = 0   // two of it end the bytes of a value
	ownByte    = 255 // behind a nought it says that this is one of the value's own
	lastByte   = 255 // no byte is greater
)

// Compare is the order of keys: -1, if a stands ahead of b, 0, if they are the same, and 1, if b stands ahead.
func Compare(a, b []api.Value) (int, api.Errno) {
	if e := checkKey(a); e != api.OK {
		return 0, e
	}
	if e := checkKey(b); e != api.OK {
		return 0, e
	}
	return slices.CompareFunc(a, b, compareValues), api.OK
}

// checkKey tells whether a list may be a key.
func checkKey(l []api.Value) api.Errno {
	return checkEach(l, checkKeyValue)
}

// checkKeyValue tells whether a value may stand in a key.
func checkKeyValue(v api.Value) api.Errno {
	if e := Check(v); e != api.OK {
		return e
	}
	if v.Kind == api.KPoint {
		return api.ErrKind
	}
	return api.OK
}

// compareValues is the order of values that may stand in keys.
func compareValues(a, b api.Value) int {
	if a.Kind != b.Kind {
		return cmp.Compare(a.Kind, b.Kind)
	}
	switch a.Kind {
	case api.KInt:
		return cmp.Compare(a.Int, b.Int)
	case api.KBool:
		return cmp.Compare(boolByte(a.Yes), boolByte(b.Yes))
	}
	return cmp.Compare(a.Bytes, b.Bytes)
}

// boolByte is a bool as a byte.
func boolByte(b bool) byte {
	if b {
		return 1
	}
	return 0
}

// Key is a key as bytes, which stand in the keys' order.
func Key(l []api.Value) (string, api.Errno) {
	if e := checkKey(l); e != api.OK {
		return "", e
	}
	var b []byte
	for _, v := range l {
		b = appendKeyValue(b, v)
	}
	return string(b), api.OK
}

// appendKeyValue puts a value of a key behind some bytes.
func appendKeyValue(b []byte, v api.Value) []byte {
	b = append(b, byte(v.Kind))
	switch v.Kind {
	case api.KInt:
		return appendKeyInt(b, v.Int)
	case api.KBool:
		return append(b, boolByte(v.Yes))
	}
	return appendKeyBytes(b, v.Bytes)
}

func appendKeyInt(b []byte, n int64) []byte {
	u := uint64(n) + middle
	for i := range intSize {
		b = append(b, byte(u>>(8*(intSize-1-i))))
	}
	return b
}

func appendKeyBytes(b []byte, s string) []byte {
	for i := range len(s) {
		b = append(b, s[i])
		if s[i] == noughtByte {
			b = append(b, ownByte)
		}
	}
	return append(b, noughtByte, noughtByte)
}

// FromKey is the key whose bytes these are.
func FromKey(s string) ([]api.Value, api.Errno) {
	var l []api.Value
	for s != "" {
		v, size := takeKeyValue(s)
		if size == 0 || len(l) == maxValues {
			return nil, api.ErrTupleKey
		}
		l = append(l, v)
		s = s[size:]
	}
	return l, api.OK
}

// takeKeyValue is the value that a key's bytes begin with, and how many of them it has: none, if no value stands there.
func takeKeyValue(s string) (api.Value, int) {
	rest := s[1:]
	switch int(s[0]) {
	case api.KInt:
		if len(rest) >= intSize {
			return Int(keyInt(rest)), 1 + intSize
		}
	case api.KBool:
		if rest != "" && rest[0] <= 1 {
			return Bool(rest[0] == 1), 2
		}
	case api.KBytes:
		if own, size := takeKeyBytes(rest); size > 0 {
			return Bytes(own), 1 + size
		}
	}
	return api.Value{}, 0
}

func keyInt(s string) int64 {
	var u uint64
	for i := range intSize {
		u = u<<8 | uint64(s[i])
	}
	return int64(u - middle)
}

// takeKeyBytes are the bytes of a value up to their end, and how many of a key's bytes say so, those of the end too: none, if there is no end, or the value's are too many.
func takeKeyBytes(s string) (string, int) {
	var own []byte
	for i := 0; i < len(s) && len(own) <= api.MaxBytes; i++ {
		own = append(own, s[i])
		if s[i] != noughtByte {
			continue
		}
		i++
		if i < len(s) && s[i] == noughtByte {
			return string(own[:len(own)-1]), i + 1
		}
		if i == len(s) || s[i] != ownByte {
			break
		}
	}
	return "", 0
}

// Above is the least text that stands above all that begin with s; false, if there is none.
func Above(s string) (string, bool) {
	n := len(s)
	for n > 0 && s[n-1] == lastByte {
		n--
	}
	if n == 0 {
		return "", false
	}
	b := []byte(s[:n])
	b[n-1]++
	return string(b), true
}
