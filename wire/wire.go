// Package wire is layer 1: numbers and texts as bytes, each in one way only, a sum over bytes, and frames, of which a torn one is told. See shared/doc/01-wire.md.
package wire

import "keystone/api"

const (
	digitBits = 7   // bits that one byte of a number bears
	goesOn    = 128 // marks every byte of a number but its last one
	maxDigits = 10  // bytes of the greatest number
)

// Uint is a number as bytes: its digits to the base 128, the lowest first.
func Uint(n uint64) []byte {
	b := make([]byte, 0, maxDigits)
	for n >= goesOn {
		b = append(b, byte(n%goesOn)+goesOn)
		n /= goesOn
	}
	return append(b, byte(n))
}

// TakeUint is the number that stands at a place, and how many bytes it has.
func TakeUint(b []byte, at int) (uint64, int, api.Errno) {
	if !isPlace(b, at) {
		return 0, 0, api.ErrArg
	}
	var n uint64
	for i, digit := range b[at:] {
		// Nine bytes bear 63 bits: a tenth one has room for one bit more, and can't go on.
		if i == maxDigits-1 && digit > 1 {
			return 0, 0, api.ErrForm
		}
		n |= uint64(digit%goesOn) << (i * digitBits)
		if digit >= goesOn {
			continue
		}
		if digit == 0 && i > 0 { // a shorter form says the same
			return 0, 0, api.ErrForm
		}
		return n, i + 1, api.OK
	}
	return 0, 0, api.ErrForm
}

// Int is a number with a sign as bytes: those near 0 are short, either way.
func Int(n int64) []byte {
	if n < 0 {
		return Uint(^uint64(n)*2 + 1) // -2n - 1, as ^n is -n - 1
	}
	return Uint(uint64(n) * 2)
}

// TakeInt is the number with a sign that stands at a place, and how many bytes it has.
func TakeInt(b []byte, at int) (int64, int, api.Errno) {
	u, size, e := TakeUint(b, at)
	if e != api.OK {
		return 0, 0, e
	}
	half := int64(u / 2)
	if u%2 == 1 {
		return ^half, size, api.OK
	}
	return half, size, api.OK
}

// Text is a text as bytes: how many there are, and these.
func Text(s string) []byte {
	return append(Uint(uint64(len(s))), s...)
}

// TakeText is the text of at most so many bytes that stands at a place, and how many bytes it has, its length's too.
func TakeText(b []byte, at, most int) (string, int, api.Errno) {
	if !isPlace(b, at) || most < 0 {
		return "", 0, api.ErrArg
	}
	length, head, e := TakeUint(b, at)
	if e != api.OK {
		return "", 0, e
	}
	if length > uint64(most) {
		return "", 0, api.ErrLong
	}
	rest := b[at+head:]
	if length > uint64(len(rest)) {
		return "", 0, api.ErrForm
	}
	size := int(length)
	return string(rest[:size]), head + size, api.OK
}

// isPlace tells whether something may be looked for at a place of some bytes; their end is one, though nothing stands there.
func isPlace(b []byte, at int) bool {
	return 0 <= at && at <= len(b)
}
