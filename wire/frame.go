package wire

import (
	"iter"

	"keystone/api"
)

const (
	castagnoli = 0x82F63B78 // the polynomial of CRC-32C, the highest power in the lowest bit

	wordSize = 4            // bytes of a frame's length, and of its sum
	headSize = 2 * wordSize // bytes of a frame ahead of its content
)

// Sum is CRC-32C.
func Sum(b []byte) uint32 {
	register := ^uint32(0)
	for _, c := range b {
		register ^= uint32(c)
		for range 8 {
			out := register & 1
			// -out is all ones or none: a branch here would be guessed wrong half the time.
			register = register>>1 ^ castagnoli&-out
		}
	}
	return ^register
}

// Frame is a content of bytes with its length and its sum ahead of it.
func Frame(b []byte) ([]byte, api.Errno) {
	if len(b) > api.MaxFrame {
		return nil, api.ErrLong
	}
	f := make([]byte, headSize+len(b))
	putWord(f, uint32(len(b)))
	putWord(f[wordSize:], Sum(b))
	copy(f[headSize:], b)
	return f, api.OK
}

// TakeFrame is the content of the frame that stands at a place, and how many bytes the frame has.
func TakeFrame(b []byte, at int) ([]byte, int, api.Errno) {
	if !isPlace(b, at) {
		return nil, 0, api.ErrArg
	}
	head := b[at:]
	if len(head) < headSize {
		return nil, 0, api.ErrForm
	}
	length, rest := word(head), head[headSize:]
	if length > api.MaxFrame || int(length) > len(rest) {
		return nil, 0, api.ErrForm
	}
	if Sum(rest[:length]) != word(head[wordSize:]) {
		return nil, 0, api.ErrForm
	}
	content := make([]byte, length)
	copy(content, rest)
	return content, headSize + len(content), api.OK
}

// Frames goes through the contents of the frames that stand one behind the other from the front, each with its frame's place.
func Frames(b []byte) iter.Seq2[int, []byte] {
	asked := make([]byte, len(b)) // what is told is what stood there when it was asked for, whatever becomes of b
	copy(asked, b)
	return func(yield func(int, []byte) bool) {
		at := 0
		for {
			content, size, e := TakeFrame(asked, at)
			if e != api.OK || !yield(at, content) {
				return
			}
			at += size
		}
	}
}

// putWord writes four bytes, the lowest first.
func putWord(b []byte, n uint32) {
	for i := range wordSize {
		b[i] = byte(n >> (8 * i))
	}
}

// word reads four bytes, the lowest first.
func word(b []byte) uint32 {
	var n uint32
	for i := range wordSize {
		n |= uint32(b[i]) << (8 * i)
	}
	return n
}
