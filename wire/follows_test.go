package wire_test

import (
	"bytes"
	"testing"

	"keystone/api"
	"keystone/wire"
)

// behinds are bytes that stand behind something that is taken.
func behinds() [][]byte {
	return [][]byte{nil, {0}, {1}, {127}, {128}, {255}, repeat(0, 12), repeat(255, 12), {128, 1, 128, 1}}
}

func TestNumbersThereAndBack(t *testing.T) { // P1.5
	for _, behind := range behinds() {
		for _, n := range manyUints() {
			put := wire.Uint(n)
			got, size, e := wire.TakeUint(append(bytes.Clone(put), behind...), 0)
			if got != n || size != len(put) || e != api.OK {
				t.Errorf("Uint(%d), behind it %v: %d, %d, %v", n, behind, got, size, e)
			}
		}
		for _, n := range manyInts() {
			put := wire.Int(n)
			got, size, e := wire.TakeInt(append(bytes.Clone(put), behind...), 0)
			if got != n || size != len(put) || e != api.OK {
				t.Errorf("Int(%d), behind it %v: %d, %d, %v", n, behind, got, size, e)
			}
		}
	}
}

func TestTextsAndFramesThereAndBack(t *testing.T) { // P1.5
	for _, behind := range behinds() {
		for _, s := range manyTexts() {
			put := wire.Text(s)
			got, size, e := wire.TakeText(append(bytes.Clone(put), behind...), 0, len(s))
			if got != s || size != len(put) || e != api.OK {
				t.Errorf("Text of %d bytes, behind it %v: %d, %v", len(s), behind, size, e)
			}
		}
		for _, c := range manyContents() {
			put := frame(t, c)
			got, size, e := wire.TakeFrame(append(bytes.Clone(put), behind...), 0)
			if !bytes.Equal(got, c) || size != len(put) || e != api.OK {
				t.Errorf("Frame of %d bytes, behind it %v: %d, %v", len(c), behind, size, e)
			}
		}
	}
}

// someBytes are bytes that nothing was put into, of few digits each so that many of them are numbers and texts.
func someBytes() [][]byte {
	digits := []byte{0, 1, 2, 127, 128, 129, 255}
	l := [][]byte{nil}
	for from, n := 0, 0; n < 4; n++ {
		to := len(l)
		for _, b := range l[from:to] {
			for _, d := range digits {
				l = append(l, append(bytes.Clone(b), d))
			}
		}
		from = to
	}
	for _, b := range notUints() {
		l = append(l, b, append(repeat(200, 3), b...))
	}
	return append(l, repeat(255, 9, 1), repeat(128, 9, 1), repeat(129, 8, 3), make([]byte, 20), noise(200))
}

func TestWhatIsTakenIsPutAsItWas(t *testing.T) { // P1.5
	for _, b := range someBytes() {
		for at := range len(b) + 1 {
			if n, size, e := wire.TakeUint(b, at); e == api.OK && !bytes.Equal(wire.Uint(n), b[at:at+size]) {
				t.Errorf("TakeUint(%v, %d): %d has other bytes", b, at, n)
			}
			if n, size, e := wire.TakeInt(b, at); e == api.OK && !bytes.Equal(wire.Int(n), b[at:at+size]) {
				t.Errorf("TakeInt(%v, %d): %d has other bytes", b, at, n)
			}
			if s, size, e := wire.TakeText(b, at, len(b)); e == api.OK && !bytes.Equal(wire.Text(s), b[at:at+size]) {
				t.Errorf("TakeText(%v, %d): %q has other bytes", b, at, s)
			}
			if c, size, e := wire.TakeFrame(b, at); e == api.OK && !bytes.Equal(frame(t, c), b[at:at+size]) {
				t.Errorf("TakeFrame(%v, %d): %v has other bytes", b, at, c)
			}
		}
	}
}

// beginsAnother tells whether one of some things, no two of which are of the same, begins another one.
func beginsAnother(things [][]byte) bool {
	begins := map[string]int{}
	for _, b := range things {
		for n := range b {
			begins[string(b[:n])]++
		}
	}
	for _, b := range things {
		if begins[string(b)] > 0 {
			return true
		}
	}
	return false
}

func TestNoneBeginsAnotherOne(t *testing.T) { // P1.6
	var uints, ints, texts, frames [][]byte
	for _, n := range manyUints() {
		uints = append(uints, wire.Uint(n))
	}
	for _, n := range manyInts() {
		ints = append(ints, wire.Int(n))
	}
	for n := range uint64(1 << 15) {
		uints = append(uints, wire.Uint(n))
		ints = append(ints, wire.Int(int64(n)-1<<14))
	}
	for _, s := range manyTexts() {
		if len(s) <= 300 {
			texts = append(texts, wire.Text(s))
		}
	}
	for _, c := range manyContents() {
		if len(c) <= 1000 {
			frames = append(frames, frame(t, c))
		}
	}
	for i, things := range [][][]byte{uints, ints, texts, frames} {
		if beginsAnother(things) {
			t.Errorf("one of the things of sort %d begins another one", i)
		}
	}
}

func TestNoBeginningIsOne(t *testing.T) { // P1.6: what is cut off is none any more
	for _, n := range manyUints() {
		b := wire.Uint(n)
		for k := range b {
			if _, _, e := wire.TakeUint(b[:k], 0); e != api.ErrForm {
				t.Errorf("%d bytes of Uint(%d): %v", k, n, e)
			}
			if _, _, e := wire.TakeInt(b[:k], 0); e != api.ErrForm {
				t.Errorf("%d bytes of an Int: %v", k, e)
			}
		}
	}
	for _, s := range manyTexts() {
		b := wire.Text(s)
		for k := 0; k < len(b); k += 1 + len(b)/200 {
			if _, _, e := wire.TakeText(b[:k], 0, len(s)); e != api.ErrForm {
				t.Errorf("%d of the %d bytes of a Text: %v", k, len(b), e)
			}
		}
	}
}

func TestOneBitTurnedOver(t *testing.T) { // P1.7
	for _, c := range manyContents() {
		if len(c) > 300 {
			continue
		}
		f := frame(t, c)
		for _, behind := range [][]byte{nil, make([]byte, 600), noise(600), f} {
			for bit := range 8 * len(f) {
				b := append(bytes.Clone(f), behind...)
				b[bit/8] ^= 1 << (bit % 8)
				got, size, e := wire.TakeFrame(b, 0)
				if e == api.OK && size == len(f) {
					t.Errorf("a frame of %d bytes with its bit %d turned over: %v", len(f), bit, got)
				}
				if e != api.OK && e != api.ErrForm {
					t.Errorf("a frame of %d bytes with its bit %d turned over: %v", len(f), bit, e)
				}
			}
		}
	}
}

func TestOneBitOfALongFrameTurnedOver(t *testing.T) { // P1.7
	f := frame(t, noise(1<<16))
	for bit := 0; bit < 8*len(f); bit += 4099 {
		f[bit/8] ^= 1 << (bit % 8)
		if _, size, e := wire.TakeFrame(f, 0); e == api.OK && size == len(f) {
			t.Errorf("bit %d turned over: a frame still", bit)
		}
		f[bit/8] ^= 1 << (bit % 8)
	}
}
