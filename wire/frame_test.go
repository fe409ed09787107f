package wire_test

import (
	"bytes"
	"encoding/binary"
	"hash/crc32"
	"testing"

	"keystone/api"
	"keystone/wire"
)

// noise is so many bytes of a fixed row that looks like none.
func noise(n int) []byte {
	b := make([]byte, n)
	x := uint32(2463534242)
	for i := range b {
		x ^= x << 13
		x ^= x >> 17
		x ^= x << 5
		b[i] = byte(x >> 11)
	}
	return b
}

// rising are the bytes from 0 on.
func rising(n int) []byte {
	b := make([]byte, n)
	for i := range b {
		b[i] = byte(i)
	}
	return b
}

// falling are the bytes down to 0.
func falling(n int) []byte {
	b := make([]byte, n)
	for i := range b {
		b[i] = byte(n - 1 - i)
	}
	return b
}

// manyContents are contents of frames, of all sorts and lengths.
func manyContents() [][]byte {
	l := [][]byte{nil, {0}, {1}, {255}, {0, 0}, {0, 1}, {1, 0}, make([]byte, 8), make([]byte, 9)}
	for _, n := range []int{3, 7, 8, 9, 40, 64, 255, 256, 257, 1000, 65536} {
		l = append(l, noise(n))
	}
	return l
}

// frame is the frame of a content that is not too long.
func frame(t *testing.T, content []byte) []byte {
	t.Helper()
	f, e := wire.Frame(content)
	if e != api.OK {
		t.Fatalf("Frame of %d bytes: %v", len(content), e)
	}
	return f
}

// head is a frame's first eight bytes.
func head(length, sum uint32) []byte {
	return binary.LittleEndian.AppendUint32(binary.LittleEndian.AppendUint32(nil, length), sum)
}

func TestSumOfKnownBytes(t *testing.T) { // P1.3: the sums that RFC 3720 lists, and the usual one
	for _, x := range []struct {
		b    []byte
		want uint32
	}{
		{nil, 0},
		{[]byte{}, 0},
		{[]byte("123456789"), 0xE3069283},
		{make([]byte, 32), 0x8A9136AA},
		{repeat(255, 32), 0x62A8AB43},
		{rising(32), 0x46DD794E},
		{falling(32), 0x113FDB5C},
	} {
		if got := wire.Sum(x.b); got != x.want {
			t.Errorf("Sum(%v): %X, not %X", x.b, got, x.want)
		}
	}
}

func TestSumIsCRC32C(t *testing.T) { // P1.3
	table := crc32.MakeTable(crc32.Castagnoli)
	for c := range 256 {
		if b := []byte{byte(c)}; wire.Sum(b) != crc32.Checksum(b, table) {
			t.Errorf("Sum of the byte %d: %X", c, wire.Sum(b))
		}
	}
	b := noise(4096)
	for n := range 300 {
		if wire.Sum(b[:n]) != crc32.Checksum(b[:n], table) {
			t.Errorf("Sum of %d bytes: %X", n, wire.Sum(b[:n]))
		}
	}
	if wire.Sum(b) != crc32.Checksum(b, table) {
		t.Errorf("Sum of %d bytes: %X", len(b), wire.Sum(b))
	}
}

func TestFrameOfOrdinaryContents(t *testing.T) { // P1.4
	if f := frame(t, nil); !bytes.Equal(f, make([]byte, 8)) {
		t.Errorf("Frame of nothing: %v", f)
	}
	want := append([]byte{9, 0, 0, 0, 0x83, 0x92, 0x06, 0xE3}, "123456789"...)
	if f := frame(t, []byte("123456789")); !bytes.Equal(f, want) {
		t.Errorf("Frame of nine digits: %v", f)
	}
	for _, c := range manyContents() {
		want := append(head(uint32(len(c)), wire.Sum(c)), c...)
		if f := frame(t, c); !bytes.Equal(f, want) {
			t.Errorf("Frame of %d bytes: its head is %v", len(c), f[:8])
		}
	}
}

func TestFrameOfMaxFrameBytesAndOneMore(t *testing.T) { // P1.4
	c := noise(api.MaxFrame + 1)
	most := c[:api.MaxFrame]
	f := frame(t, most)
	if !bytes.Equal(f, append([]byte{0, 0, 16, 0}, append(head(0, wire.Sum(most))[4:], most...)...)) {
		t.Error("Frame of MaxFrame bytes")
	}
	if got, size, e := wire.TakeFrame(f, 0); !bytes.Equal(got, most) || size != api.MaxFrame+8 || e != api.OK {
		t.Error("TakeFrame of MaxFrame bytes", size, e)
	}
	if f, e := wire.Frame(c); f != nil || e != api.ErrLong {
		t.Error("Frame of one byte more", len(f), e)
	}
	long := append(head(api.MaxFrame+1, wire.Sum(c)), c...)
	if got, size, e := wire.TakeFrame(long, 0); got != nil || size != 0 || e != api.ErrForm {
		t.Error("TakeFrame of one byte more, whose sum is right", size, e)
	}
	for at := range wire.Frames(long) {
		t.Error("Frames tells one byte more at", at)
	}
}

func TestTakeFrameTakesWhatStandsAtThePlace(t *testing.T) { // P1.4
	for _, c := range manyContents() {
		b := append([]byte{1, 2, 3}, frame(t, c)...)
		b = append(b, 9, 8, 7)
		got, size, e := wire.TakeFrame(b, 3)
		if !bytes.Equal(got, c) || size != len(c)+8 || e != api.OK {
			t.Errorf("TakeFrame of %d bytes: %d, %v", len(c), size, e)
		}
	}
}

func TestTakeFrameOutsideOfTheBytes(t *testing.T) { // P1.4, R2
	for _, b := range [][]byte{nil, {}, {1}, make([]byte, 8), frame(t, []byte("ab"))} {
		for _, at := range notPlaces(b) {
			if c, size, e := wire.TakeFrame(b, at); c != nil || size != 0 || e != api.ErrArg {
				t.Errorf("TakeFrame(%v, %d): %v, %d, %v", b, at, c, size, e)
			}
		}
		if c, size, e := wire.TakeFrame(b, len(b)); c != nil || size != 0 || e != api.ErrForm {
			t.Errorf("TakeFrame(%v) at the end: %v, %d, %v", b, c, size, e)
		}
	}
}

func TestTakeFrameRefusesTornFrames(t *testing.T) { // P1.4, R2
	for _, c := range [][]byte{nil, {0}, []byte("ab"), noise(300)} {
		f := frame(t, c)
		for n := range f {
			if got, size, e := wire.TakeFrame(f[:n], 0); got != nil || size != 0 || e != api.ErrForm {
				t.Errorf("%d of a frame's %d bytes: %d, %v", n, len(f), size, e)
			}
		}
	}
}

func TestTakeFrameRefusesSpoiltFrames(t *testing.T) { // P1.4, R2
	c := noise(20)
	sum := wire.Sum(c)
	for _, b := range [][]byte{
		append(head(20, sum+1), c...),
		append(head(20, ^sum), c...),
		append(head(20, 0), c...),
		append(head(19, sum), c...),
		append(head(21, sum), c...),
		append(head(21, sum), append(noise(20), 7)...),
		append(head(0, sum), c...),
		append(head(1<<31, sum), c...),
		append(head(1<<32-1, sum), c...),
		append(head(1<<24|20, sum), c...),
		append(head(api.MaxFrame, sum), c...),
		append(head(20, sum), falling(20)...),
		head(0, 1),
		head(0, 1<<32-1),
		head(1, 0),
		{20, 0, 0, 0},
	} {
		if got, size, e := wire.TakeFrame(b, 0); got != nil || size != 0 || e != api.ErrForm {
			t.Errorf("TakeFrame(%v): %v, %d, %v", b, got, size, e)
		}
	}
}

// told is one thing that a walk over frames tells.
type told struct {
	at      int
	content string
}

// walk is all that a walk over the frames of b tells.
func walk(b []byte) []told {
	var l []told
	for at, c := range wire.Frames(b) {
		l = append(l, told{at, string(c)})
	}
	return l
}

// sameWalk tells whether two walks told the same.
func sameWalk(a, b []told) bool {
	if len(a) != len(b) {
		return false
	}
	for i := range a {
		if a[i] != b[i] {
			return false
		}
	}
	return true
}

// laid are the frames of contents one behind the other, and what a walk over them tells.
func laid(t *testing.T, contents ...[]byte) ([]byte, []told) {
	t.Helper()
	var b []byte
	var l []told
	for _, c := range contents {
		l = append(l, told{len(b), string(c)})
		b = append(b, frame(t, c)...)
	}
	return b, l
}

func TestFramesGoesThroughAllFrames(t *testing.T) { // P1.4
	b, want := laid(t, manyContents()...)
	if got := walk(b); !sameWalk(got, want) {
		t.Errorf("Frames tells %d of %d frames", len(got), len(want))
	}
	if got := walk(nil); got != nil {
		t.Error("frames of nothing", got)
	}
	if got := walk(make([]byte, 24)); !sameWalk(got, []told{{0, ""}, {8, ""}, {16, ""}}) {
		t.Error("frames of noughts", got)
	}
}

func TestFramesEndsWhereNoFrameStands(t *testing.T) { // P1.4
	contents := [][]byte{[]byte("one"), nil, []byte("three"), []byte("four")}
	b, want := laid(t, contents...)
	for n := range len(b) + 1 { // a tail that is torn
		whole := 0
		for whole < len(want) && want[whole].at+8+len(contents[whole]) <= n {
			whole++
		}
		if got := walk(b[:n]); !sameWalk(got, want[:whole]) {
			t.Errorf("of %d bytes: %v", n, got)
		}
	}
	for i, w := range want { // a spoilt frame hides those behind it
		spoilt := bytes.Clone(b)
		spoilt[w.at+4] ^= 1
		if got := walk(spoilt); !sameWalk(got, want[:i]) {
			t.Errorf("frame %d spoilt: %v", i, got)
		}
	}
	for _, junk := range [][]byte{{1}, {0, 0, 0}, repeat(255, 8), repeat(1, 30)} {
		if got := walk(append(bytes.Clone(b), junk...)); !sameWalk(got, want) {
			t.Errorf("behind the frames %v: %v", junk, got)
		}
		if got := walk(append(bytes.Clone(junk), b...)); got != nil {
			t.Errorf("ahead of the frames %v: %v", junk, got)
		}
	}
}

func TestFramesLeftEarlyAndGoneOverAgain(t *testing.T) { // P1.4, R3
	b, want := laid(t, []byte("a"), []byte("bb"), nil, []byte("cccc"))
	frames := wire.Frames(b)
	for leave := 1; leave <= len(want); leave++ {
		var got []told
		for at, c := range frames {
			got = append(got, told{at, string(c)})
			if len(got) == leave {
				break
			}
		}
		if !sameWalk(got, want[:leave]) {
			t.Errorf("left at %d: %v", leave, got)
		}
	}
	var outer []told
	for at, c := range frames {
		outer = append(outer, told{at, string(c)})
		var inner []told
		for at, c := range frames {
			inner = append(inner, told{at, string(c)})
		}
		if !sameWalk(inner, want) {
			t.Errorf("within another walk: %v", inner)
		}
	}
	if !sameWalk(outer, want) {
		t.Errorf("around another walk: %v", outer)
	}
}

func TestFramesTellsWhatWasThereWhenAsked(t *testing.T) { // R3
	b, want := laid(t, []byte("a"), []byte("bb"), []byte("ccc"))
	frames := wire.Frames(b)
	clear(b)
	var got []told
	for at, c := range frames {
		got = append(got, told{at, string(c)})
		clear(c)
		_ = append(c, "overwritten, if there is spare room"...)
	}
	if !sameWalk(got, want) {
		t.Errorf("behind a change of the bytes: %v", got)
	}
	got = nil
	for at, c := range frames {
		got = append(got, told{at, string(c)})
	}
	if !sameWalk(got, want) {
		t.Errorf("behind a change of what was told: %v", got)
	}
}
