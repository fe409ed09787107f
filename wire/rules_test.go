package wire_test

import (
	"bytes"
	"math"
	"testing"

	"keystone/api"
	"keystone/wire"
)

// useAll calls all calls that bytes are handed to.
func useAll(b []byte, at, most int) {
	wire.TakeUint(b, at)
	wire.TakeInt(b, at)
	wire.TakeText(b, at, most)
	wire.Sum(b)
	wire.Frame(b)
	wire.TakeFrame(b, at)
	for range wire.Frames(b) {
	}
}

func TestNothingPanics(t *testing.T) { // R1
	for _, b := range someBytes() {
		places := append(notPlaces(b), 0, len(b))
		for _, at := range places {
			for _, most := range []int{math.MinInt, -1, 0, 1, math.MaxInt} {
				useAll(b, at, most)
			}
		}
	}
}

func TestWhatIsHandedInStaysAsItIs(t *testing.T) { // R3
	f := frame(t, []byte("content"))
	for _, b := range [][]byte{f, {172, 2, 7}, {2, 'a', 'b'}, noise(30)} {
		room := append(bytes.Clone(b), noise(64)...)
		was := bytes.Clone(room)
		for at := range len(b) + 1 {
			useAll(room[:len(b)], at, 9)
		}
		if !bytes.Equal(room, was) {
			t.Errorf("%v, or the room behind it, was changed", b)
		}
	}
}

// scribble writes over a list and over its spare room.
func scribble(b []byte) {
	b = b[:cap(b)]
	for i := range b {
		b[i] ^= 0x5A
	}
}

func TestAnswersAreNewMemory(t *testing.T) { // R3, R4
	for _, answer := range []func() []byte{
		func() []byte { return wire.Uint(0) },
		func() []byte { return wire.Uint(300) },
		func() []byte { return wire.Int(-70000) },
		func() []byte { return wire.Text("") },
		func() []byte { return wire.Text("some text") },
		func() []byte { return frame(t, nil) },
		func() []byte { return frame(t, []byte("content")) },
	} {
		first, second := answer(), answer()
		was := bytes.Clone(second)
		scribble(first)
		if !bytes.Equal(second, was) || !bytes.Equal(answer(), was) {
			t.Errorf("the answer %v shares memory with another one", was)
		}
	}
}

func TestWhatIsTakenIsACopy(t *testing.T) { // R3
	b := frame(t, []byte("content"))
	was := bytes.Clone(b)
	first, _, _ := wire.TakeFrame(b, 0)
	second, _, _ := wire.TakeFrame(b, 0)
	scribble(first)
	if !bytes.Equal(b, was) || string(second) != "content" {
		t.Error("a change of a content that was taken changes its frame, or another answer")
	}
	scribble(b)
	if string(second) != "content" {
		t.Error("a change of a frame changes the content that was taken of it")
	}

	b = wire.Text("some text")
	s, _, _ := wire.TakeText(b, 0, 9)
	scribble(b)
	if s != "some text" {
		t.Error("a change of bytes changes the text that was taken of them")
	}

	content := []byte("content")
	f := frame(t, content)
	scribble(content)
	if !bytes.Equal(f, was) {
		t.Error("a change of a content changes its frame")
	}
}

func TestFramesTellsNewMemoryEachTime(t *testing.T) { // R3
	b := append(frame(t, []byte("one")), frame(t, []byte("two"))...)
	frames := wire.Frames(b)
	var l [][]byte
	for range 2 {
		for _, c := range frames {
			l = append(l, c)
		}
	}
	for i, c := range l {
		was := string(c)
		for k, other := range l {
			if k != i {
				scribble(other)
			}
		}
		if string(c) != was {
			t.Errorf("the content %d shares memory with another one", i)
		}
	}
}

func TestNilAndEmptyAreTheSame(t *testing.T) { // R3
	empty := make([]byte, 0, 16)
	if wire.Sum(nil) != wire.Sum(empty) {
		t.Error("Sum")
	}
	if !bytes.Equal(frame(t, nil), frame(t, empty)) {
		t.Error("Frame")
	}
	for _, b := range [][]byte{nil, empty} {
		if _, _, e := wire.TakeUint(b, 0); e != api.ErrForm {
			t.Error("TakeUint", e)
		}
		if _, _, e := wire.TakeFrame(b, 0); e != api.ErrForm {
			t.Error("TakeFrame", e)
		}
		for range wire.Frames(b) {
			t.Error("Frames tells something of nothing")
		}
	}
}
