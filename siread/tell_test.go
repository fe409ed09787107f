package siread_test

import (
	"math"
	"slices"
	"testing"

	"keystone/api"
)

func TestReadersOfOneNote(t *testing.T) { // P9.2
	for _, x := range reads() {
		r, want := newReads(t, 1), &model{most: 1}
		want.notes(t, r, 3, x)
		want.wantAll(t, r)
	}
}

func TestReadersRise(t *testing.T) { // P9.2
	r := newReads(t, api.MaxNotes)
	for i := range int64(1000) {
		notes(t, r, 1+i*7%1000, oneNoteOf(i))
	}
	for range 3 {
		l := r.Readers("t", "b")
		if len(l) != 1000 {
			t.Fatalf("%d of them", len(l))
		}
		for i, txn := range l {
			if txn != int64(i+1) {
				t.Fatalf("%d in the place %d", txn, i)
			}
		}
		if txns := r.Txns(); !slices.Equal(txns, l) {
			t.Fatalf("Txns: %v", txns)
		}
	}
}

// oneNoteOf is one of the notes that have the key b.
func oneNoteOf(i int64) api.Read {
	return []api.Read{key("b"), keyRange("a", "c"), whole(), keyRange("b", ""), keyRange("", "b\x00")}[i%5]
}

func TestReadersStandOnce(t *testing.T) { // P9.2
	r := newReads(t, 10)
	notes(t, r, 2, keyRange("a", "c"), keyRange("b", "d"), keyRange("bb", "e"))
	notes(t, r, 1, key("bbb"))
	wantReaders(t, r, "t", "bbb", 1, 2)
	wantReaders(t, r, "t", "bb", 2)
	wantReaders(t, r, "t", "a", 2)
	wantReaders(t, r, "t", "c", 2)
	wantReaders(t, r, "t", "e")
	wantReaders(t, r, "u", "a")
	wantReaders(t, r, "", "")
}

func TestOfInItsOrder(t *testing.T) { // P9.2
	l := []api.Read{
		of("", key("z")), of("", keyRange("a", "b")), of("\x00", whole()),
		key(""), key("a"), key("a\x00"), key("b"), keyRange("b\x00", "c"), keyRange("bb", "d"), keyRange("ca", ""),
		of("t\x00", key("x")), of("t\x00", keyRange("a", "b")), of("ta", keyRange("", "")), of("\xff", key("")),
	}
	for seed := range 20 {
		n := numbers(seed)
		r := newReads(t, len(l))
		mixed := slices.Clone(l)
		for i := range mixed {
			j := n.below(i + 1)
			mixed[i], mixed[j] = mixed[j], mixed[i]
		}
		notes(t, r, 5, mixed...)
		wantOf(t, r, 5, l...)
	}
}

func TestOfAnyTransaction(t *testing.T) { // P9.2
	r := newReads(t, 10)
	notes(t, r, math.MaxInt64, key("a"))
	notes(t, r, 1, key("b"))
	for _, txn := range []int64{math.MinInt64, -1, 0, 2, math.MaxInt64 - 1} {
		wantOf(t, r, txn)
	}
	wantOf(t, r, math.MaxInt64, key("a"))
	if l := r.Txns(); !slices.Equal(l, []int64{1, math.MaxInt64}) {
		t.Error("Txns", l)
	}
}

func TestDrop(t *testing.T) { // P9.2
	r, want := newReads(t, 40), &model{most: 40}
	n := numbers(92)
	for range 200 {
		want.does(t, r, &n)
	}
	for _, txn := range []int64{math.MinInt64, -1, 0} {
		if e := r.Drop(txn); e != api.ErrArg {
			t.Errorf("Drop(%d): %v", txn, e)
		}
		want.wantAll(t, r)
	}
	for _, txn := range []int64{9, math.MaxInt64, 3, 3, 1, 8, 2, 1, 4, 5, 6, 7} {
		want.drop(txn)
		drops(t, r, txn)
		want.wantAll(t, r)
	}
	if r.Len() != 0 || len(r.Txns()) != 0 {
		t.Error(r.Len(), r.Txns())
	}
}

func TestWhatIsDroppedIsRoomAgain(t *testing.T) { // P9.1, P9.2
	r := newReads(t, 3)
	notes(t, r, 1, key("a"), of("u", key("a")))
	notes(t, r, 2, key("a"))
	wantNote(t, r, 3, key("a"), api.ErrFull)
	drops(t, r, 1)
	notes(t, r, 3, key("a"), of("u", key("a")))
	wantNote(t, r, 1, key("a"), api.ErrFull)
	wantReaders(t, r, "t", "a", 2, 3)
}
