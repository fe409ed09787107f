package siread_test

import (
	"math"
	"slices"
	"strings"
	"testing"

	"keystone/api"
	"keystone/siread"
)

// useAll calls all calls.
func useAll(r *siread.Reads, txn int64, x api.Read) {
	siread.Covers(x, x)
	siread.Covers(x, whole())
	siread.Covers(whole(), x)
	r.Note(txn, x)
	r.Note(txn, x)
	r.Readers(x.Table, x.From)
	r.Readers(x.From, x.Table)
	r.Of(txn)
	r.Txns()
	r.Len()
	r.Drop(txn)
	r.Drop(txn)
	r.Note(txn, x)
}

func TestNothingPanics(t *testing.T) { // R1
	long := strings.Repeat("\xff", 1<<20)
	for _, r := range []*siread.Reads{nil, new(siread.Reads), newReads(t, 1), newReads(t, 2), newReads(t, api.MaxNotes)} {
		for _, txn := range []int64{math.MinInt64, -1, 0, 1, 7, math.MaxInt64} {
			for _, kind := range []int{math.MinInt, -1, 0, 1, 2, 3, 4, math.MaxInt} {
				for _, from := range []string{"", "a", "\x00", long} {
					for _, to := range []string{"", "a", "b", "\xff", long} {
						useAll(r, txn, api.Read{Table: from, Kind: kind, From: from, To: to})
						useAll(r, txn, api.Read{Table: "t", Kind: kind, From: from, To: to})
					}
				}
			}
		}
	}
}

func TestReadsThatNoCallMade(t *testing.T) { // R5
	for _, r := range []*siread.Reads{nil, new(siread.Reads)} {
		for _, txn := range []int64{math.MinInt64, -1, 0, 1, 5, math.MaxInt64} {
			for _, x := range []api.Read{{}, key("a"), keyRange("b", "a"), whole()} { // ErrMade is ahead of all else
				wantNote(t, r, txn, x, api.ErrMade)
				wantReaders(t, r, x.Table, x.From)
			}
			if e := r.Drop(txn); e != api.ErrMade {
				t.Errorf("Drop(%d): %v", txn, e)
			}
			wantOf(t, r, txn)
		}
		if l := r.Txns(); len(l) != 0 || r.Len() != 0 {
			t.Errorf("Txns %v, Len %d", l, r.Len())
		}
	}
}

// scribble writes over a list, and over its spare room.
func scribble[T any](l []T, with T) {
	l = l[:cap(l)]
	for i := range l {
		l[i] = with
	}
}

func TestAnswersAreNewMemory(t *testing.T) { // R3
	r, want := newReads(t, 30), &model{most: 30}
	n := numbers(3)
	for range 80 {
		want.does(t, r, &n)
		scribble(r.Txns(), 77)
		scribble(r.Readers("t", "a"), 77)
		for txn := int64(1); txn <= greatest; txn++ {
			scribble(r.Of(txn), key("scribble"))
		}
		want.wantAll(t, r)
	}
}

func TestReadsKnowNothingOfEachOther(t *testing.T) { // R4
	n := numbers(4)
	one, other := newReads(t, 20), newReads(t, 20)
	wantOne, wantOther := &model{most: 20}, &model{most: 20}
	for range 100 {
		wantOne.does(t, one, &n)
		wantOther.want(t, other)
		wantOther.does(t, other, &n)
		wantOne.want(t, one)
	}
}

func TestSameActsSameAnswers(t *testing.T) { // R4
	var first []api.Read
	for range 20 {
		n := numbers(6)
		r, want := newReads(t, 25), &model{most: 25}
		for range 200 {
			want.does(t, r, &n)
		}
		var all []api.Read
		for _, txn := range r.Txns() {
			all = append(all, r.Of(txn)...)
		}
		if first == nil {
			first = all
		}
		if !slices.Equal(all, first) {
			t.Fatalf("%#v, not %#v", all, first)
		}
	}
}
