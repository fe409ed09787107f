package siread_test

import (
	"math"
	"strconv"
	"testing"

	"keystone/api"
)

func TestExamples(t *testing.T) { // P9.1, P9.2
	r := newReads(t, 3)
	notes(t, r, 1, key("a"), key("b"))
	notes(t, r, 2, key("a"), key("c"))
	wantOf(t, r, 1, whole())
	wantOf(t, r, 2, key("a"), key("c"))
	wantReaders(t, r, "t", "zz", 1)
	if r.Len() != 3 {
		t.Error("Len", r.Len())
	}
	r = newReads(t, 1)
	notes(t, r, 1, key("a"))
	wantNote(t, r, 2, key("a"), api.ErrFull)
	wantOf(t, r, 1, key("a"))
	wantOf(t, r, 2)
}

func TestNoteOfWhatMayNotBe(t *testing.T) { // P9.1
	r := newReads(t, 10)
	notes(t, r, 1, key("a"), keyRange("b", "c"))
	for _, txn := range []int64{math.MinInt64, -1, 0, 1, 2, math.MaxInt64} {
		for _, x := range wrong() {
			wantNote(t, r, txn, x, api.ErrArg)
		}
		if txn < 1 {
			wantNote(t, r, txn, key("a"), api.ErrArg)
			wantNote(t, r, txn, whole(), api.ErrArg)
		}
	}
	wantOf(t, r, 1, key("a"), keyRange("b", "c"))
	if l := r.Txns(); len(l) != 1 || r.Len() != 2 {
		t.Error(l, r.Len())
	}
}

func TestOneNoteBehindAnother(t *testing.T) { // P9.1: of one transaction and table
	for _, a := range reads() {
		for _, b := range reads() {
			r, want := newReads(t, 2), &model{most: 2}
			want.notes(t, r, 1, a)
			want.notes(t, r, 1, b)
			want.wantAll(t, r)
		}
	}
}

func TestANoteThatCoversSome(t *testing.T) { // P9.1
	for _, x := range reads() {
		for from := range keys() {
			r, want := newReads(t, 30), &model{most: 30}
			for i, k := range keys() { // keys, and from one on, ranges, none of which covers another
				if i < from {
					want.notes(t, r, 1, key(k))
				} else if i+2 < len(keys()) {
					want.notes(t, r, 1, keyRange(k, keys()[i+2]))
				}
				want.notes(t, r, 2, key(k))
				want.notes(t, r, 1, of("u", key(k)))
			}
			want.notes(t, r, 1, x)
			want.wantAll(t, r)
		}
	}
}

func TestOtherTransactionsAndTablesCoverNothing(t *testing.T) { // P9.1
	r := newReads(t, 6)
	notes(t, r, 1, key("a"))
	notes(t, r, 2, whole())
	notes(t, r, 1, of("u", whole()))
	notes(t, r, 3, key("a"), of("u", key("a")))
	wantOf(t, r, 1, key("a"), of("u", whole()))
	wantOf(t, r, 2, whole())
	wantOf(t, r, 3, key("a"), of("u", key("a")))
}

func TestWhatIsCoveredNeedsNoRoom(t *testing.T) { // P9.1
	r := newReads(t, 2)
	notes(t, r, 1, keyRange("a", "c"))
	notes(t, r, 2, key("x"))
	notes(t, r, 1, key("a"), key("b"), keyRange("a", "c"), keyRange("b", "bb"))
	notes(t, r, 2, key("x"), keyRange("x", "x\x00"))
	wantOf(t, r, 1, keyRange("a", "c"))
	wantOf(t, r, 2, key("x"))
	notes(t, r, 1, keyRange("a", "d")) // takes the place of what it covers
	wantOf(t, r, 1, keyRange("a", "d"))
	wantOf(t, r, 2, key("x"))
}

func TestWhichNotesBecomeOne(t *testing.T) { // P9.1
	for _, w := range []struct {
		noted []noted
		more  noted
		want  noted
	}{
		{[]noted{{1, key("a")}, {1, key("b")}, {2, key("a")}, {2, key("b")}, {2, key("c")}}, noted{1, of("u", key("a"))}, noted{2, whole()}},                   // the most notes
		{[]noted{{3, key("a")}, {3, key("b")}, {2, key("a")}, {2, key("b")}}, noted{1, key("a")}, noted{2, whole()}},                                           // the least transaction
		{[]noted{{2, key("a")}, {2, key("b")}, {2, of("ta", key("a"))}, {2, of("ta", key("b"))}}, noted{1, key("a")}, noted{2, whole()}},                       // the least table
		{[]noted{{2, of("ta", key("a"))}, {2, of("ta", key("b"))}, {2, key("a")}, {2, key("b")}}, noted{1, key("a")}, noted{2, whole()}},                       // whichever came first
		{[]noted{{2, of("t", key("a"))}, {2, of("t", key("b"))}, {2, of("", key("a"))}, {2, of("", key("b"))}}, noted{3, key("a")}, noted{2, of("", whole())}}, // a table without a name
		{[]noted{{1, key("a")}, {2, key("a")}}, noted{2, key("b")}, noted{2, whole()}},                                                                         // the new one makes two
		{[]noted{{1, key("a")}, {2, key("a")}}, noted{1, key("b")}, noted{1, whole()}},
		{[]noted{{1, key("a")}, {1, key("b")}, {2, key("a")}, {2, key("b")}}, noted{2, key("c")}, noted{2, whole()}}, // the new one makes more
		{[]noted{{1, key("a")}, {1, key("b")}, {2, key("a")}}, noted{2, key("b")}, noted{1, whole()}},                // the new one makes as many
		{[]noted{{10, key("a")}, {10, key("b")}, {9, key("a")}, {9, key("b")}}, noted{11, key("a")}, noted{9, whole()}},
		{[]noted{{1, whole()}, {2, keyRange("", "")}}, noted{2, of("u", whole())}, noted{}},
		{[]noted{{1, key("a")}}, noted{1, of("u", key("a"))}, noted{}},
	} {
		r := newReads(t, len(w.noted))
		for _, n := range w.noted {
			notes(t, r, n.txn, n.x)
		}
		if w.want.txn == 0 {
			wantNote(t, r, w.more.txn, w.more.x, api.ErrFull)
			wantNoted(t, r.Of, w.noted)
			continue
		}
		notes(t, r, w.more.txn, w.more.x)
		wantNoted(t, r.Of, coarsened(append(w.noted, w.more), w.want))
	}
}

// coarsened are notes of which those of one transaction and table have become one.
func coarsened(l []noted, one noted) []noted {
	out := []noted{one}
	for _, n := range l {
		if n.txn != one.txn || n.x.Table != one.x.Table {
			out = append(out, n)
		}
	}
	return out
}

// wantNoted wants notes, in any order, and no other ones of their transactions.
func wantNoted(t *testing.T, of func(int64) []api.Read, want []noted) {
	t.Helper()
	got := map[noted]int{}
	for txn := range int64(20) {
		for _, x := range of(txn) {
			got[noted{txn, x}]++
		}
	}
	if len(got) != len(want) {
		t.Errorf("%#v, not %#v", got, want)
	}
	for _, n := range want {
		if got[n] != 1 {
			t.Errorf("%#v, not %#v", got, want)
		}
	}
}

func TestNoPairWithTwoNotes(t *testing.T) { // P9.1: ErrFull, and nothing has changed
	for _, most := range []int{1, 2, 5, greatest * len(tables())} {
		r, want := newReads(t, most), &model{most: most}
		for i := range most {
			want.notes(t, r, 1+int64(i/len(tables())), of(tables()[i%len(tables())], key("a")))
		}
		for _, x := range reads() {
			wantNote(t, r, 9, x, api.ErrFull)
			wantNote(t, r, math.MaxInt64, x, api.ErrFull)
			wantNote(t, r, 1, of("another one", x), api.ErrFull)
			want.want(t, r)
		}
		want.wantAll(t, r)
		want.notes(t, r, 1, of(tables()[0], key("b"))) // of a pair that has one: there are two then
		want.wantAll(t, r)
		drops(t, r, 1)
		want.drop(1)
		want.notes(t, r, 2, key("z\xff"))
		want.wantAll(t, r)
	}
}

// many are notes of three transactions and of five tables, so many in all.
func many(most int) []noted {
	var l []noted
	for i := range most {
		l = append(l, noted{1 + int64(i%3), of("t"+strconv.Itoa(i%5), key(strconv.Itoa(i*7919%most)))})
	}
	return l
}

func TestRoomForMost(t *testing.T) { // P9.1, P9.4
	for _, most := range []int{1, 7, 100, api.MaxNotes} {
		r := newReads(t, most)
		for i, n := range many(most) {
			notes(t, r, n.txn, n.x)
			if r.Len() != i+1 {
				t.Fatalf("Len: %d, not %d", r.Len(), i+1)
			}
		}
		for _, n := range many(most) {
			wantReader(t, r.Readers(n.x.Table, n.x.From), n.txn)
		}
	}
}

func TestOneMoreThanMost(t *testing.T) { // P9.1: of fifteen pairs the first one has a note more than the others
	r := newReads(t, api.MaxNotes)
	for _, n := range many(api.MaxNotes) {
		notes(t, r, n.txn, n.x)
	}
	notes(t, r, 7, key("a"))
	if was := (api.MaxNotes + 14) / 15; r.Len() != api.MaxNotes+1-was+1 {
		t.Errorf("Len: %d", r.Len())
	}
	if l := r.Of(1); l[0] != of("t0", whole()) || l[1].Kind != api.RKey || l[1].Table != "t1" {
		t.Errorf("%v, %v", l[0], l[1])
	}
	wantOf(t, r, 7, key("a"))
	for _, n := range many(api.MaxNotes) {
		wantReader(t, r.Readers(n.x.Table, n.x.From), n.txn)
	}
}

func wantReader(t *testing.T, l []int64, txn int64) {
	t.Helper()
	for _, x := range l {
		if x == txn {
			return
		}
	}
	t.Fatalf("%d is forgotten: %v", txn, l)
}
