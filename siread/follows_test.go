package siread_test

import (
	"testing"

	"keystone/api"
	"keystone/siread"
)

func TestFixedScripts(t *testing.T) { // P9.1, P9.2
	for seed := range 60 {
		n := numbers(seed)
		most := 1 + n.below(60)
		r, want := newReads(t, most), &model{most: most}
		for range 100 {
			want.does(t, r, &n)
			want.want(t, r)
		}
		want.wantAll(t, r)
	}
}

// read is what one has read of which it is known that it was noted.
type read struct {
	txn int64
	x   api.Read
}

// reading notes and drops something, and keeps in mind what was noted.
func reading(t *testing.T, r *siread.Reads, n *numbers, was map[read]int) {
	t.Helper()
	txn := 1 + int64(n.below(6))
	if n.below(40) == 0 {
		drops(t, r, txn)
		for x := range was {
			if x.txn == txn {
				delete(was, x)
			}
		}
		return
	}
	x := of(oneOf(n, tables()), oneOf(n, reads()))
	if e := r.Note(txn, x); e == api.OK {
		was[read{txn, x}]++
	}
}

func TestNothingIsForgotten(t *testing.T) { // P9.3
	for _, most := range []int{1, 2, 5, 10, 25, 100} {
		n := numbers(most)
		r, was := newReads(t, most), map[read]int{}
		for range 150 {
			reading(t, r, &n, was)
			for x := range was {
				for i, k := range texts() {
					if keysOf(x.x)>>i&1 == 1 {
						wantReader(t, r.Readers(x.x.Table, k), x.txn)
					}
				}
			}
		}
	}
}

func TestBounded(t *testing.T) { // P9.4
	for _, most := range []int{1, 2, 3, 10, 30} {
		n := numbers(most)
		r, was := newReads(t, most), map[read]int{}
		for range 1000 {
			reading(t, r, &n, was)
			if r.Len() > most {
				t.Fatalf("%d notes, more than %d", r.Len(), most)
			}
		}
		for _, txn := range r.Txns() {
			drops(t, r, txn)
		}
		if r.Len() != 0 {
			t.Fatalf("%d notes of none", r.Len())
		}
	}
}

func TestNoneCoversAnotherOne(t *testing.T) { // P9.5
	for _, most := range []int{2, 8, 30, 200} {
		n := numbers(most)
		r, was := newReads(t, most), map[read]int{}
		for range 500 {
			reading(t, r, &n, was)
			for _, txn := range r.Txns() {
				wantApart(t, r.Of(txn))
			}
		}
	}
}

func wantApart(t *testing.T, l []api.Read) {
	t.Helper()
	for i, a := range l {
		for j, b := range l {
			if i != j && (siread.Covers(a, b) || wantCovers(a, b)) {
				t.Fatalf("%#v covers %#v", a, b)
			}
		}
	}
}
