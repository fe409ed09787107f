package siread_test

import (
	"math"
	"slices"
	"testing"

	"keystone/api"
	"keystone/siread"
)

// numbers tells one number behind the other, always the same ones.
type numbers uint64

func (n *numbers) below(most int) int {
	*n = *n*6364136223846793005 + 1442695040888963407
	return int(uint64(*n)>>33) % most
}

// oneOf is one of some things.
func oneOf[T any](n *numbers, l []T) T {
	return l[n.below(len(l))]
}

// tables and texts are as they are ordered, written out so that the tests have their order from nowhere else.
func tables() []string {
	return []string{"", "\x00", "t", "t\x00", "ta", "u", "\xff"}
}

func texts() []string {
	return []string{"", "\x00", "\x00\x00", "A", "a", "a\x00", "a\x00\x00", "aa", "ab", "ab\x00", "b", "b\x00", "z\xff", "z\xff\x00", "\x80", "\xff", "\xff\x00", "\xff\xff", "\xff\xff\x00"}
}

// keys are those texts of which the next one above, with a byte 0 behind, is a text, too: of two ranges or keys that begin and end with them, one covers the other one, if it has all of these texts that the other one has.
func keys() []string {
	return []string{"", "\x00", "a", "a\x00", "ab", "b", "z\xff", "\xff", "\xff\xff"}
}

func key(k string) api.Read {
	return api.Read{Table: "t", Kind: api.RKey, From: k}
}

func keyRange(from, to string) api.Read {
	return api.Read{Table: "t", Kind: api.RRange, From: from, To: to}
}

func whole() api.Read {
	return api.Read{Table: "t", Kind: api.RTable}
}

// of is a note as it would be of another table.
func of(table string, x api.Read) api.Read {
	x.Table = table
	return x
}

// reads are all notes of a table with such keys that may be.
func reads() []api.Read {
	l := []api.Read{whole()}
	for i, from := range keys() {
		l = append(l, key(from), keyRange(from, ""))
		for _, to := range keys()[i+1:] {
			l = append(l, keyRange(from, to))
		}
	}
	return l
}

// wrong are notes that may not be.
func wrong() []api.Read {
	var l []api.Read
	for _, kind := range []int{math.MinInt, -1, 0, 4, math.MaxInt} {
		l = append(l, api.Read{Table: "t", Kind: kind}, api.Read{Table: "t", Kind: kind, From: "a"}, api.Read{Table: "t", Kind: kind, From: "a", To: "b"})
	}
	for i, from := range keys() {
		for _, to := range keys()[1:] {
			l = append(l, api.Read{Table: "t", Kind: api.RKey, From: from, To: to}, api.Read{Table: "t", Kind: api.RTable, From: from, To: to})
		}
		if i > 0 {
			l = append(l, api.Read{Table: "t", Kind: api.RTable, From: from})
		}
		for _, to := range keys()[1 : i+1] {
			l = append(l, keyRange(from, to))
		}
	}
	return l
}

// keysOf are the texts of which a note is, each as a bit.
func keysOf(x api.Read) int {
	from, to := slices.Index(texts(), x.From), slices.Index(texts(), x.To)
	switch {
	case x.Kind == api.RKey:
		to = from + 1
	case x.To == "":
		to = len(texts())
	}
	return 1<<to - 1<<from
}

func wantCovers(a, b api.Read) bool {
	return a.Table == b.Table && keysOf(b)&^keysOf(a) == 0
}

func newReads(t *testing.T, most int) *siread.Reads {
	t.Helper()
	r, e := siread.New(most)
	if r == nil || e != api.OK {
		t.Fatalf("New(%d): %v, %v", most, r, e)
	}
	return r
}

func wantNote(t *testing.T, r *siread.Reads, txn int64, x api.Read, want api.Errno) {
	t.Helper()
	if e := r.Note(txn, x); e != want {
		t.Fatalf("Note(%d, %#v): %v, not %v", txn, x, e, want)
	}
}

func notes(t *testing.T, r *siread.Reads, txn int64, l ...api.Read) {
	t.Helper()
	for _, x := range l {
		wantNote(t, r, txn, x, api.OK)
	}
}

func drops(t *testing.T, r *siread.Reads, txn int64) {
	t.Helper()
	if e := r.Drop(txn); e != api.OK {
		t.Fatalf("Drop(%d): %v", txn, e)
	}
}

func wantOf(t *testing.T, r *siread.Reads, txn int64, want ...api.Read) {
	t.Helper()
	if l := r.Of(txn); !slices.Equal(l, want) {
		t.Fatalf("Of(%d): %#v, not %#v", txn, l, want)
	}
}

func wantReaders(t *testing.T, r *siread.Reads, table, key string, want ...int64) {
	t.Helper()
	if l := r.Readers(table, key); !slices.Equal(l, want) {
		t.Fatalf("Readers(%q, %q): %v, not %v", table, key, l, want)
	}
}
