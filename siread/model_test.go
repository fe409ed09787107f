package siread_test

import (
	"slices"
	"testing"

	"keystone/api"
	"keystone/siread"
)

// greatest is the greatest transaction of the models.
const greatest = 8

// model is the notes that there must be, in the order in which they came.
type model struct {
	most  int
	noted []noted
}

type noted struct {
	txn int64
	x   api.Read
}

// note does what Note must do, as it is told.
func (m *model) note(txn int64, x api.Read) api.Errno {
	var l []noted
	for _, n := range m.noted {
		if n.txn == txn && wantCovers(n.x, x) {
			return api.OK
		}
		if n.txn != txn || !wantCovers(x, n.x) {
			l = append(l, n)
		}
	}
	l = append(l, noted{txn, x})
	for len(l) > m.most {
		txn, table := fullest(l)
		if txn == 0 {
			return api.ErrFull
		}
		l = slices.DeleteFunc(l, func(n noted) bool { return n.txn == txn && n.x.Table == table })
		l = append(l, noted{txn, of(table, whole())})
	}
	m.noted = l
	return api.OK
}

// fullest is the pair whose notes become one; the transaction 0, if none has two.
func fullest(l []noted) (txn int64, table string) {
	count := map[noted]int{}
	for _, n := range l {
		count[noted{n.txn, api.Read{Table: n.x.Table}}]++
	}
	most := 1
	for i := range int64(10) {
		for _, x := range tables() {
			if n := count[noted{i, api.Read{Table: x}}]; n > most {
				txn, table, most = i, x, n
			}
		}
	}
	return txn, table
}

func (m *model) drop(txn int64) {
	m.noted = slices.DeleteFunc(m.noted, func(n noted) bool { return n.txn == txn })
}

// of are a transaction's notes, in their order.
func (m *model) of(txn int64) []api.Read {
	var l []api.Read
	for _, n := range m.noted {
		if n.txn == txn {
			l = append(l, n.x)
		}
	}
	slices.SortFunc(l, func(a, b api.Read) int { return place(a) - place(b) })
	return l
}

// place is where a note stands among all that there could be.
func place(x api.Read) int {
	p := slices.Index(tables(), x.Table)
	for _, i := range []int{x.Kind, slices.Index(texts(), x.From), slices.Index(texts(), x.To)} {
		p = p*100 + i
	}
	return p
}

func (m *model) readers(table string, i int) []int64 {
	var l []int64
	for _, n := range m.noted {
		if n.x.Table == table && keysOf(n.x)>>i&1 == 1 {
			l = append(l, n.txn)
		}
	}
	slices.Sort(l)
	return slices.Compact(l)
}

func (m *model) txns() []int64 {
	var l []int64
	for _, n := range m.noted {
		l = append(l, n.txn)
	}
	slices.Sort(l)
	return slices.Compact(l)
}

// want holds what is told of notes, but for readers, against what must be told.
func (m *model) want(t *testing.T, r *siread.Reads) {
	t.Helper()
	if r.Len() != len(m.noted) {
		t.Fatalf("Len: %d, not %d", r.Len(), len(m.noted))
	}
	if l := r.Txns(); !slices.Equal(l, m.txns()) {
		t.Fatalf("Txns: %v, not %v", l, m.txns())
	}
	for txn := int64(-1); txn <= greatest+1; txn++ {
		wantOf(t, r, txn, m.of(txn)...)
	}
}

// wantAll holds all that is told against what must be told.
func (m *model) wantAll(t *testing.T, r *siread.Reads) {
	t.Helper()
	m.want(t, r)
	for _, table := range tables() {
		for i, k := range texts() {
			wantReaders(t, r, table, k, m.readers(table, i)...)
		}
	}
}

// notes notes something of the real one, too, and holds the answers against each other.
func (m *model) notes(t *testing.T, r *siread.Reads, txn int64, x api.Read) {
	t.Helper()
	wantNote(t, r, txn, x, m.note(txn, x))
}

// does notes or drops something: of some tables and transactions alone, so that notes meet.
func (m *model) does(t *testing.T, r *siread.Reads, n *numbers) {
	t.Helper()
	txn := 1 + int64(n.below(greatest))
	if n.below(12) == 0 {
		m.drop(txn)
		drops(t, r, txn)
		return
	}
	x := oneOf(n, reads())
	if x.Kind == api.RRange && n.below(3) > 0 {
		x = key(x.From)
	}
	m.notes(t, r, txn, of(oneOf(n, tables()[:1+n.below(len(tables()))]), x))
}
