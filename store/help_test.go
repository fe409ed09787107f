package store_test

import (
	"errors"
	"math"
	"slices"
	"strings"
	"testing"

	"keystone/api"
	"keystone/chain"
	"keystone/store"
	"keystone/tuple"
)

// numbers tells one number behind the other, always the same ones.
type numbers uint64

func (n *numbers) below(most int) int {
	*n = *n*6364136223846793005 + 1442695040888963407
	return int(uint64(*n)>>33) % most
}

// oneOf is one of some things.
func oneOf[T any](n *numbers, l []T) T {
	return l[n.below(len(l))]
}

func ints(l ...int64) []api.Value {
	var vals []api.Value
	for _, n := range l {
		vals = append(vals, tuple.Int(n))
	}
	return vals
}

func columns(kinds ...int) []api.Column {
	var l []api.Column
	for i, k := range kinds {
		l = append(l, api.Column{Name: "c" + string(rune('a'+i)), Kind: k})
	}
	return l
}

func put(table string, key []api.Value, val ...api.Value) api.Write {
	return api.Write{Table: table, Key: key, Val: val}
}

func del(table string, key ...api.Value) api.Write {
	return api.Write{Table: table, Key: key, Gone: true}
}

// acct, pair and flag are tables of one, of two, and of no columns behind the key.
func acct() api.Table {
	return api.Table{Name: "acct", Key: columns(api.KInt), Val: columns(api.KInt), At: 7}
}

func pair() api.Table {
	return api.Table{Name: "pair", Key: columns(api.KBytes, api.KInt), Val: columns(api.KPoint, api.KBytes)}
}

func flag() api.Table {
	return api.Table{Name: "flag", Key: columns(api.KBool)}
}

func newStore(t *testing.T, order int, tables ...api.Table) *store.Store {
	t.Helper()
	s, e := store.New(order)
	if s == nil || e != api.OK {
		t.Fatalf("New(%d): %v", order, e)
	}
	for _, x := range tables {
		if e := s.Declare(x); e != api.OK {
			t.Fatalf("Declare(%s): %v", x.Name, e)
		}
	}
	return s
}

// model is what a store must have: each snapshot whole, and each row's versions.
type model struct {
	tables    []api.Table
	snapshots []content               // from 0 on
	chains    map[string]*chain.Chain // by the table's name and the key's bytes
	oldest    int64
}

// content is rows by their tables, rising.
type content map[string][]api.Row

func newModel(tables ...api.Table) *model {
	return &model{tables, []content{{}}, map[string]*chain.Chain{}, 0}
}

func (m *model) last() int64 {
	return int64(len(m.snapshots) - 1)
}

func (m *model) table(name string) (api.Table, bool) {
	for _, x := range m.tables {
		if x.Name == name {
			return x, true
		}
	}
	return api.Table{}, false
}

// fits tells whether values are as some columns want them.
func fits(l []api.Value, c []api.Column) bool {
	for i, v := range l {
		if i >= len(c) || v.Kind != c[i].Kind || tuple.CheckList([]api.Value{v}) != api.OK {
			return false
		}
	}
	return true
}

func name(table string, key []api.Value) string {
	k, _ := tuple.Key(key)
	return table + "/" + k
}

func (m *model) chain(table string, key []api.Value) *chain.Chain {
	if c := m.chains[name(table, key)]; c != nil {
		return c
	}
	return chain.New()
}

// check is what an install of the next commit must answer.
func (m *model) check(l []api.Write) api.Errno {
	for _, w := range l {
		x, there := m.table(w.Table)
		if !there {
			return api.ErrTable
		}
		if len(w.Key) != len(x.Key) || !fits(w.Key, x.Key) {
			return api.ErrRow
		}
		if w.Gone && len(w.Val) > 0 || !w.Gone && (len(w.Val) != len(x.Val) || !fits(w.Val, x.Val)) {
			return api.ErrRow
		}
	}
	for i, w := range l {
		for _, v := range l[:i] {
			if name(v.Table, v.Key) == name(w.Table, w.Key) {
				return api.ErrWrites
			}
		}
	}
	for _, w := range l {
		if e := installed(m.chain(w.Table, w.Key).Clone(), m.last()+1, w); e == api.ErrFull {
			return e
		}
	}
	return api.OK
}

// installed makes a version of what a write says.
func installed(c *chain.Chain, n int64, w api.Write) api.Errno {
	if w.Gone {
		return c.Drop(n)
	}
	return c.Put(n, w.Val)
}

// install lays writes over the last snapshot.
func (m *model) install(l []api.Write) {
	n, now := m.last()+1, content{}
	for table, rows := range m.snapshots[m.last()] {
		now[table] = slices.Clone(rows)
	}
	for _, w := range l {
		c := m.chain(w.Table, w.Key)
		installed(c, n, w)
		m.chains[name(w.Table, w.Key)] = c
		now[w.Table] = slices.DeleteFunc(now[w.Table], func(r api.Row) bool { return slices.Equal(r.Key, w.Key) })
		if !w.Gone {
			now[w.Table] = append(now[w.Table], api.Row{Key: slices.Clone(w.Key), Val: slices.Clone(w.Val)})
		}
		slices.SortFunc(now[w.Table], func(a, b api.Row) int { return compare(a.Key, b.Key) })
	}
	m.snapshots = append(m.snapshots, now)
}

func compare(a, b []api.Value) int {
	c, e := tuple.Compare(a, b)
	if e != api.OK {
		panic("no keys")
	}
	return c
}

// collect takes out versions, and tells how many.
func (m *model) collect(oldest int64) int {
	n := 0
	for _, c := range m.chains {
		n += c.Collect(oldest)
	}
	m.oldest = oldest
	return n
}

func (m *model) versions() int {
	n := 0
	for _, c := range m.chains {
		n += c.Len()
	}
	return n
}

// between are the rows of a snapshot whose beginnings are not below one, nor above another.
func (m *model) between(table string, from, to []api.Value, at int64) []api.Row {
	var l []api.Row
	for _, r := range m.snapshots[at][table] {
		if compare(r.Key[:len(from)], from) >= 0 && compare(r.Key[:len(to)], to) <= 0 {
			l = append(l, r)
		}
	}
	return l
}

// next is the first row of a snapshot whose beginning is above one, or, if not beyond, not below it.
func (m *model) next(table string, from []api.Value, beyond bool, at int64) (api.Row, bool) {
	for _, r := range m.snapshots[at][table] {
		if c := compare(r.Key[:len(from)], from); c > 0 || c == 0 && !beyond {
			return r, true
		}
	}
	return api.Row{}, false
}

// does installs, and holds the answers of Check and Install against what they must be.
func (m *model) does(t *testing.T, s *store.Store, l ...api.Write) api.Errno {
	t.Helper()
	want := m.check(l)
	if e := s.Check(l); e != want {
		t.Fatalf("Check(%s): %v, not %v", tell(l), e, want)
	}
	if e := s.Install(m.last()+1, l); e != want {
		t.Fatalf("Install(%d, %s): %v, not %v", m.last()+1, tell(l), e, want)
	}
	if want == api.OK {
		m.install(l)
	}
	return want
}

// installs does what must be OK.
func (m *model) installs(t *testing.T, s *store.Store, l ...api.Write) {
	t.Helper()
	if e := m.does(t, s, l...); e != api.OK {
		t.Fatalf("Install(%d, %s): %v", m.last()+1, tell(l), e)
	}
}

// collects collects, and holds the answer against what it must be.
func (m *model) collects(t *testing.T, s *store.Store, oldest int64) {
	t.Helper()
	want := m.collect(oldest)
	if n, e := s.Collect(oldest); n != want || e != api.OK {
		t.Fatalf("Collect(%d): %d, %v, not %d", oldest, n, e, want)
	}
}

// tell is writes as a text.
func tell(l []api.Write) string {
	var b strings.Builder
	for _, w := range l {
		b.WriteString(w.Table + text(w.Key) + "=" + text(w.Val) + " ")
		if w.Gone {
			b.WriteString("gone ")
		}
	}
	return b.String()
}

func text(l []api.Value) string {
	var b strings.Builder
	for _, v := range l {
		s, e := tuple.Text(v)
		if e != api.OK {
			s = "?"
		}
		b.WriteString("(" + s[:min(len(s), 30)] + ")")
	}
	return b.String()
}

func sameRow(a, b api.Row) bool {
	return tuple.Same(a.Key, b.Key) && tuple.Same(a.Val, b.Val)
}

func sameTable(a, b api.Table) bool {
	return a.Name == b.Name && a.At == b.At && slices.Equal(a.Key, b.Key) && slices.Equal(a.Val, b.Val)
}

// want holds all that a store says, but for its rows one by one, against what it must say.
func (m *model) want(t *testing.T, s *store.Store) {
	t.Helper()
	if s.Last() != m.last() || s.Oldest() != m.oldest || s.Versions() != m.versions() {
		t.Fatalf("Last %d, Oldest %d, Versions %d, not %d, %d, %d", s.Last(), s.Oldest(), s.Versions(), m.last(), m.oldest, m.versions())
	}
	if !slices.EqualFunc(s.Tables(), m.tables, sameTable) {
		t.Fatalf("Tables: %v", s.Tables())
	}
	for _, at := range []int64{math.MinInt64, -1, m.oldest - 1, m.last() + 1, math.MaxInt64} {
		if l, e := s.Content(at); e != api.ErrCommit || len(l) > 0 {
			t.Fatalf("Content(%d): %v, %v", at, l, e)
		}
	}
	for at := m.oldest; at <= m.last(); at++ {
		l, e := s.Content(at)
		if e != api.OK || len(l) != len(m.tables) {
			t.Fatalf("Content(%d): %v, %v", at, l, e)
		}
		for i, x := range m.tables {
			if l[i].Table != x.Name || !slices.EqualFunc(l[i].Rows, m.snapshots[at][x.Name], sameRow) {
				t.Fatalf("Content(%d): %v, not %v", at, l[i], m.snapshots[at][x.Name])
			}
		}
	}
}

// wantRows holds what a store says of some keys, and between all their beginnings, against what it must say.
func (m *model) wantRows(t *testing.T, s *store.Store, table string, keys [][]api.Value) {
	t.Helper()
	begins := beginnings(keys)
	for _, key := range keys {
		if n, e := s.Newest(table, key); n != m.chain(table, key).Last() || e != api.OK {
			t.Fatalf("Newest(%s): %d, %v, not %d", text(key), n, e, m.chain(table, key).Last())
		}
	}
	for at := m.oldest; at <= m.last(); at++ {
		for _, key := range keys {
			want, there := m.next(table, key, false, at)
			if there = there && tuple.Same(want.Key, key); !there {
				want = api.Row{}
			}
			if r, is, e := s.Get(table, key, at); is != there || e != api.OK || !sameRow(r, want) {
				t.Fatalf("Get(%s, %d): %v, %v, %v, not %v", text(key), at, r, is, e, want)
			}
		}
		for _, from := range begins {
			for _, beyond := range []bool{false, true} {
				want, there := m.next(table, from, beyond, at)
				if r, is, e := s.Next(table, from, beyond, at); is != there || e != api.OK || !sameRow(r, want) {
					t.Fatalf("Next(%s, %v, %d): %v, %v, %v, not %v", text(from), beyond, at, r, is, e, want)
				}
			}
			for _, to := range begins {
				want := m.between(table, from, to, at)
				if got := slices.Collect(s.Scan(table, from, to, at)); !slices.EqualFunc(got, want, sameRow) {
					t.Fatalf("Scan(%s, %s, %d): %v, not %v", text(from), text(to), at, got, want)
				}
			}
		}
	}
}

// beginnings are all beginnings of some keys, each once, they themselves and the empty one, too.
func beginnings(keys [][]api.Value) [][]api.Value {
	all := [][]api.Value{nil}
	for _, key := range keys {
		for n := range len(key) {
			all = append(all, key[:n+1])
		}
	}
	slices.SortFunc(all, compare)
	return slices.CompactFunc(all, tuple.Same)
}

// wantErr holds an error against what it must be.
func wantErr(t *testing.T, what string, e, want error) {
	t.Helper()
	if !errors.Is(e, want) {
		t.Errorf("%s: %v, not %v", what, e, want)
	}
}

// manyInts are keys of one int, and pairKeys those of pair.
func manyInts(n int) [][]api.Value {
	var l [][]api.Value
	for i := range n {
		l = append(l, ints(int64(i)))
	}
	return l
}

func pairKeys() [][]api.Value {
	var l [][]api.Value
	for _, s := range []string{"", "\x00", "\x00\x00", "a", "a\x00", "ab", "b", "\xff", "\xff\xff"} {
		for _, n := range []int64{math.MinInt64, -1, 0, math.MaxInt64} {
			l = append(l, []api.Value{tuple.Bytes(s), tuple.Int(n)})
		}
	}
	return l
}

// pairVal is what may stand behind a key of pair.
func pairVal(n int) []api.Value {
	return []api.Value{tuple.Point(int64(n), -1), tuple.Bytes("value")}
}
