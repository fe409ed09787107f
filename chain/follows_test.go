package chain_test

import (
	"slices"
	"testing"

	"keystone/api"
	"keystone/chain"
)

// wantPromised holds what follows of Collect against a chain of up to so many commits.
func wantPromised(t *testing.T, c *chain.Chain, m model, oldest int64) model {
	t.Helper()
	dead := c.Dead(oldest)
	left := wantCollect(t, c, m, oldest)
	if n := c.Collect(oldest); n != 0 { // P6.7
		t.Fatalf("%v: Collect(%d) once more: %d", m, oldest, n)
	}
	for i, v := range left { // P6.7
		if v.At <= oldest && (i > 0 || dead) {
			t.Fatalf("%v: Collect(%d) leaves %v", m, oldest, v)
		}
	}
	for _, s := range m.snapshots() { // P6.6
		v, found := m.seen(s)
		if val, is := c.At(s); s >= oldest && (is != (found && !v.Gone) || !slices.Equal(val, v.Val)) {
			t.Fatalf("%v: behind Collect(%d): At(%d): %v, %v", m, oldest, s, val, is)
		}
	}
	return left
}

// tryAll does each row of so many acts to a chain.
func tryAll(t *testing.T, c *chain.Chain, m model, acts int) {
	t.Helper()
	m.want(t, c)
	if acts == 0 {
		return
	}
	for at := m.last() - 1; at <= m.last()+2; at++ {
		d, v := c.Clone(), put(at, row(at)...)
		if e := d.Put(at, v.Val); e == api.OK {
			tryAll(t, d, append(slices.Clone(m), v), acts-1)
		}
		d = c.Clone()
		if e := d.Drop(at); e == api.OK {
			tryAll(t, d, append(slices.Clone(m), gone(at)), acts-1)
		}
	}
	for oldest := int64(-1); oldest <= m.last()+1; oldest++ {
		d := c.Clone()
		left := wantPromised(t, d, m, oldest)
		if len(left) < len(m) {
			tryAll(t, d, left, acts-1)
		}
	}
}

func TestEachRowOfActs(t *testing.T) { // P6.1, P6.3, P6.4, P6.6, P6.7
	tryAll(t, chain.New(), nil, 6)
}

// view is what a snapshot sees of a row.
type view struct {
	val  []api.Value
	is   bool
	seen int64
}

func viewOf(c *chain.Chain, snapshot int64) view {
	val, is := c.At(snapshot)
	return view{val, is, c.Seen(snapshot)}
}

func TestSnapshotsAreForEver(t *testing.T) { // P6.6
	for seed := range 60 {
		n := numbers(seed)
		c, m := chain.New(), model{}
		var views []view   // what each snapshot has seen, from 0 on, when it was the newest one
		oldest := int64(0) // of those that are still promised
		for range 300 {
			for int64(len(views)) <= m.last() {
				views = append(views, viewOf(c, int64(len(views))))
			}
			at := int64(len(views)) + int64(n.below(3))
			switch n.below(7) {
			case 0:
				oldest = max(oldest, at-int64(n.below(40))-2)
				m = wantPromised(t, c, m, oldest)
			case 1, 2:
				if c.Drop(at) == api.OK {
					m = append(m, gone(at))
				}
			default:
				if c.Put(at, row(at)) == api.OK {
					m = append(m, put(at, row(at)...))
				}
			}
			for s := oldest; s < int64(len(views)); s++ {
				got, want := viewOf(c, s), views[s]
				if got.is != want.is || !slices.Equal(got.val, want.val) || got.is && got.seen != want.seen {
					t.Fatalf("seed %d: snapshot %d sees %v, not %v", seed, s, got, want)
				}
			}
		}
	}
}
