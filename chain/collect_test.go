package chain_test

import (
	"math"
	"testing"

	"keystone/api"
	"keystone/chain"
)

// wantCollect collects, and holds what is left against what must be left.
func wantCollect(t *testing.T, c *chain.Chain, m model, oldest int64) model {
	t.Helper()
	left := m.collected(oldest)
	if n := c.Collect(oldest); n != len(m)-len(left) {
		t.Fatalf("%v: Collect(%d): %d, not %d", m, oldest, n, len(m)-len(left))
	}
	left.want(t, c)
	return left
}

func TestTheExampleOfCollect(t *testing.T) { // P6.4
	m := model(mixed(3, -5, 7))
	for oldest, want := range []int{0, 0, 0, 0, 0, 2, 2, 2, 2} {
		c := chainOf(t, m)
		if n := c.Collect(int64(oldest)); n != want || c.Len() != 3-want {
			t.Errorf("Collect(%d): %d, Len %d", oldest, n, c.Len())
		}
	}
	c := chainOf(t, m)
	for _, w := range [][2]int64{{4, 0}, {5, 2}, {7, 0}} {
		if n := c.Collect(w[0]); int64(n) != w[1] {
			t.Errorf("Collect(%d): %d", w[0], n)
		}
	}
	model(mixed(7)).want(t, c)
}

func TestTheExampleOfDead(t *testing.T) { // P6.4
	c := chainOf(t, mixed(3, -5))
	for oldest, want := range []bool{false, false, false, false, false, true, true} {
		if c.Dead(int64(oldest)) != want {
			t.Errorf("Dead(%d): %v", oldest, !want)
		}
	}
	if n := c.Collect(5); n != 2 || c.Len() != 0 || c.Last() != 0 {
		t.Errorf("Collect(5): %d, Len %d, Last %d", n, c.Len(), c.Last())
	}
	puts(t, c, 4, row(4)...)
	model(mixed(4)).want(t, c)
}

func TestCollect(t *testing.T) { // P6.4
	chains := [][]api.Version{nil, mixed(1), mixed(2, -3), mixed(1, 2, 3), mixed(1, -2, 3, -4, 5), mixed(1, -2, 3, -4), mixed(5, 7, -11, 12, -20, 21, 30), mixed(math.MaxInt64), mixed(1, -math.MaxInt64)}
	for _, l := range chains {
		m := model(l)
		for _, oldest := range m.snapshots() {
			c := chainOf(t, l)
			left := wantCollect(t, c, m, oldest)
			wantCollect(t, c, left, oldest)
			for _, later := range left.snapshots() {
				wantCollect(t, c.Clone(), left, later)
			}
		}
	}
}

func TestCollectOfAFullChain(t *testing.T) { // P6.4
	var l []api.Version
	for i := range int64(api.MaxVersions) {
		v := put(3*i+1, row(i)...)
		if i%5 == 3 {
			v = gone(v.At)
		}
		l = append(l, v)
	}
	for oldest := range int64(3*api.MaxVersions + 3) {
		wantCollect(t, chainOf(t, l), l, oldest)
	}
	c, m := chainOf(t, l), model(l)
	for oldest := range int64(3*api.MaxVersions + 3) {
		m = wantCollect(t, c, m, oldest)
	}
}
