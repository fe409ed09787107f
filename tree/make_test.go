package tree_test

import (
	"math"
	"testing"

	"keystone/api"
	"keystone/tree"
)

func TestOrdersThatMayNotBe(t *testing.T) { // P5.1
	for _, order := range []int{math.MinInt, -64, -3, -1, 0, 1, 2, 65, 66, 1 << 32, 1<<32 + 3, math.MaxInt} {
		if x, e := tree.New(order); x != nil || e != api.ErrArg {
			t.Errorf("New(%d): %v, %v", order, x, e)
		}
	}
}

func TestAnEmptyTree(t *testing.T) { // P5.1, P5.2, P5.3
	for order := api.MinOrder; order <= api.MaxOrder; order++ {
		x := newTree(t, order)
		wantEach(t, x, content{}, textsOf("\x00a\xff", 2))
		deletes(t, x, "", false)
		deletes(t, x, "a", false)
		if n := x.Nodes(); len(n) != 1 || !n[0].Leaf || len(n[0].Keys) != 0 || len(n[0].Kids) != 0 {
			t.Errorf("order %d: Nodes: %v", order, n)
		}
	}
}

func TestTheExample(t *testing.T) { // P5.1, P5.2, P5.3
	x := treeOf(t, 3, "a", "b", "c")
	if got := entryOf(x.Next("a", true)); got != (entry{"b", 2, true}) {
		t.Errorf("Next: %v", got)
	}
	if got := scanned(x, "a", "c"); len(got) != 2 || got[0] != (entry{"a", 1, true}) || got[1] != (entry{"b", 2, true}) {
		t.Errorf("Scan: %v", got)
	}
	if got := x.Rank("bb"); got != 2 {
		t.Errorf("Rank: %d", got)
	}
	if got := entryOf(x.At(2)); got != (entry{"c", 3, true}) {
		t.Errorf("At: %v", got)
	}
	n := x.Nodes()
	if len(n) != 3 || n[0].Leaf || len(n[0].Keys) != 1 || len(n[0].Kids) != 2 || n[0].Kids[0] != 1 || n[0].Kids[1] != 2 || !n[1].Leaf || !n[2].Leaf {
		t.Errorf("Nodes: %v", n)
	}
	wantForm(t, x, 3, content{"a": 1, "b": 2, "c": 3})
}
