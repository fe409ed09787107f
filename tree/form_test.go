package tree_test

import (
	"slices"
	"testing"

	"keystone/api"
	"keystone/tree"
)

// form is what is found of a tree's nodes.
type form struct {
	t     *testing.T
	nodes []api.TreeNode
	order int
	depth int      // of the leaves: 1, if the root is one
	keys  []string // the leaves', from the left to the right
}

// wantForm holds the nodes of a tree against the form that they must have, and its leaves' keys against those that must be there.
func wantForm(t *testing.T, x *tree.Tree, order int, c content) {
	t.Helper()
	f := form{t: t, nodes: x.Nodes(), order: order}
	if len(f.nodes) == 0 {
		t.Fatal("no nodes")
	}
	f.inRows()
	f.below(0, 1, "", nil)
	if !slices.Equal(f.keys, c.keys()) {
		t.Fatalf("the leaves' keys: %q, not %q", f.keys, c.keys())
	}
	f.flat()
}

// inRows looks whether each depth's nodes are told from the left to the right, behind those of the depth above: the kids of all nodes, one node's behind the other's, are then all nodes but the root, in the order in which they are told.
func (f *form) inRows() {
	f.t.Helper()
	next := 1
	for i, n := range f.nodes {
		if n.Leaf && len(n.Kids) > 0 || !n.Leaf && len(n.Kids) != len(n.Keys)+1 {
			f.t.Fatalf("node %d: %v", i, n)
		}
		for _, kid := range n.Kids {
			if kid != next {
				f.t.Fatalf("node %d: a kid %d, not %d", i, kid, next)
			}
			next++
		}
	}
	if next != len(f.nodes) {
		f.t.Fatalf("%d nodes, of which %d are reached", len(f.nodes), next)
	}
}

// below goes through what lies below a node, whose keys must be from one on, and below another, if there is one.
func (f *form) below(i, depth int, from string, to *string) {
	f.t.Helper()
	n := f.nodes[i]
	if !slices.IsSorted(n.Keys) || len(slices.Compact(slices.Clone(n.Keys))) != len(n.Keys) {
		f.t.Fatalf("node %d: its keys do not rise: %q", i, n.Keys)
	}
	f.filled(i)
	if n.Leaf {
		if f.depth == 0 {
			f.depth = depth
		}
		if depth != f.depth {
			f.t.Fatalf("node %d: a leaf at depth %d, and one at %d", i, depth, f.depth)
		}
		for _, k := range n.Keys {
			if k < from || to != nil && k >= *to {
				f.t.Fatalf("node %d: the key %q does not lie between those above it", i, k)
			}
		}
		f.keys = append(f.keys, n.Keys...)
		return
	}
	for j, kid := range n.Kids {
		kidFrom, kidTo := from, to
		if j > 0 {
			kidFrom = n.Keys[j-1]
		}
		if j < len(n.Keys) {
			kidTo = &n.Keys[j]
		}
		f.below(kid, depth+1, kidFrom, kidTo)
	}
}

// filled looks whether a node has neither too few parts nor too many.
func (f *form) filled(i int) {
	f.t.Helper()
	n := f.nodes[i]
	parts, least, most := len(n.Keys), f.leafLeast(), f.order-1
	if !n.Leaf {
		parts, least, most = len(n.Kids), f.innerLeast(), f.order
	}
	if i == 0 {
		least = 0
		if !n.Leaf {
			least = 2
		}
	}
	if parts < least || parts > most {
		f.t.Fatalf("node %d, of a tree of order %d: %d parts, not %d to %d", i, f.order, parts, least, most)
	}
}

// leafLeast is (m - 1) / 2, rounded up.
func (f *form) leafLeast() int {
	return (f.order-1)/2 + (f.order-1)%2
}

// innerLeast is m / 2, rounded up.
func (f *form) innerLeast() int {
	return f.order/2 + f.order%2
}

// flat looks whether there are as many keys as there must be for so many depths.
func (f *form) flat() { // P5.5
	f.t.Helper()
	if f.depth < 2 {
		return
	}
	least := 2 * f.leafLeast()
	for range f.depth - 2 {
		least *= f.innerLeast()
	}
	if len(f.keys) < least {
		f.t.Fatalf("%d keys at %d depths, not %d at least", len(f.keys), f.depth, least)
	}
}

// inAllWays are some orders to put or to delete keys in.
func inAllWays(keys []string) [][]string {
	n := numbers(len(keys))
	var in, out []string // from the ends to the middle, and the other way
	for i := range len(keys) / 2 {
		in = append(in, keys[i], keys[len(keys)-1-i])
	}
	if len(keys)%2 == 1 {
		in = append(in, keys[len(keys)/2])
	}
	out = falling(in)
	return [][]string{keys, falling(keys), in, out, n.mixed(keys)}
}

// wantFormKept looks at the form while keys are put in one order and deleted in another one: as often as look says of how many there are.
func wantFormKept(t *testing.T, order int, in, out []string, look func(int) bool) {
	t.Helper()
	x := newTree(t, order)
	c := content{}
	for _, k := range in {
		puts(t, x, k, 1, true)
		c[k] = 1
		if look(len(c)) {
			wantForm(t, x, order, c)
		}
	}
	wantForm(t, x, order, c)
	for _, k := range out {
		deletes(t, x, k, true)
		delete(c, k)
		if look(len(c)) {
			wantForm(t, x, order, c)
		}
	}
	wantForm(t, x, order, c)
}

func TestTheFormIsKept(t *testing.T) { // P5.3, P5.5
	for order := api.MinOrder; order <= api.MaxOrder; order++ {
		ways := inAllWays(rising(5*order + 41))
		for i, way := range ways {
			wantFormKept(t, order, way, ways[(2*i+order)%len(ways)], func(many int) bool {
				return many < 2*order || many%7 == 0
			})
		}
	}
}

func TestDeepForms(t *testing.T) { // P5.3, P5.5
	for _, order := range []int{3, 4, 5, 6, 7} {
		ways := inAllWays(rising(700))
		for i, way := range ways {
			wantFormKept(t, order, way, ways[(i+order)%len(ways)], func(many int) bool {
				return many%29 == 0
			})
		}
	}
}

func TestAGreatTreeIsFlat(t *testing.T) { // P5.5
	for _, c := range []struct{ order, many, most int }{{3, 10000, 14}, {64, 10000, 3}, {10, 10000, 6}} {
		x := treeOf(t, c.order, rising(c.many)...)
		nodes := x.Nodes()
		depth := 1
		for i := 0; !nodes[i].Leaf; i = nodes[i].Kids[0] {
			depth++
		}
		if depth > c.most {
			t.Errorf("%d keys in a tree of order %d: %d depths, not %d at most", c.many, c.order, depth, c.most)
		}
	}
}

func TestNothingChangesTheFormButAChange(t *testing.T) { // R4: what only asks, and a Delete of what is not there
	x := treeOf(t, 5, rising(200)...)
	was := x.Nodes()
	for _, k := range rising(200) {
		deletes(t, x, k+"x", false)
		x.Get(k)
		x.Next(k, true)
		x.Rank(k)
		x.At(3)
		scanned(x, "", k)
	}
	if !slices.EqualFunc(x.Nodes(), was, sameNode) {
		t.Error("the nodes have changed")
	}
}

func sameNode(a, b api.TreeNode) bool {
	return a.Leaf == b.Leaf && slices.Equal(a.Keys, b.Keys) && slices.Equal(a.Kids, b.Kids)
}
