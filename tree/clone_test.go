package tree_test

import (
	"maps"
	"testing"

	"keystone/api"
	"keystone/tree"
)

func TestAClone(t *testing.T) { // P5.2: the same keys and numbers; its form is one of the same order
	some := textsOf("\x00a\xff", 4)
	for order := api.MinOrder; order <= api.MaxOrder; order++ {
		n := numbers(order)
		x, c := newTree(t, order), content{}
		for range 300 {
			n.does(t, x, c, some, 8)
		}
		y, d := x.Clone(), maps.Clone(c)
		wantEach(t, y, d, some)
		wantForm(t, y, order, d)
		for _, k := range rising(3 * order) { // so many that a greater or a lesser order is seen
			puts(t, y, k, 1, true)
			d[k] = 1
		}
		wantForm(t, y, order, d)
		wantForm(t, x, order, c)
	}
}

func TestClonesKnowNothingOfEachOther(t *testing.T) { // P5.2, R4
	some := textsOf("\x00a\xff", 3)
	for _, order := range []int{3, 4, 5, 8, 64} {
		n := numbers(order)
		trees := []*tree.Tree{newTree(t, order)}
		contents := []content{{}}
		for range 12 {
			for range 50 {
				i := n.below(len(trees))
				n.does(t, trees[i], contents[i], some, 6)
			}
			for i, x := range trees {
				wantEach(t, x, contents[i], some)
				wantForm(t, x, order, contents[i])
			}
			i := n.below(len(trees))
			trees = append(trees, trees[i].Clone())
			contents = append(contents, maps.Clone(contents[i]))
		}
	}
}

func TestAScanOfAClone(t *testing.T) { // P5.2, R4
	keys, c := evens()
	x := treeOf(t, 3, keys...)
	y := x.Clone()
	scan := y.Scan("", above)
	for _, k := range keys {
		deletes(t, x, k, true)
	}
	n := 0
	for k, v := range scan {
		if k != keys[n] || v != c[k] {
			t.Errorf("key %d: %q, %d", n, k, v)
		}
		n++
	}
	if n != len(keys) {
		t.Errorf("%d keys", n)
	}
}
