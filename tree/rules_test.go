package tree_test

import (
	"math"
	"slices"
	"testing"

	"keystone/api"
	"keystone/tree"
)

// useAll calls all calls of a tree.
func useAll(x *tree.Tree, k string, i int) {
	x.Get(k)
	x.Put(k, int64(i))
	x.Put(k, int64(i))
	x.Len()
	x.Next(k, false)
	x.Next(k, true)
	for range x.Scan(k, k+"x") {
	}
	for range x.Scan(k+"x", k) {
	}
	for range x.Scan("", k) {
		break
	}
	x.Rank(k)
	x.At(i)
	x.Nodes()
	x.Clone().Delete(k)
	x.Delete(k)
	x.Delete(k)
}

func TestNothingPanics(t *testing.T) { // R1
	for _, i := range []int{math.MinInt, -1, 0, 1, 2, 3, 64, math.MaxInt} {
		made, _ := tree.New(i)
		for _, k := range textsOf("\x00a\xff", 2) {
			for _, x := range []*tree.Tree{nil, new(tree.Tree), made, newTree(t, 3), treeOf(t, 3, "a", "aa", "b", "\xff")} {
				useAll(x, k, i)
			}
		}
	}
}

func TestTreesThatNoCallMade(t *testing.T) { // R5
	for _, x := range []*tree.Tree{nil, new(tree.Tree)} {
		for _, k := range []string{"", "a", "\xff"} {
			if is, e := x.Put(k, 1); is || e != api.ErrMade {
				t.Errorf("Put(%q): %v, %v", k, is, e)
			}
			if is, e := x.Delete(k); is || e != api.ErrMade {
				t.Errorf("Delete(%q): %v, %v", k, is, e)
			}
			if v, is := x.Get(k); v != 0 || is {
				t.Errorf("Get(%q): %v, %v", k, v, is)
			}
			if a, b := entryOf(x.Next(k, false)), entryOf(x.Next(k, true)); a != (entry{}) || b != (entry{}) {
				t.Errorf("Next(%q): %v, %v", k, a, b)
			}
			if x.Rank(k) != 0 {
				t.Errorf("Rank(%q): %d", k, x.Rank(k))
			}
			if l := scanned(x, "", k); len(l) != 0 {
				t.Errorf("Scan: %v", l)
			}
		}
		for _, i := range []int{-1, 0, 1} {
			if got := entryOf(x.At(i)); got != (entry{}) {
				t.Errorf("At(%d): %v", i, got)
			}
		}
		if x.Len() != 0 || len(x.Nodes()) != 0 || x.Clone() != nil {
			t.Errorf("Len %d, Nodes %v, Clone %v", x.Len(), x.Nodes(), x.Clone())
		}
	}
}

// scribble writes over all that Nodes has answered, and over its spare room.
func scribble(nodes []api.TreeNode) {
	for _, n := range nodes {
		keys, kids := n.Keys[:cap(n.Keys)], n.Kids[:cap(n.Kids)]
		for i := range keys {
			keys[i] = "scribble"
		}
		for i := range kids {
			kids[i] = -7
		}
	}
	clear(nodes[:cap(nodes)])
}

func TestAnswersAreNewMemory(t *testing.T) { // R3
	for _, order := range []int{3, 5, 64} {
		n := numbers(order)
		some := textsOf("\x00a\xff", 4)
		x, c := newTree(t, order), content{}
		for range 30 {
			for range 15 {
				n.does(t, x, c, some, 7)
			}
			scribble(x.Nodes())
			wantEach(t, x, c, some)
			wantForm(t, x, order, c)
		}
		was, y := x.Nodes(), x.Clone()
		for range 300 {
			n.does(t, x, c, some, 4)
		}
		if !slices.EqualFunc(was, y.Nodes(), sameNode) {
			t.Error("a change of a tree changes what was told of it ahead of that")
		}
	}
}

func TestNoTwoListsOfAnAnswerShareMemory(t *testing.T) { // R3
	x := treeOf(t, 4, rising(60)...)
	want := x.Nodes()
	for i := range want {
		got := x.Nodes()
		scribble(got[i : i+1 : i+1])
		got[i] = want[i]
		if !slices.EqualFunc(got, want, sameNode) {
			t.Errorf("node %d shares memory with another one", i)
		}
	}
}

func TestTreesKnowNothingOfEachOther(t *testing.T) { // R4
	keys, c := evens()
	x, y := treeOf(t, 3, keys...), treeOf(t, 3, keys...)
	for _, k := range keys {
		deletes(t, y, k, true)
		puts(t, y, k+"x", 9, true)
		wantEach(t, x, c, keys)
	}
}

func TestSameTreeSameAnswers(t *testing.T) { // R4
	some := textsOf("\x00a\xff", 4)
	var first []api.TreeNode
	for range 5 {
		n := numbers(77)
		x, c := newTree(t, 5), content{}
		for range 500 {
			n.does(t, x, c, some, 6)
		}
		if first == nil {
			first = x.Nodes()
		}
		if !slices.EqualFunc(x.Nodes(), first, sameNode) {
			t.Fatal("the same changes come to another tree")
		}
	}
}
