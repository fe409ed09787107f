package tree_test

import (
	"maps"
	"math"
	"slices"
	"sort"
	"strconv"
	"testing"

	"keystone/api"
	"keystone/tree"
)

// numbers tells one number behind the other, always the same ones.
type numbers uint64

func (n *numbers) below(most int) int {
	*n = *n*6364136223846793005 + 1442695040888963407
	return int(uint64(*n)>>33) % most
}

// mixed is a list in another order.
func (n *numbers) mixed(l []string) []string {
	l = slices.Clone(l)
	for i := range l {
		k := i + n.below(len(l)-i)
		l[i], l[k] = l[k], l[i]
	}
	return l
}

// textsOf are all texts of at most so many bytes of an alphabet, the shorter ones first.
func textsOf(alphabet string, most int) []string {
	l := []string{""}
	for from, n := 0, 0; n < most; n++ {
		to := len(l)
		for _, s := range l[from:to] {
			for i := range len(alphabet) {
				l = append(l, s+alphabet[i:i+1])
			}
		}
		from = to
	}
	return l
}

// rising are so many keys, each above the one ahead of it.
func rising(many int) []string {
	l := make([]string, many)
	for i := range l {
		l[i] = "k" + strconv.Itoa(100000+i)
	}
	return l
}

// falling is a list from its end to its front.
func falling(l []string) []string {
	l = slices.Clone(l)
	slices.Reverse(l)
	return l
}

// manyNumbers are numbers that a key may have.
func manyNumbers() []int64 {
	return []int64{0, 1, -1, 255, 256, math.MaxInt32, math.MaxInt32 + 1, math.MinInt32, math.MaxInt64, math.MinInt64, math.MaxInt64 - 1}
}

func newTree(t *testing.T, order int) *tree.Tree {
	t.Helper()
	x, e := tree.New(order)
	if x == nil || e != api.OK {
		t.Fatalf("New(%d): %v", order, e)
	}
	return x
}

// treeOf is a tree of keys that are put one behind the other: the first one with the number 1.
func treeOf(t *testing.T, order int, keys ...string) *tree.Tree {
	t.Helper()
	x := newTree(t, order)
	for i, k := range keys {
		puts(t, x, k, int64(i+1), true)
	}
	return x
}

func puts(t *testing.T, x *tree.Tree, k string, v int64, fresh bool) {
	t.Helper()
	if is, e := x.Put(k, v); is != fresh || e != api.OK {
		t.Fatalf("Put(%q, %d): %v, %v", k, v, is, e)
	}
}

func deletes(t *testing.T, x *tree.Tree, k string, there bool) {
	t.Helper()
	if is, e := x.Delete(k); is != there || e != api.OK {
		t.Fatalf("Delete(%q): %v, %v", k, is, e)
	}
}

// content is what a tree must hold.
type content map[string]int64

func (c content) keys() []string {
	return slices.Sorted(maps.Keys(c))
}

// entry is a key, its number, and whether there is one.
type entry struct {
	k  string
	v  int64
	is bool
}

// entry is the number i of the keys, if there is one.
func (c content) entry(keys []string, i int) entry {
	if i < 0 || i >= len(keys) {
		return entry{}
	}
	return entry{keys[i], c[keys[i]], true}
}

// entryOf makes one of what a call answers.
func entryOf(k string, v int64, is bool) entry {
	return entry{k, v, is}
}

// scanned is all that a scan tells.
func scanned(x *tree.Tree, from, to string) []entry {
	var l []entry
	for k, v := range x.Scan(from, to) {
		l = append(l, entry{k, v, true})
	}
	return l
}

// above is a text above all that the tests put.
const above = "\xff\xff\xff\xff\xff\xff\xff\xff\xff"

// wantAll holds all keys of a tree against what it must hold.
func wantAll(t *testing.T, x *tree.Tree, c content) {
	t.Helper()
	keys := c.keys()
	if x.Len() != len(keys) {
		t.Fatalf("Len: %d, not %d", x.Len(), len(keys))
	}
	var want []entry
	for i := range keys {
		want = append(want, c.entry(keys, i))
	}
	if got := scanned(x, "", above); !slices.Equal(got, want) {
		t.Fatalf("Scan of all: %v, not %v", got, want)
	}
}

// wantOf holds what a tree says of a key against what it must hold.
func wantOf(t *testing.T, x *tree.Tree, c content, keys []string, k string) {
	t.Helper()
	v, there := c[k]
	if got, is := x.Get(k); got != v || is != there {
		t.Fatalf("Get(%q): %d, %v, not %d, %v", k, got, is, v, there)
	}
	rank := sort.SearchStrings(keys, k)
	if got := x.Rank(k); got != rank {
		t.Fatalf("Rank(%q): %d, not %d", k, got, rank)
	}
	if got, want := entryOf(x.Next(k, false)), c.entry(keys, rank); got != want {
		t.Fatalf("Next(%q, false): %v, not %v", k, got, want)
	}
	beyond := rank
	if there {
		beyond++
	}
	if got, want := entryOf(x.Next(k, true)), c.entry(keys, beyond); got != want {
		t.Fatalf("Next(%q, true): %v, not %v", k, got, want)
	}
	for i := rank - 1; i <= rank+1; i++ {
		if got, want := entryOf(x.At(i)), c.entry(keys, i); got != want {
			t.Fatalf("At(%d): %v, not %v", i, got, want)
		}
	}
}

// wantEach holds what a tree says of some keys, and of all together.
func wantEach(t *testing.T, x *tree.Tree, c content, some []string) {
	t.Helper()
	wantAll(t, x, c)
	keys := c.keys()
	for _, k := range some {
		wantOf(t, x, c, keys, k)
	}
}
