package tree_test

import (
	"strings"
	"testing"

	"keystone/api"
	"keystone/tree"
)

func TestWhatPutAndDeleteTell(t *testing.T) { // P5.1
	x := newTree(t, 3)
	for range 3 {
		deletes(t, x, "b", false)
		puts(t, x, "b", 7, true)
		puts(t, x, "b", 7, false)
		puts(t, x, "b", 8, false)
		deletes(t, x, "a", false)
		deletes(t, x, "bb", false)
		deletes(t, x, "", false)
		wantEach(t, x, content{"b": 8}, []string{"", "a", "b", "bb", "c"})
		deletes(t, x, "b", true)
		deletes(t, x, "b", false)
		wantEach(t, x, content{}, []string{"", "a", "b", "bb", "c"})
	}
}

func TestAllNumbers(t *testing.T) { // P5.1: 0 is a number as any other one
	x := newTree(t, 4)
	c := content{}
	for i, k := range rising(3 * len(manyNumbers())) {
		v := manyNumbers()[i%len(manyNumbers())]
		puts(t, x, k, v, true)
		c[k] = v
	}
	wantEach(t, x, c, c.keys())
	for i, k := range c.keys() {
		v := manyNumbers()[(i+5)%len(manyNumbers())]
		puts(t, x, k, v, false)
		c[k] = v
		wantEach(t, x, c, c.keys())
	}
}

func TestAllSortsOfKeys(t *testing.T) { // P5.1: byte by byte, a beginning ahead of what is longer, whatever the bytes
	long := strings.Repeat("x", 1<<16)
	keys := append(textsOf("\x00\x01\x7f\x80\xff", 3), long, long[1:], long+"\x00", long[1:]+"y", "ä", "a\u0308", "\xc3", "\xc3\x28", "Z", "z", "10", "9")
	for _, order := range []int{3, 4, 5, 64} {
		n := numbers(order)
		x := newTree(t, order)
		c := content{}
		for i, k := range n.mixed(keys) {
			puts(t, x, k, int64(i), true)
			c[k] = int64(i)
		}
		wantEach(t, x, c, keys)
		wantForm(t, x, order, c)
		for i, k := range n.mixed(keys) {
			if i%2 == 0 {
				deletes(t, x, k, true)
				delete(c, k)
			}
		}
		wantEach(t, x, c, keys)
		wantForm(t, x, order, c)
	}
}

// does puts or deletes a key, as often as the word says, and notes what must be there behind that.
func (n *numbers) does(t *testing.T, x *tree.Tree, c content, some []string, putsOfTen int) {
	t.Helper()
	k := some[n.below(len(some))]
	_, there := c[k]
	if n.below(10) >= putsOfTen {
		deletes(t, x, k, there)
		delete(c, k)
		return
	}
	v := manyNumbers()[n.below(len(manyNumbers()))]
	puts(t, x, k, v, !there)
	c[k] = v
}

func TestAMap(t *testing.T) { // P5.4
	some := textsOf("\x00a\xff", 4)
	for order := api.MinOrder; order <= api.MaxOrder; order++ {
		n := numbers(order)
		x := newTree(t, order)
		c := content{}
		for round := range 20 {
			putsOfTen := []int{9, 5, 2, 7, 1}[round%5] // so that it grows and shrinks
			for range 60 {
				n.does(t, x, c, some, putsOfTen)
			}
			wantEach(t, x, c, some)
			wantForm(t, x, order, c)
		}
	}
}

// eachOrder goes through all orders of a list.
func eachOrder(l []string, do func([]string)) {
	var from func(int)
	from = func(i int) {
		if i == len(l) {
			do(l)
			return
		}
		for k := i; k < len(l); k++ {
			l[i], l[k] = l[k], l[i]
			from(i + 1)
			l[i], l[k] = l[k], l[i]
		}
	}
	from(0)
}

func TestEveryOrderOfFewKeys(t *testing.T) { // P5.3, P5.4: put in every order, and deleted in every order
	keys := []string{"", "\x00", "a", "aa", "b", "\xff", "\xff\xff"}
	for _, order := range []int{3, 4} {
		eachOrder([]string{"", "\x00", "a", "aa", "b", "\xff", "\xff\xff"}, func(l []string) {
			x := newTree(t, order)
			c := content{}
			for i, k := range l {
				puts(t, x, k, int64(i), true)
				c[k] = int64(i)
			}
			wantEach(t, x, c, keys)
			wantForm(t, x, order, c)
			other := treeOf(t, order, keys...)
			c = content{}
			for i, k := range keys {
				c[k] = int64(i + 1)
			}
			for _, k := range l {
				deletes(t, other, k, true)
				delete(c, k)
				wantAll(t, other, c)
				wantForm(t, other, order, c)
			}
		})
	}
}

func TestManyKeys(t *testing.T) { // P5.4, P5.6: no key is far away
	for _, order := range []int{3, 16, 64} {
		n := numbers(order)
		keys := rising(60000)
		x := treeOf(t, order, n.mixed(keys)...)
		if x.Len() != len(keys) {
			t.Fatalf("Len: %d", x.Len())
		}
		for i, k := range keys {
			got, _, is := x.At(i)
			if got != k || !is || x.Rank(k) != i {
				t.Fatalf("At(%d): %q, %v; Rank(%q): %d", i, got, is, k, x.Rank(k))
			}
		}
		for _, k := range n.mixed(keys) {
			deletes(t, x, k, true)
		}
		wantForm(t, x, order, content{})
	}
}
