package tree_test

import (
	"math"
	"slices"
	"testing"

	"keystone/api"
)

// evens is a tree of b, d, f .. p, and what it holds.
func evens() ([]string, content) {
	c := content{}
	var keys []string
	for b := byte('b'); b <= 'p'; b += 2 {
		keys = append(keys, string(b))
		c[string(b)] = int64(len(keys))
	}
	return keys, c
}

func TestNext(t *testing.T) { // P5.2
	keys, _ := evens()
	cases := []struct {
		k      string
		beyond bool
		want   entry
	}{
		{"", false, entry{"b", 1, true}},
		{"", true, entry{"b", 1, true}},
		{"a", true, entry{"b", 1, true}},
		{"b", false, entry{"b", 1, true}},
		{"b", true, entry{"d", 2, true}},
		{"b\x00", false, entry{"d", 2, true}},
		{"b\x00", true, entry{"d", 2, true}},
		{"b\xff\xff", true, entry{"d", 2, true}},
		{"g", false, entry{"h", 4, true}},
		{"h", false, entry{"h", 4, true}},
		{"h", true, entry{"j", 5, true}},
		{"n", true, entry{"p", 8, true}},
		{"p", false, entry{"p", 8, true}},
		{"p", true, entry{}},
		{"p\x00", false, entry{}},
		{"\xff", true, entry{}},
	}
	for order := api.MinOrder; order <= api.MaxOrder; order++ {
		x := treeOf(t, order, keys...)
		for _, c := range cases {
			if got := entryOf(x.Next(c.k, c.beyond)); got != c.want {
				t.Errorf("order %d: Next(%q, %v): %v, not %v", order, c.k, c.beyond, got, c.want)
			}
		}
	}
}

func TestScan(t *testing.T) { // P5.2
	keys, c := evens()
	bounds := []string{"", "\x00", "a", "b", "b\x00", "c", "d", "h", "h\x00", "i", "o", "p", "p\x00", "q", "\xff"}
	for order := api.MinOrder; order <= api.MaxOrder; order++ {
		x := treeOf(t, order, keys...)
		for _, from := range bounds {
			for _, to := range bounds {
				var want []entry
				for _, k := range keys {
					if k >= from && k < to {
						want = append(want, entry{k, c[k], true})
					}
				}
				if got := scanned(x, from, to); !slices.Equal(got, want) {
					t.Errorf("order %d: Scan(%q, %q): %v, not %v", order, from, to, got, want)
				}
			}
		}
	}
}

func TestAtAndRank(t *testing.T) { // P5.2
	keys, c := evens()
	for order := api.MinOrder; order <= api.MaxOrder; order++ {
		x := treeOf(t, order, falling(keys)...)
		for i, k := range keys {
			if got, want := entryOf(x.At(i)), (entry{k, int64(len(c)) - c[k] + 1, true}); got != want {
				t.Errorf("order %d: At(%d): %v, not %v", order, i, got, want)
			}
			if a, b, c := x.Rank(k), x.Rank(k+"\x00"), x.Rank(k[:0]); a != i || b != i+1 || c != 0 {
				t.Errorf("order %d: the Ranks at %q: %d, %d, %d", order, k, a, b, c)
			}
		}
		for _, i := range []int{math.MinInt, -9, -8, -1, 8, 9, 16, 1 << 32, math.MaxInt} {
			if got := entryOf(x.At(i)); got != (entry{}) {
				t.Errorf("order %d: At(%d): %v", order, i, got)
			}
		}
		if x.Rank("\xff") != len(keys) {
			t.Errorf("order %d: Rank of a key above all: %d", order, x.Rank("\xff"))
		}
	}
}

func TestPlacesAndKeys(t *testing.T) { // P5.6
	some := textsOf("\x00a\xff", 4)
	for order := api.MinOrder; order <= api.MaxOrder; order++ {
		n := numbers(order)
		x := newTree(t, order)
		c := content{}
		for range 400 {
			n.does(t, x, c, some, 7)
		}
		for i := range x.Len() {
			k, _, is := x.At(i)
			if !is || x.Rank(k) != i {
				t.Fatalf("order %d: At(%d): %q, %v, and its Rank: %d", order, i, k, is, x.Rank(k))
			}
		}
		for _, k := range some {
			at := entryOf(x.At(x.Rank(k)))
			if _, there := x.Get(k); there && at.k != k {
				t.Fatalf("order %d: At(Rank(%q)): %v", order, k, at)
			}
			if next := entryOf(x.Next(k, false)); next != at {
				t.Fatalf("order %d: Next(%q, false): %v, not At of its Rank: %v", order, k, next, at)
			}
		}
	}
}

func TestAScanIsOfWhatWasThere(t *testing.T) { // P5.2, R3: when it was asked for
	for _, order := range []int{3, 4, 64} {
		keys, c := evens()
		x := treeOf(t, order, keys...)
		var want []entry
		for i := range keys {
			want = append(want, c.entry(keys, i))
		}
		scan := x.Scan("", above)
		puts(t, x, "d", 70, false)
		puts(t, x, "e", 71, true)
		for _, k := range keys[3:] {
			deletes(t, x, k, true)
		}
		for range 2 { // it may be gone over again
			var got []entry
			for k, v := range scan {
				got = append(got, entry{k, v, true})
				x.Put(k+k, 1) // what is done meanwhile is not seen either
				x.Delete(keys[len(got)%len(keys)])
			}
			if !slices.Equal(got, want) {
				t.Errorf("order %d: %v, not %v", order, got, want)
			}
		}
	}
}

func TestAScanIsLeftAndNested(t *testing.T) { // P5.2, R3
	for _, order := range []int{3, 4, 64} {
		keys, _ := evens()
		scan := treeOf(t, order, keys...).Scan("c", "o")
		for stop := 1; stop <= 6; stop++ {
			var got []string
			for k := range scan {
				got = append(got, k)
				if len(got) == stop {
					break
				}
			}
			if !slices.Equal(got, keys[1:1+stop]) {
				t.Errorf("order %d: left behind %d: %q", order, stop, got)
			}
		}
		var got []string
		for a := range scan {
			for b := range scan {
				got = append(got, a+b)
				if b == a {
					break
				}
			}
		}
		var want []string
		for i := 1; i < 7; i++ {
			for k := 1; k <= i; k++ {
				want = append(want, keys[i]+keys[k])
			}
		}
		if !slices.Equal(got, want) {
			t.Errorf("order %d: nested: %q, not %q", order, got, want)
		}
	}
}
