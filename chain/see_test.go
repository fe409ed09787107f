package chain_test

import (
	"math"
	"slices"
	"testing"

	"keystone/api"
	"keystone/tuple"
)

func TestTheExampleOfSnapshots(t *testing.T) { // P6.3
	one, two := tuple.Int(1), tuple.Int(2)
	c := chainOf(t, []api.Version{put(3, one), gone(5), put(7, two)})
	wants := []struct {
		snapshot int64
		val      []api.Value
		seen     int64
	}{
		{math.MinInt64, nil, 0}, {0, nil, 0}, {2, nil, 0},
		{3, []api.Value{one}, 3}, {4, []api.Value{one}, 3},
		{5, nil, 5}, {6, nil, 5},
		{7, []api.Value{two}, 7}, {8, []api.Value{two}, 7}, {math.MaxInt64, []api.Value{two}, 7},
	}
	for _, w := range wants {
		if val, is := c.At(w.snapshot); is != (w.val != nil) || !slices.Equal(val, w.val) {
			t.Errorf("At(%d): %v, %v", w.snapshot, val, is)
		}
		if c.Seen(w.snapshot) != w.seen {
			t.Errorf("Seen(%d): %d", w.snapshot, c.Seen(w.snapshot))
		}
	}
	if c.Last() != 7 || c.Len() != 3 {
		t.Errorf("Last %d, Len %d", c.Last(), c.Len())
	}
}

func TestARowWithoutValuesIsThere(t *testing.T) { // P6.3
	c := chainOf(t, []api.Version{put(2), gone(3), put(5)})
	for s, want := range []bool{false, false, true, false, false, true, true} {
		if val, is := c.At(int64(s)); is != want || len(val) != 0 {
			t.Errorf("At(%d): %v, %v", s, val, is)
		}
	}
}

func TestAllIsAsItWas(t *testing.T) { // P6.3, R3
	m := model(mixed(3, -5, 7))
	want := slices.Clone(m)
	slices.Reverse(want)
	c := chainOf(t, m)
	all := c.All()
	puts(t, c, 8, row(8)...)
	drops(t, c, 9)
	d := c.Clone()
	if n := c.Collect(9); n != 5 {
		t.Fatalf("Collect: %d", n)
	}
	puts(t, c, 1, row(11)...)
	puts(t, d, 10, row(10)...)
	for range 2 {
		if got := slices.Collect(all); !slices.EqualFunc(got, want, sameVersion) {
			t.Errorf("All: %v", got)
		}
	}
}

func TestAllWhileItIsGoneThrough(t *testing.T) { // P6.3, R3
	c := chainOf(t, mixed(1, 2, -3, 4))
	var got []int64
	for v := range c.All() {
		got = append(got, v.At)
		c.Collect(v.At)
		c.Put(v.At+10, nil)
		c.Drop(v.At + 20)
	}
	if !slices.Equal(got, []int64{4, 3, 2, 1}) {
		t.Errorf("All: %v", got)
	}
}

func TestAllIsLeftAndNested(t *testing.T) { // P6.3, R3
	l := mixed(1, 2, -3, 4)
	all := chainOf(t, l).All()
	for most := range len(l) + 1 {
		n := 0
		for v := range all {
			if n == most {
				break
			}
			n++
			if !sameVersion(v, l[len(l)-n]) {
				t.Errorf("version %d from the last one back: %v", n, v)
			}
		}
	}
	n := 0
	for v := range all {
		for w := range all {
			if v.At == w.At {
				n++
			}
		}
	}
	if n != len(l) {
		t.Errorf("nested: %d", n)
	}
}
