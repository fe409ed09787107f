package chain_test

import (
	"math"
	"slices"
	"testing"

	"keystone/api"
	"keystone/chain"
	"keystone/tuple"
)

// someNumbers are the least, the greatest, and some between.
func someNumbers() []int64 {
	return []int64{math.MinInt64, math.MinInt64 + 1, -1, 0, 1, 2, 5, 1 << 32, math.MaxInt64 - 1, math.MaxInt64}
}

func TestNothingPanics(t *testing.T) { // R1
	lists := [][]api.Value{nil, {}, row(1)}
	for _, w := range wrongLists() {
		lists = append(lists, w.l)
	}
	for _, n := range someNumbers() {
		for _, l := range lists {
			from, _ := chain.From([]api.Version{{At: n, Val: l}, {At: n, Gone: true, Val: l}})
			for _, c := range []*chain.Chain{nil, new(chain.Chain), chain.New(), chainOf(t, mixed(3, -5, 7)), from} {
				c.Put(n, l)
				c.Drop(n)
				c.Clone().Put(n, l)
				c.At(n)
				c.Seen(n)
				c.Last()
				c.Len()
				c.Dead(n)
				for range c.All() {
				}
				for range c.All() {
					break
				}
				c.Clone().Collect(n)
				c.Collect(n)
			}
		}
	}
}

func TestChainsThatNoCallMade(t *testing.T) { // R5
	for _, c := range []*chain.Chain{nil, new(chain.Chain)} {
		for _, n := range someNumbers() {
			for _, l := range [][]api.Value{nil, row(1), {{}}} { // ErrMade is ahead of all else
				if e := c.Put(n, l); e != api.ErrMade {
					t.Errorf("Put(%d): %v", n, e)
				}
			}
			if e := c.Drop(n); e != api.ErrMade {
				t.Errorf("Drop(%d): %v", n, e)
			}
			if l, is := c.At(n); l != nil || is {
				t.Errorf("At(%d): %v, %v", n, l, is)
			}
			if c.Seen(n) != 0 || c.Collect(n) != 0 || c.Dead(n) {
				t.Errorf("Seen, Collect, Dead of %d", n)
			}
		}
		if c.Last() != 0 || c.Len() != 0 || c.Clone() != nil {
			t.Errorf("Last %d, Len %d, Clone %v", c.Last(), c.Len(), c.Clone())
		}
		for v := range c.All() {
			t.Errorf("All: %v", v)
		}
	}
}

// scribble writes over a list of values, and over its spare room.
func scribble(l []api.Value) {
	l = l[:cap(l)]
	for i := range l {
		l[i] = tuple.Bytes("scribble")
	}
}

// roomy is a list with some spare room behind it that must stay as it is.
func roomy(l []api.Value) []api.Value {
	l = append(slices.Clone(l), tuple.Bytes("behind it"), tuple.Bytes("more"))
	return l[:len(l)-2]
}

func TestWhatIsHandedInIsNotKept(t *testing.T) { // R3
	m := model(mixed(3, -5, 7))
	val, more := roomy(row(3)), roomy(row(7))
	c := chain.New()
	puts(t, c, 3, val...)
	if e := c.Put(4, val); e != api.OK {
		t.Fatal(e)
	}
	scribble(val)
	append(model(mixed(3)), put(4, row(3)...)).want(t, c)
	l := []api.Version{{At: 3, Val: roomy(row(3))}, {At: 5, Gone: true, Val: more}, {At: 7, Val: more}}
	d, e := chain.From(l[:3:3])
	if e != api.OK {
		t.Fatal(e)
	}
	for _, v := range l {
		scribble(v.Val)
	}
	clear(l)
	m.want(t, d)
}

func TestWhatIsHandedInIsNotChanged(t *testing.T) { // R3
	val, gones := roomy(row(3)), roomy([]api.Value{{}})
	versions := append([]api.Version{{At: 3, Val: val}, {At: 5, Gone: true, Val: gones}}, put(99))[:2]
	c, e := chain.From(versions)
	if e != api.OK {
		t.Fatal(e)
	}
	c.Put(7, val)
	c.Collect(7)
	l, _ := c.At(7)
	scribble(l)
	behind := []api.Value{tuple.Bytes("behind it"), tuple.Bytes("more")}
	if !slices.Equal(val[:len(val)+2], append(row(3), behind...)) || !slices.Equal(gones[:3], append([]api.Value{{}}, behind...)) {
		t.Error("the values are others")
	}
	if len(versions) != 2 || versions[0].At != 3 || versions[0].Gone || versions[1].At != 5 || !versions[1].Gone || !sameVersion(versions[:3][2], put(99)) {
		t.Error("the versions are others")
	}
}

func TestAnswersAreNewMemory(t *testing.T) { // R3
	m := model(mixed(3, 4, -5, 7))
	c := chainOf(t, m)
	d, all := c.Clone(), c.All()
	for s := range int64(9) {
		l, _ := c.At(s)
		scribble(l)
		l, _ = d.At(s)
		scribble(l)
	}
	for range 2 {
		for v := range all {
			for w := range all {
				if v.At == w.At && !sameVersion(v, w) {
					t.Errorf("All nested: %v, %v", v, w)
				}
				scribble(w.Val)
			}
			scribble(v.Val)
		}
	}
	told := slices.Collect(all)
	for i, v := range told {
		if want := m[len(m)-1-i]; !sameVersion(v, want) {
			t.Errorf("version %d: %v, not %v", i, v, want)
		}
		scribble(v.Val) // those behind it must stay as they are
	}
	m.want(t, c)
	m.want(t, d)
}

func TestChainsKnowNothingOfEachOther(t *testing.T) { // R4
	l := mixed(3, -5, 7)
	c, _ := chain.From(l)
	d, _ := chain.From(l)
	drops(t, c, 8)
	c.Collect(8)
	puts(t, d, 9, row(9)...)
	model{}.want(t, c)
	append(model(l), put(9, row(9)...)).want(t, d)
}
