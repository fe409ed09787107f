package chain_test

import (
	"math"
	"strings"
	"testing"

	"keystone/api"
	"keystone/chain"
	"keystone/tuple"
)

func TestAnEmptyChain(t *testing.T) { // P6.1, P6.3, P6.4
	c := chain.New()
	if c == nil {
		t.Fatal("New: none")
	}
	model{}.want(t, c)
	for _, s := range []int64{math.MinInt64, -1, 0, 1, math.MaxInt64} {
		if !c.Dead(s) || c.Collect(s) != 0 {
			t.Errorf("Dead, Collect of %d", s)
		}
	}
	model{}.want(t, c)
}

func TestPutAndDrop(t *testing.T) { // P6.1
	c, m := chain.New(), model{}
	for _, v := range mixed(1, 2, -3, 10, 11, -400, 500, -math.MaxInt64) {
		if v.Gone {
			drops(t, c, v.At)
		} else {
			puts(t, c, v.At, v.Val...)
		}
		m = append(m, v)
		m.want(t, c)
	}
}

func TestValuesOfAllSorts(t *testing.T) { // P6.1
	var many []api.Value
	for i := range 2 * api.MaxColumns {
		many = append(many, tuple.Int(int64(i)))
	}
	rows := [][]api.Value{
		nil,
		{},
		many,
		{tuple.Int(math.MinInt64), tuple.Bool(true), tuple.Bool(false), tuple.Point(api.MaxPoint, -api.MaxPoint)},
		{tuple.Bytes(""), tuple.Bytes("\x00\xff"), tuple.Bytes(strings.Repeat("x", api.MaxBytes))},
	}
	c, m := chain.New(), model{}
	for i, val := range rows {
		puts(t, c, int64(i+1), val...)
		m = append(m, put(int64(i+1), val...))
		m.want(t, c)
	}
}

func TestTheGreatestCommit(t *testing.T) { // P6.1
	c := chain.New()
	puts(t, c, math.MaxInt64, row(1)...)
	model{put(math.MaxInt64, row(1)...)}.want(t, c)
	if c.Put(math.MaxInt64, nil) != api.ErrChainOrder || c.Drop(math.MaxInt64) != api.ErrChainOrder {
		t.Error("a commit behind the greatest one")
	}
}

// chains are lists of versions of all sorts, a full one among them.
func chains() [][]api.Version {
	var full []api.Version
	for i := range api.MaxVersions {
		full = append(full, put(int64(2*i+2), row(int64(i))...))
	}
	return [][]api.Version{nil, mixed(1), mixed(7), mixed(3, -5), mixed(3, -5, 7), mixed(2, 4, 6, -math.MaxInt64), full}
}

func TestOrdersThatMayNotBe(t *testing.T) { // P6.1
	for _, l := range chains() {
		c, m := chainOf(t, l), model(l)
		for _, at := range []int64{math.MinInt64, -5, -1, 0, m.last() - 1, m.last()} {
			if e := c.Put(at, row(9)); e != api.ErrChainOrder {
				t.Errorf("%v: Put(%d): %v", m, at, e)
			}
			if e := c.Drop(at); e != api.ErrChainOrder {
				t.Errorf("%v: Drop(%d): %v", m, at, e)
			}
		}
		m.want(t, c)
	}
}

func TestValuesThatMayNotBe(t *testing.T) { // P6.1: ahead of the order, and of the room
	for _, l := range chains() {
		c, m := chainOf(t, l), model(l)
		for _, w := range wrongLists() {
			for _, at := range []int64{0, m.last(), math.MaxInt64} {
				if e := c.Put(at, w.l); e != w.want {
					t.Errorf("%v: Put(%d) of values that may not be: %v, not %v", m, at, e, w.want)
				}
			}
		}
		m.want(t, c)
	}
}

func TestNothingThatCouldGo(t *testing.T) { // P6.1: behind the order
	for _, l := range [][]api.Version{nil, mixed(3, -5), mixed(1, 2, -3, 4, -9)} {
		c, m := chainOf(t, l), model(l)
		for _, at := range []int64{m.last() + 1, math.MaxInt64} {
			if e := c.Drop(at); e != api.ErrChainGone {
				t.Errorf("%v: Drop(%d): %v", m, at, e)
			}
		}
		m.want(t, c)
	}
	c := chainOf(t, mixed(3, -5))
	c.Collect(5)
	if e := c.Drop(6); e != api.ErrChainGone {
		t.Errorf("Drop of what was collected: %v", e)
	}
}

func TestAFullChain(t *testing.T) { // P6.1: behind all else
	var l, twos []api.Version
	for i := range int64(api.MaxVersions) {
		l = append(l, put(i+1, row(i)...))
		twos = append(twos, l[i])
		if i%2 == 1 {
			twos[i] = gone(i + 1)
		}
	}
	c, d := chainOf(t, l), chainOf(t, twos)
	if c.Put(65, row(1)) != api.ErrFull || c.Drop(65) != api.ErrFull || c.Put(65, nil) != api.ErrFull {
		t.Error("one version more than there may be")
	}
	if d.Put(65, row(1)) != api.ErrFull || d.Drop(65) != api.ErrChainGone {
		t.Error("one version more than there may be of a row that is gone")
	}
	model(l).want(t, c)
	model(twos).want(t, d)
	if c.Collect(2) != 1 {
		t.Fatal("Collect")
	}
	drops(t, c, 65)
	if c.Put(66, nil) != api.ErrFull {
		t.Error("one version more than there may be, behind Collect")
	}
	append(model(l[1:]), gone(65)).want(t, c)
}
