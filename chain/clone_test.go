package chain_test

import (
	"slices"
	"testing"

	"keystone/api"
	"keystone/chain"
)

func TestAClone(t *testing.T) { // P6.5
	for _, l := range chains() {
		c := chainOf(t, l)
		d := c.Clone()
		if c == d {
			t.Fatal("no other chain")
		}
		model(l).want(t, d)
		d.Collect(model(l).last())
		d.Put(model(l).last()+1, row(1))
		model(l).want(t, c)
	}
}

func TestClonesGoTheirOwnWay(t *testing.T) { // P6.5, R4
	n := numbers(5)
	for range 40 {
		chains, models := []*chain.Chain{chain.New()}, []model{nil}
		for range 60 {
			i := n.below(len(chains))
			models[i] = n.does(t, chains[i], models[i])
			if n.below(4) == 0 {
				i = n.below(len(chains))
				chains, models = append(chains, chains[i].Clone()), append(models, slices.Clone(models[i]))
			}
			for i, c := range chains {
				models[i].want(t, c)
			}
		}
	}
}

// does puts, drops or collects something, and tells what must be there behind it.
func (n *numbers) does(t *testing.T, c *chain.Chain, m model) model {
	t.Helper()
	at := m.last() + int64(n.below(4))
	switch n.below(8) {
	case 0:
		return wantCollect(t, c, m, m.last()-int64(n.below(12)))
	case 1, 2, 3:
		v, found := m.seen(m.last())
		want := first(at <= m.last(), api.ErrChainOrder, !found || v.Gone, api.ErrChainGone, len(m) >= api.MaxVersions)
		return m.wantMore(t, c.Drop(at), want, gone(at))
	}
	val := row(int64(n.below(1000)))
	want := first(at <= m.last(), api.ErrChainOrder, false, api.OK, len(m) >= api.MaxVersions)
	return m.wantMore(t, c.Put(at, val), want, put(at, val...))
}

// first is the first error of those that come, ErrFull at last.
func first(a bool, errA api.Errno, b bool, errB api.Errno, full bool) api.Errno {
	switch {
	case a:
		return errA
	case b:
		return errB
	case full:
		return api.ErrFull
	}
	return api.OK
}

// wantMore holds an error against what it must be, and is the model with the version more, if there must be none.
func (m model) wantMore(t *testing.T, e, want api.Errno, v api.Version) model {
	t.Helper()
	if e != want {
		t.Fatalf("%v: %v: %v, not %v", m, v, e, want)
	}
	if e != api.OK {
		return m
	}
	return append(slices.Clone(m), v)
}
