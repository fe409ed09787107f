package chain_test

import (
	"math"
	"slices"
	"strings"
	"testing"

	"keystone/api"
	"keystone/chain"
	"keystone/tuple"
)

// numbers tells one number behind the other, always the same ones.
type numbers uint64

func (n *numbers) below(most int) int {
	*n = *n*6364136223846793005 + 1442695040888963407
	return int(uint64(*n)>>33) % most
}

// row is a list of values that tells one number from another.
func row(n int64) []api.Value {
	return []api.Value{tuple.Int(n), tuple.Bytes("a row"), tuple.Point(n%9, -1)}
}

// put and gone are versions.
func put(at int64, val ...api.Value) api.Version {
	return api.Version{At: at, Val: val}
}

func gone(at int64) api.Version {
	return api.Version{At: at, Gone: true}
}

// mixed is a chain of versions at some commits: the row is gone at those below 0.
func mixed(ats ...int64) []api.Version {
	var l []api.Version
	for _, at := range ats {
		if at < 0 {
			l = append(l, gone(-at))
		} else {
			l = append(l, put(at, row(at)...))
		}
	}
	return l
}

func sameVersion(a, b api.Version) bool {
	return a.At == b.At && a.Gone == b.Gone && slices.Equal(a.Val, b.Val)
}

func puts(t *testing.T, c *chain.Chain, at int64, val ...api.Value) {
	t.Helper()
	if e := c.Put(at, val); e != api.OK {
		t.Fatalf("Put(%d): %v", at, e)
	}
}

func drops(t *testing.T, c *chain.Chain, at int64) {
	t.Helper()
	if e := c.Drop(at); e != api.OK {
		t.Fatalf("Drop(%d): %v", at, e)
	}
}

// chainOf is a chain of versions, made one by one.
func chainOf(t *testing.T, l []api.Version) *chain.Chain {
	t.Helper()
	c := chain.New()
	for _, v := range l {
		if v.Gone {
			drops(t, c, v.At)
		} else {
			puts(t, c, v.At, v.Val...)
		}
	}
	return c
}

// model is the versions that a chain must have, rising. What it answers is looked for among all of them, snapshot by snapshot.
type model []api.Version

// seen is the version that a snapshot sees, and whether there is one.
func (m model) seen(snapshot int64) (api.Version, bool) {
	var best api.Version
	found := false
	for _, v := range m {
		if v.At <= snapshot && (!found || v.At > best.At) {
			best, found = v, true
		}
	}
	return best, found
}

// views are snapshots from one on, among which there is one for each thing that any of them sees.
func (m model) views(oldest int64) []int64 {
	l := []int64{oldest, math.MaxInt64}
	for _, v := range m {
		if v.At >= oldest {
			l = append(l, v.At)
		}
	}
	return l
}

// dead tells whether no snapshot from one on sees values.
func (m model) dead(oldest int64) bool {
	return !slices.ContainsFunc(m.views(oldest), func(snapshot int64) bool {
		v, found := m.seen(snapshot)
		return found && !v.Gone
	})
}

// collected is what Collect leaves.
func (m model) collected(oldest int64) model {
	var left model
	for _, v := range m {
		if slices.ContainsFunc(m.views(oldest), func(snapshot int64) bool {
			s, found := m.seen(snapshot)
			return found && s.At == v.At
		}) {
			left = append(left, v)
		}
	}
	if len(left) > 0 && left[0].Gone && left[0].At <= oldest {
		left = left[1:]
	}
	return left
}

// last is the commit of the last version.
func (m model) last() int64 {
	v, _ := m.seen(math.MaxInt64)
	return v.At
}

// snapshots are snapshots around all commits of a model, and the least and the greatest ones.
func (m model) snapshots() []int64 {
	l := []int64{math.MinInt64, -1, 0, 1, math.MaxInt64 - 1, math.MaxInt64}
	for _, v := range m {
		l = append(l, v.At-1, v.At)
		if v.At < math.MaxInt64 {
			l = append(l, v.At+1)
		}
	}
	return l
}

// want holds all that a chain says against what it must say.
func (m model) want(t *testing.T, c *chain.Chain) {
	t.Helper()
	if c.Len() != len(m) || c.Last() != m.last() {
		t.Fatalf("%v: Len %d, Last %d", m, c.Len(), c.Last())
	}
	back := slices.Clone(m)
	slices.Reverse(back)
	if got := slices.Collect(c.All()); !slices.EqualFunc(got, back, sameVersion) {
		t.Fatalf("%v: All: %v", m, got)
	}
	for _, s := range m.snapshots() {
		v, found := m.seen(s)
		if c.Seen(s) != v.At {
			t.Fatalf("%v: Seen(%d): %d", m, s, c.Seen(s))
		}
		if val, is := c.At(s); is != (found && !v.Gone) || !slices.Equal(val, v.Val) {
			t.Fatalf("%v: At(%d): %v, %v", m, s, val, is)
		}
		if c.Dead(s) != m.dead(s) {
			t.Fatalf("%v: Dead(%d): %v", m, s, c.Dead(s))
		}
	}
}

// wrongList is a list that may not be, and why.
type wrongList struct {
	l    []api.Value
	want api.Errno
}

// wrongLists are lists of values that may not be.
func wrongLists() []wrongList {
	good := tuple.Int(1)
	var many, manyWrong []api.Value
	for range 2*api.MaxColumns + 1 {
		many, manyWrong = append(many, good), append(manyWrong, api.Value{})
	}
	half := api.Value{Kind: api.KPoint, Point: complex(0, 0.5)}
	long := tuple.Bytes(strings.Repeat("x", api.MaxBytes+1))
	return []wrongList{
		{many, api.ErrLong},
		{manyWrong, api.ErrLong},
		{[]api.Value{{}}, api.ErrKind},
		{[]api.Value{good, {Kind: 5}}, api.ErrKind},
		{[]api.Value{{Kind: api.KInt, Yes: true}, long}, api.ErrKind},
		{[]api.Value{good, long, {}}, api.ErrLong},
		{[]api.Value{half, long}, api.ErrTuplePart},
	}
}
