package chain

import (
	"iter"
	"math"

	"keystone/api"
)

// At is what a snapshot sees.
func (c *Chain) At(snapshot int64) ([]api.Value, bool) {
	v := c.seen(snapshot)
	if v.Gone {
		return nil, false
	}
	return copied(v.Val), true
}

// Seen is the commit number of the version that a snapshot sees.
func (c *Chain) Seen(snapshot int64) int64 {
	return c.seen(snapshot).At
}

// Last is the commit number of the last version.
func (c *Chain) Last() int64 {
	return c.last().At
}

// Len is how many versions there are.
func (c *Chain) Len() int {
	return len(c.list())
}

// All goes through the versions, from the last one back.
func (c *Chain) All() iter.Seq[api.Version] {
	l := c.list()
	return func(tell func(api.Version) bool) {
		for v := range back(l) {
			v.Val = copied(v.Val)
			if !tell(v) {
				return
			}
		}
	}
}

// Dead tells whether no snapshot from one on sees a row.
func (c *Chain) Dead(oldest int64) bool {
	if c.unmade() {
		return false
	}
	return c.Len() == 0 || c.last().Gone && c.Last() <= oldest
}

// seen is the version that a snapshot sees. One that sees nothing sees a row that is gone, by no commit.
func (c *Chain) seen(snapshot int64) api.Version {
	for v := range back(c.list()) {
		if v.At <= snapshot {
			return v
		}
	}
	return api.Version{Gone: true}
}

// last is the version that the last snapshot of all sees.
func (c *Chain) last() api.Version {
	return c.seen(math.MaxInt64)
}

// back goes through versions from the last one to the first, as snapshots that are asked for are mostly late ones.
func back(l []api.Version) iter.Seq[api.Version] {
	return func(tell func(api.Version) bool) {
		for i := len(l) - 1; i >= 0; i-- {
			if !tell(l[i]) {
				return
			}
		}
	}
}
