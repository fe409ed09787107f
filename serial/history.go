package serial

import (
	"cmp"
	"slices"

	"keystone/api"
)

// version is what a transaction has made of an item; the transaction 0 stands for what was there at first.
type version struct {
	item string
	txn  int
}

// right tells whether the parts of a history fit one another.
func right(h api.History) bool {
	at, once := places(h.Commits)
	if !once || slices.ContainsFunc(h.Commits, func(txn int) bool { return txn < 1 }) {
		return false
	}
	wrote := map[version]int{} // how often
	for _, a := range h.Acts {
		if _, is := at[a.Txn]; !is {
			return false
		}
		if a.Write {
			wrote[version{a.Item, a.Txn}]++
		}
	}
	for _, a := range h.Acts {
		if !fits(a, wrote) {
			return false
		}
	}
	return true
}

// fits tells whether an act is right beside the writes of the whole history.
func fits(a api.Act, wrote map[version]int) bool {
	if a.Write {
		return a.Ver == 0 && wrote[version{a.Item, a.Txn}] == 1
	}
	return a.Ver == 0 || wrote[version{a.Item, a.Ver}] > 0
}

// places tells where each number stands in a list; false, if one stands there twice.
func places(l []int) (map[int]int, bool) {
	at := make(map[int]int, len(l))
	for i, n := range l {
		at[n] = i
	}
	return at, len(at) == len(l)
}

// sameKeys tells whether the numbers of a list, each of which stands there once, are those that have a place.
func sameKeys(at map[int]int, l []int) bool {
	for _, n := range l {
		if _, is := at[n]; !is {
			return false
		}
	}
	return len(at) == len(l)
}

// dependencies are those of a right history, each once, rising.
func dependencies(h api.History) []api.Dep {
	var l []api.Dep
	next := nextOnes(h)
	for _, a := range h.Acts {
		if a.Write {
			if to, is := next[version{a.Item, a.Txn}]; is {
				l = append(l, api.Dep{From: a.Txn, To: to, Kind: api.DWw})
			}
			continue
		}
		if a.Ver == a.Txn {
			continue
		}
		if a.Ver != 0 {
			l = append(l, api.Dep{From: a.Ver, To: a.Txn, Kind: api.DWr})
		}
		if to, is := next[version{a.Item, a.Ver}]; is && to != a.Txn {
			l = append(l, api.Dep{From: a.Txn, To: to, Kind: api.DRw})
		}
	}
	slices.SortFunc(l, func(a, b api.Dep) int {
		return cmp.Or(cmp.Compare(a.From, b.From), cmp.Compare(a.To, b.To), cmp.Compare(a.Kind, b.Kind))
	})
	return slices.Compact(l)
}

// nextOnes tells which transaction wrote the version behind a version; nothing of the last ones.
func nextOnes(h api.History) map[version]int {
	at, _ := places(h.Commits)
	var writes []api.Act
	for _, a := range h.Acts {
		if a.Write {
			writes = append(writes, a)
		}
	}
	slices.SortFunc(writes, func(a, b api.Act) int { return cmp.Compare(at[a.Txn], at[b.Txn]) })
	next := map[version]int{}
	newest := map[string]int{} // of each item, as far as the writes have been gone through
	for _, a := range writes {
		next[version{a.Item, newest[a.Item]}] = a.Txn
		newest[a.Item] = a.Txn
	}
	return next
}
