package serial_test

import (
	"slices"
	"strconv"
	"testing"

	"keystone/api"
)

// The model does what the chapter tells, word by word, however long that takes.

func modelRight(h api.History) bool {
	if len(h.Acts) > api.MaxActs || len(h.Commits) > api.MaxActs {
		return false
	}
	for i, c := range h.Commits {
		if c < 1 || slices.Contains(h.Commits[:i], c) {
			return false
		}
	}
	for i, a := range h.Acts {
		if !slices.Contains(h.Commits, a.Txn) || a.Write && a.Ver != 0 {
			return false
		}
		if a.Write && slices.Contains(h.Acts[:i], a) {
			return false
		}
		if !a.Write && a.Ver != 0 && (!slices.Contains(h.Commits, a.Ver) || !slices.Contains(h.Acts, writes(a.Ver, a.Item))) {
			return false
		}
	}
	return true
}

// modelNext is the version of an item behind another one; 0: there is none.
func modelNext(h api.History, item string, ver int) int {
	versions := []int{0}
	for _, c := range h.Commits {
		if slices.Contains(h.Acts, writes(c, item)) {
			versions = append(versions, c)
		}
	}
	versions = append(versions, 0)
	return versions[slices.Index(versions, ver)+1]
}

func modelDepends(h api.History, d api.Dep) bool {
	for _, a := range h.Acts {
		counts := !a.Write && a.Ver != a.Txn
		switch {
		case d.Kind == api.DWr && counts && a.Txn == d.To && a.Ver == d.From && d.From != 0:
			return true
		case d.Kind == api.DWw && a.Write && a.Txn == d.From && modelNext(h, a.Item, d.From) == d.To:
			return true
		case d.Kind == api.DRw && counts && a.Txn == d.From && d.From != d.To && modelNext(h, a.Item, a.Ver) == d.To:
			return true
		}
	}
	return false
}

func modelGraph(h api.History) []api.Dep {
	var l []api.Dep
	all := slices.Sorted(slices.Values(h.Commits))
	for _, from := range all {
		for _, to := range all {
			for _, kind := range []int{api.DWr, api.DWw, api.DRw} {
				if d := (api.Dep{From: from, To: to, Kind: kind}); modelDepends(h, d) {
					l = append(l, d)
				}
			}
		}
	}
	return l
}

// permutations of a list, the first ones first.
func permutations(l []int) [][]int {
	if len(l) == 0 {
		return [][]int{nil}
	}
	var all [][]int
	l = slices.Sorted(slices.Values(l))
	for i, first := range l {
		for _, rest := range permutations(slices.Concat(l[:i], l[i+1:])) {
			all = append(all, slices.Concat([]int{first}, rest))
		}
	}
	return all
}

func modelSerial(deps []api.Dep, order []int) bool {
	for _, d := range deps {
		if slices.Index(order, d.From) > slices.Index(order, d.To) {
			return false
		}
	}
	return true
}

func leads(deps []api.Dep, from, to int) bool {
	return slices.ContainsFunc(deps, func(d api.Dep) bool { return d.From == from && d.To == to })
}

// modelRound tries all lists of transactions, the short ones first, and of those the first ones first.
func modelRound(deps []api.Dep, all []int) []int {
	all = slices.Sorted(slices.Values(all))
	var longer func(l []int, left int) []int
	longer = func(l []int, left int) []int {
		if left == 0 {
			if leads(deps, l[len(l)-1], l[0]) {
				return l
			}
			return nil
		}
		for _, n := range all {
			if len(l) == 0 || leads(deps, l[len(l)-1], n) {
				if found := longer(append(slices.Clone(l), n), left-1); found != nil {
					return found
				}
			}
		}
		return nil
	}
	for k := 2; k <= len(all); k++ {
		if l := longer(nil, k); l != nil {
			return l
		}
	}
	return nil
}

func modelPivots(deps []api.Dep, all []int) []int {
	var l []int
	for _, n := range slices.Sorted(slices.Values(all)) {
		in := slices.ContainsFunc(deps, func(d api.Dep) bool { return d.Kind == api.DRw && d.To == n })
		out := slices.ContainsFunc(deps, func(d api.Dep) bool { return d.Kind == api.DRw && d.From == n })
		if in && out {
			l = append(l, n)
		}
	}
	return l
}

// wantModel holds all calls against the model; whether the history is right, and whether it has a serial order.
func wantModel(t *testing.T, h api.History) (right, is bool) {
	t.Helper()
	if !modelRight(h) {
		wantWrong(t, h)
		return false, false
	}
	wantRight(t, h)
	deps := modelGraph(h)
	var orders [][]int
	for _, l := range permutations(h.Commits) {
		is := modelSerial(deps, l)
		wantSerial(t, h, l, is)
		if is {
			orders = append(orders, l)
		}
	}
	wantGraph(t, h, deps...)
	wantOrders(t, h, orders...)
	wantRound(t, h, modelRound(deps, h.Commits)...)
	wantPivots(t, h, modelPivots(deps, h.Commits)...)
	if len(orders) == 0 {
		wantNoOrder(t, h)
		return true, false
	}
	wantOrder(t, h, orders[0]...)
	wantRound(t, h)
	return true, true
}

// anyHistory is a right one: transactions with any numbers, which have committed in any order, and read and write as they like.
func anyHistory(n *numbers, many, items, acts int) api.History {
	h := history(shuffled(n, upTo(9))[:many])
	if many == 0 {
		return h
	}
	wrote := map[string][]int{}
	for range n.below(acts + 1) {
		txn, item := oneOf(n, h.Commits), strconv.Itoa(n.below(items))
		if !slices.Contains(wrote[item], txn) {
			wrote[item] = append(wrote[item], txn)
			h.Acts = append(h.Acts, writes(txn, item))
		}
	}
	for range n.below(acts + 1) {
		txn, item := oneOf(n, h.Commits), strconv.Itoa(n.below(items))
		h.Acts = append(h.Acts, reads(txn, item, oneOf(n, append(wrote[item], 0))))
	}
	h.Acts = shuffled(n, h.Acts)
	return h
}

func TestManyHistories(t *testing.T) { // P11.1 to P11.3
	n := numbers(11)
	count := map[bool]int{}
	for range 4000 {
		_, is := wantModel(t, anyHistory(&n, n.below(6), 1+n.below(4), 2+n.below(9)))
		count[is]++
	}
	if count[true] < 500 || count[false] < 500 {
		t.Errorf("serial and other ones: %v", count)
	}
}

func TestManyWrongHistories(t *testing.T) { // P11.1
	n := numbers(12)
	count := map[bool]int{}
	some := []int{-1, 0, 1, 2, 3, 4, 9, 10}
	for range 8000 {
		h := anyHistory(&n, 1+n.below(3), 2, 6)
		if len(h.Acts) == 0 {
			continue
		}
		a := &h.Acts[n.below(len(h.Acts))]
		switch n.below(7) {
		case 0:
			a.Txn = oneOf(&n, some)
		case 1:
			a.Ver = oneOf(&n, some)
		case 2:
			a.Item = oneOf(&n, []string{"0", "1", ""})
		case 3:
			a.Write = !a.Write
		case 4:
			h.Commits[n.below(len(h.Commits))] = oneOf(&n, some)
		case 5:
			h.Acts = append(h.Acts, *a)
		case 6:
			h.Acts = slices.DeleteFunc(h.Acts, func(b api.Act) bool { return b == *a })
		}
		right, _ := wantModel(t, h)
		count[right]++
	}
	if count[true] < 500 || count[false] < 500 {
		t.Errorf("right and other ones: %v", count)
	}
}

// TestAllSmallHistories goes through all that two transactions may do with two items: each may write each one, and read nothing of it or any version.
func TestAllSmallHistories(t *testing.T) { // P11.1 to P11.3
	count := map[bool]int{}
	for which := range 1 << 12 {
		h := history([]int{2, 1})
		for _, txn := range h.Commits {
			for _, item := range []string{"x", "y"} {
				if which&1 == 1 {
					h.Acts = append(h.Acts, writes(txn, item))
				}
				if ver := which >> 1 & 3; ver < 3 {
					h.Acts = append(h.Acts, reads(txn, item, ver))
				}
				which >>= 3
			}
		}
		right, _ := wantModel(t, h)
		count[right]++
	}
	if count[true] < 500 || count[false] < 500 {
		t.Errorf("right and other ones: %v", count)
	}
}
