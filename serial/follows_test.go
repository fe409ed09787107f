package serial_test

import (
	"slices"
	"strconv"
	"testing"

	"keystone/api"
	"keystone/serial"
)

// replay runs the transactions one behind the other: whether each read of another one's version finds just that one.
func replay(h api.History, order []int) bool {
	last := map[string]int{}
	for _, txn := range order {
		for _, a := range h.Acts {
			if a.Txn == txn && !a.Write && a.Ver != txn && last[a.Item] != a.Ver {
				return false
			}
		}
		for _, a := range h.Acts {
			if a.Txn == txn && a.Write {
				last[a.Item] = txn
			}
		}
	}
	return true
}

func TestReplayed(t *testing.T) { // P11.4
	n := numbers(41)
	count := 0
	for range 6000 {
		h := anyHistory(&n, n.below(7), 1+n.below(4), 2+n.below(9))
		for order := range serial.Orders(h) {
			if !replay(h, order) {
				t.Fatalf("%v: %v", h, order)
			}
			wantSerial(t, h, order, true)
			count++
		}
	}
	if count < 10000 {
		t.Errorf("only %d serial orders", count)
	}
}

func TestWhatReplaysOtherwiseIsNotSerial(t *testing.T) { // P11.4
	n := numbers(42)
	count := 0
	for range 6000 {
		h := anyHistory(&n, 2+n.below(5), 1+n.below(4), 2+n.below(9))
		order := shuffled(&n, h.Commits)
		if !replay(h, order) {
			wantSerial(t, h, order, false)
			count++
		}
	}
	if count < 2000 {
		t.Errorf("only %d orders that replay otherwise", count)
	}
}

// overSnapshots is a history of transactions each of which sees a snapshot, and of which none writes what another one has written behind its snapshot.
func overSnapshots(n *numbers, many, items int) api.History {
	h := history(shuffled(n, upTo(9))[:many])
	wrote := make([][]int, items) // where each one has been written, as places among the commits
	for i, txn := range h.Commits {
		place := n.below(i + 1) // so many are ahead of it
		for item := range items {
			name := strconv.Itoa(item)
			ver := 0
			for _, p := range wrote[item] {
				if p < place {
					ver = h.Commits[p]
				}
			}
			if n.below(2) == 0 {
				h.Acts = append(h.Acts, reads(txn, name, ver))
			}
			free := !slices.ContainsFunc(wrote[item], func(p int) bool { return p >= place })
			if free && n.below(3) == 0 {
				wrote[item] = append(wrote[item], i)
				h.Acts = append(h.Acts, writes(txn, name))
			}
		}
	}
	h.Acts = shuffled(n, h.Acts)
	return h
}

// twoReadsOneBehindTheOther tells whether a round has two dependencies DRw one behind the other.
func twoReadsOneBehindTheOther(deps []api.Dep, round []int) bool {
	k := len(round)
	for i := range round {
		in, out := rw(round[i], round[(i+1)%k]), rw(round[(i+1)%k], round[(i+2)%k])
		if slices.Contains(deps, in) && slices.Contains(deps, out) {
			return true
		}
	}
	return false
}

func TestOverSnapshots(t *testing.T) { // P11.5
	n := numbers(51)
	count := 0
	for range 20000 {
		h := overSnapshots(&n, n.below(8), 1+n.below(5))
		wantRight(t, h)
		if _, is, _ := serial.Order(h); is {
			continue
		}
		deps, _ := serial.Graph(h)
		round, _ := serial.Round(h)
		pivots, _ := serial.Pivots(h)
		if !twoReadsOneBehindTheOther(deps, round) || len(pivots) == 0 {
			t.Fatalf("%v: %v, %v, pivots %v", h, deps, round, pivots)
		}
		count++
	}
	if count < 2000 {
		t.Errorf("only %d without a serial order", count)
	}
}

func TestNotOverSnapshots(t *testing.T) { // P11.5: a lost update has no pivot
	h := history([]int{1, 2}, reads(1, "x", 0), reads(2, "x", 0), writes(1, "x"), writes(2, "x"))
	wantNoOrder(t, h)
	wantRound(t, h, 1, 2)
	wantPivots(t, h)
}

func TestReadOnlyAnomaly(t *testing.T) { // P11.5: three over snapshots, of which one reads alone
	h := history([]int{2, 3, 1}, reads(1, "x", 0), reads(1, "y", 0), writes(1, "x"), reads(2, "y", 0), writes(2, "y"), reads(3, "x", 0), reads(3, "y", 2))
	wantGraph(t, h, rw(1, 2), wr(2, 3), rw(3, 1))
	wantNoOrder(t, h)
	wantRound(t, h, 1, 2, 3)
	wantPivots(t, h, 1)
}
